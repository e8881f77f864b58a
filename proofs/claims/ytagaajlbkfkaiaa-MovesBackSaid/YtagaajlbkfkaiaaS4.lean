/- The walk of canon.both. -/
import Derived.Test.YtagaajlbkfkaiaaS2P
import Derived.Deep.Cut
namespace Go.Proofs.Ytagaajlbkfkaiaa
open Go.RowKit
end Go.Proofs.Ytagaajlbkfkaiaa
