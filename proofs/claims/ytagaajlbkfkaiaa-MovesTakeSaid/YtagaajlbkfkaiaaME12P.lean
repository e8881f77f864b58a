/- Several texts of the proof, one behind the other. -/
import Derived.Test.YtagaajlbkfkaiaaME11
import Derived.Deep.QuietTactic
import Derived.BigQuiet
/- The walk of ref.slideOf from its counting on. Made by genme12.py. -/
namespace Go.Proofs.Ytagaajlbkfkaiaa
open Go.RowKit

end Go.Proofs.Ytagaajlbkfkaiaa
/- The walk of ref.slideOf. Made by genme13.py. -/
namespace Go.Proofs.Ytagaajlbkfkaiaa
open Go.RowKit

end Go.Proofs.Ytagaajlbkfkaiaa
