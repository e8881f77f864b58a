/- The walk of ref.curlOf, where it refuses. Made by genme4.py. -/
import Derived.Test.YtagaajlbkfkaiaaMV7P
import Derived.Test.YtagaajlbkfkaiaaMV5P
namespace Go.Proofs.Ytagaajlbkfkaiaa
open Go.RowKit

end Go.Proofs.Ytagaajlbkfkaiaa
