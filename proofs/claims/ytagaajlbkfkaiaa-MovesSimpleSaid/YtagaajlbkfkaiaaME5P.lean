/- Several texts of the proof, one behind the other. -/
import Derived.Test.YtagaajlbkfkaiaaME4
import Derived.Test.YtagaajlbkfkaiaaMV7P
import Derived.Test.YtagaajlbkfkaiaaMV9b
import Derived.Deep.QuietTactic
import Derived.BigQuiet
/- The walk of ref.curlOf, where it may be done. Made by genme5.py. -/
namespace Go.Proofs.Ytagaajlbkfkaiaa
open Go.RowKit

end Go.Proofs.Ytagaajlbkfkaiaa
/- Spots with other arcs: the program's map against the reference's set, one after another. -/
namespace Go.Proofs.Ytagaajlbkfkaiaa
open Go.RowKit

end Go.Proofs.Ytagaajlbkfkaiaa
/- The walk of ref.cutIn. Made by genme7.py. -/
namespace Go.Proofs.Ytagaajlbkfkaiaa
open Go.RowKit

end Go.Proofs.Ytagaajlbkfkaiaa
