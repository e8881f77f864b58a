/- Several texts of the proof, one behind the other. -/
import Derived.Test.YtagaajlbkfkaiaaMVcP
import Derived.Test.YtagaajlbkfkaiaaMV8
import Derived.Test.YtagaajlbkfkaiaaMV7P
import Derived.Deep.QuietTactic
import Derived.BigQuiet
import Derived.Test.YtagaajlbkfkaiaaME5P
import Derived.Test.YtagaajlbkfkaiaaME8
import Derived.Test.YtagaajlbkfkaiaaMV9b
/- The walk of ref.onOneFace. Made by genme9.py. -/
namespace Go.Proofs.Ytagaajlbkfkaiaa
open Go.RowKit

end Go.Proofs.Ytagaajlbkfkaiaa
/- The walk of ref.pushOf. Made by genme10.py. -/
namespace Go.Proofs.Ytagaajlbkfkaiaa
open Go.RowKit

end Go.Proofs.Ytagaajlbkfkaiaa
