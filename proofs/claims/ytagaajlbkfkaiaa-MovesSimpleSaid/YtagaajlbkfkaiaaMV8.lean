/- Moves: the walk of bench.onOneFace. -/
import Derived.Test.YtagaajlbkfkaiaaMV5P
import Derived.Test.YtagaajlbkfkaiaaF2P
import Derived.Deep.LoopGhost
namespace Go.Proofs.Ytagaajlbkfkaiaa
open Go.RowKit

end Go.Proofs.Ytagaajlbkfkaiaa
