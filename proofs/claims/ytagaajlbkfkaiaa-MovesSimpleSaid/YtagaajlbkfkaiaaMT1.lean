/- The walk of ref.takenOut. Made by genmt1.py. -/
import Derived.Test.YtagaajlbkfkaiaaF2P
import Derived.Test.YtagaajlbkfkaiaaJ3hP
import Derived.Test.YtagaajlbkfkaiaaF6P
import Derived.Test.YtagaajlbkfkaiaaW2P
import Derived.Test.YtagaajlbkfkaiaaMV5P
import Derived.Deep.RegionHeld
namespace Go.Proofs.Ytagaajlbkfkaiaa
open Go.RowKit

end Go.Proofs.Ytagaajlbkfkaiaa
