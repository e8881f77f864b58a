/- The walk of ref.laid: a crossing told by the compass. Made by genme8.py. -/
import Derived.Test.YtagaajlbkfkaiaaMVcP
import Derived.Deep.RegionHeld
import Derived.BigRegion
namespace Go.Proofs.Ytagaajlbkfkaiaa
open Go.RowKit

end Go.Proofs.Ytagaajlbkfkaiaa
