/- Several texts of the proof, one behind the other. -/
import Derived.Test.YtnlcknlodjjdbaaDoorPB4P
/- The walks of knotworkref.Sum and knotworkref.Product. -/
namespace Go.Proofs.YtnlcknlodjjdbaaDoor.Poly
open Go.RowKit Go.Maps

end Go.Proofs.YtnlcknlodjjdbaaDoor.Poly
/- The walk of the law knotworklaw.PolySums itself: it answers true. -/
namespace Go.Proofs.YtnlcknlodjjdbaaDoor.Poly
open Go.RowKit Go.Maps

end Go.Proofs.YtnlcknlodjjdbaaDoor.Poly
