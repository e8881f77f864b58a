/- Several texts of the proof, one behind the other. -/
import Derived.Test.YtnlcknlodjjdbaaDoorBK7
import Derived.Test.YtnlcknlodjjdbaaDoorPB6P
/- ref.Product with what a ring is worth; the walk of ref.ringPower. -/
namespace Go.Proofs.YtnlcknlodjjdbaaDoor.Poly
open Go.RowKit Go.Maps

end Go.Proofs.YtnlcknlodjjdbaaDoor.Poly
/- The walk of ref.ringPower. -/
namespace Go.Proofs.YtnlcknlodjjdbaaDoor.Poly
open Go.RowKit Go.Maps

end Go.Proofs.YtnlcknlodjjdbaaDoor.Poly
