/- The walks of poly.within and poly.mayBe: they answer the same question as PolyMay. -/
import Derived.Test.YtnlcknlodjjdbaaDoorPT2
import Derived.Deep.RegionWith
namespace Go.Proofs.YtnlcknlodjjdbaaDoor.Poly
open Go.RowKit

end Go.Proofs.YtnlcknlodjjdbaaDoor.Poly
