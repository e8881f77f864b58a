/- The walks of poly.within and poly.mayBe: they answer the same question as PolyMay. -/
import Derived.Test.YtihijieciogabaaDoorPT2
import Derived.Deep.RegionWith
namespace Go.Proofs.YtihijieciogabaaDoor.Poly
open Go.RowKit

end Go.Proofs.YtihijieciogabaaDoor.Poly
