/- The walks of poly.within and poly.mayBe: they answer the same question as PolyMay. -/
import Derived.Test.YtfceigcjonlhkaaPT2
import Derived.Deep.RegionWith
namespace Go.Proofs.Ytfceigcjonlhkaa.Poly
open Go.RowKit

end Go.Proofs.Ytfceigcjonlhkaa.Poly
