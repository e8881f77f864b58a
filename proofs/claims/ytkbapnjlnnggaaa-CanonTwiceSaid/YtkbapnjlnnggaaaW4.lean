/- The walk of ref.StrandsOf. -/
import Derived.Test.YtkbapnjlnnggaaaW3
import Derived.Test.YtkbapnjlnnggaaaH7
namespace Go.Proofs.Ytkbapnjlnnggaaa
open Go.RowKit

end Go.Proofs.Ytkbapnjlnnggaaa
