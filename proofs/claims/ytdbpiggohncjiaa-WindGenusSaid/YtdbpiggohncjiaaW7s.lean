/- Rows of visits and of signs that are the same. -/
import Derived.Test.YtdbpiggohncjiaaW7
namespace Go.Proofs.Ytdbpiggohncjiaa
open Go.RowKit

end Go.Proofs.Ytdbpiggohncjiaa
