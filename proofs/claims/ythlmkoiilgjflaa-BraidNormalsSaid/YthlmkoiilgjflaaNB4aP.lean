/- Several texts of the proof, one behind the other. -/
import Derived.Test.YthlmkoiilgjflaaNB3P
/- BraidNormals: words of permutation braids reckoned: five places. -/
namespace Go.Proofs.Ythlmkoiilgjflaa
theorem chk_5 : chkA 5 = true := by decide +kernel
end Go.Proofs.Ythlmkoiilgjflaa
/- BraidNormals: words of permutation braids reckoned: six places (b). -/
namespace Go.Proofs.Ythlmkoiilgjflaa
theorem chkG_0 : chkG 6 0 = true := by decide +kernel
theorem chkG_1 : chkG 6 1 = true := by decide +kernel
theorem chkG_2 : chkG 6 2 = true := by decide +kernel
end Go.Proofs.Ythlmkoiilgjflaa
