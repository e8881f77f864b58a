/- Several texts of the proof, one behind the other. -/
import Derived.Test.YthlmkoiilgjflaaNB3P
/- BraidNormals: words of permutation braids reckoned: six places (c). -/
namespace Go.Proofs.Ythlmkoiilgjflaa
theorem chkG_3 : chkG 6 3 = true := by decide +kernel
theorem chkG_4 : chkG 6 4 = true := by decide +kernel
theorem chkG_5 : chkG 6 5 = true := by decide +kernel
end Go.Proofs.Ythlmkoiilgjflaa
/- BraidNormals: words of permutation braids reckoned: six places (d). -/
namespace Go.Proofs.Ythlmkoiilgjflaa
theorem chkG_6 : chkG 6 6 = true := by decide +kernel
theorem chkG_7 : chkG 6 7 = true := by decide +kernel
theorem chkG_8 : chkG 6 8 = true := by decide +kernel
end Go.Proofs.Ythlmkoiilgjflaa
