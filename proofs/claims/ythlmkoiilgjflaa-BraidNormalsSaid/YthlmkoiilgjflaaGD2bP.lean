/- Several texts of the proof, one behind the other. -/
import Derived.Test.YthlmkoiilgjflaaGD2P
/- The last strand combed: what is asked of few strands, reckoned (b). -/
namespace Go.Proofs.Ythlmkoiilgjflaa
theorem okI_5 : okI 5 = true := by decide +kernel
end Go.Proofs.Ythlmkoiilgjflaa
/- The last strand combed: what is asked of few strands, reckoned (c). -/
namespace Go.Proofs.Ythlmkoiilgjflaa
theorem okI_6 : okI 6 = true := by decide +kernel
end Go.Proofs.Ythlmkoiilgjflaa
