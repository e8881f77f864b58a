/- Several texts of the proof, one behind the other. -/
import Derived.Test.YthlmkoiilgjflaaH1P
/- The walk of ref.DiagramMay where crossings and loops are not too many. -/
namespace Go.Proofs.Ythlmkoiilgjflaa
open Go.RowKit

theorem sizeB_iff {C : List Cr} {loops : Int} (h : sizeB C loops = true) : C.length ≤ 16 ∧ 0 ≤ loops ∧ loops ≤ 16 ∧ ¬(C.length = 0 ∧ loops = 0) := by
  simp only [sizeB, Bool.and_eq_true, decide_eq_true_eq, Bool.not_eq_true', Bool.and_eq_false_iff, decide_eq_false_iff_not] at h
  omega

end Go.Proofs.Ythlmkoiilgjflaa
/- The walk of ref.DiagramMay at whatever diagram; the walk of drawing.unknown. -/
namespace Go.Proofs.Ythlmkoiilgjflaa
open Go.RowKit

end Go.Proofs.Ythlmkoiilgjflaa
