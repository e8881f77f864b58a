/- The walk of the law knotworklaw.PolyTurns itself: it answers true. -/
import Derived.Test.YtfceigcjonlhkaaPA11
namespace Go.Proofs.Ytfceigcjonlhkaa.Poly
open Go.RowKit Go.Maps

/-- sameTerms of two values that hold one list. -/
theorem same_one (v1 v2 : Value) (l : List (Int × Int)) (w : World) (hl : l.length ≤ 64) (h1 : Poly w w.heap.size v1 l) (h2 : Poly w w.heap.size v2 l) :
    Calls Try.prog 40 #[v1, v2] w fun e w' => e = .returned (.bool true) ∧ Below w.heap.size w w' := by
  refine (same_poly v1 v2 l l w (by unfold maxLen; omega) h1 h2).mono ?_
  rintro e w' ⟨rfl, hb⟩
  exact ⟨ret_bool (by simp), hb⟩

theorem below_up {B : Nat} {w w1 w2 : World} (h1 : Below B w w1) (h2 : Below w1.heap.size w1 w2) (hB : B ≤ w1.heap.size) : Below B w w2 := h1.trans (h2.mono hB)

end Go.Proofs.Ytfceigcjonlhkaa.Poly
