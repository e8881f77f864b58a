/- A polynomial with the other sign. -/
import Derived.Test.YthbhllomikfbhaaDoorPD2
namespace Go.Proofs.YthbhllomikfbhaaDoor.Poly
open Go.RowKit Go.Maps

/-- All coefficients with the other sign. -/
def negM (l : List (Int × Int)) : List (Int × Int) := l.map fun t => (t.1, -t.2)

theorem may_neg {l : List (Int × Int)} (hm : mayB l = true) : mayB (negM l) = true := by
  refine may_yes _ (by simpa [negM] using ((may_iff l).1 hm).1) fun i hi => (okB_iff _ i).2 ?_
  have hi' : i < l.length := by simpa [negM] using hi
  have h := (okB_iff l i).1 (((may_iff l).1 hm).2 i hi')
  have g : ∀ j, j < l.length → (negM l).getD j (0, 0) = ((l.getD j (0, 0)).1, -(l.getD j (0, 0)).2) := fun j hj => by simp [negM, List.getD, hj]
  rw [g i hi']
  refine ⟨h.1, h.2.1, by simp only; omega, by simp only; omega, by simp only; omega, fun h0 => ?_⟩
  rw [g (i - 1) (by omega)]
  exact h.2.2.2.2.2 h0

theorem canon_neg {l r : List (Int × Int)} (hm : mayB l = true) (h : Canon r (coefL (negM l))) : r = negM l :=
  canon_unique h (canon_self (may_rising (may_neg hm)) (may_nonzero (may_neg hm)))

end Go.Proofs.YthbhllomikfbhaaDoor.Poly
