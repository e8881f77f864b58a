/- The walks of poly.combined, poly.Add and poly.Mul. -/
import Derived.Test.YtfceigcjonlhkaaPB3
namespace Go.Proofs.Ytfceigcjonlhkaa.Poly
open Go.RowKit Go.Maps

theorem coef_bd {D : DataW Unit} {l : List (Int × Int)} (hm : mayB l = true) (h : ∀ x, coefOf D x = coefL l x) : ∀ x, -1000000 ≤ coefOf D x ∧ coefOf D x ≤ 1000000 := by
  intro x
  rw [h]
  by_cases h0 : coefL l x = 0
  · rw [h0]; omega
  · have := (coefL_mem ((may_rising hm).imp fun h => by omega) (may_nonzero hm) x (coefL l x)).2 ⟨rfl, h0⟩
    exact (may_coef hm _ this).2.2

/-- Two lists with one place for each exponent and the same terms are one but for their order. -/
theorem perm_of_mem {a b : List (Int × Int)} (ha : a.Pairwise (fun s t => s.1 ≠ t.1)) (hb : b.Pairwise (fun s t => s.1 ≠ t.1)) (h : ∀ t, t ∈ a ↔ t ∈ b) : a.Perm b := by
  have na : a.Nodup := ha.imp fun h e => h (by rw [e])
  have nb : b.Nodup := hb.imp fun h e => h (by rw [e])
  exact (List.perm_ext_iff_of_nodup na nb).2 h

end Go.Proofs.Ytfceigcjonlhkaa.Poly
