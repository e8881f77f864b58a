/- Several texts of the proof, one behind the other. -/
import Derived.Test.YtihijieciogabaaDoorPB3
import Derived.Test.YtihijieciogabaaDoorPA10P
/- The walks of poly.combined, poly.Add and poly.Mul. -/
namespace Go.Proofs.YtihijieciogabaaDoor.Poly
open Go.RowKit Go.Maps

theorem coef_bd {D : DataW Unit} {l : List (Int × Int)} (hm : mayB l = true) (h : ∀ x, coefOf D x = coefL l x) : ∀ x, -1000000 ≤ coefOf D x ∧ coefOf D x ≤ 1000000 := by
  intro x
  rw [h]
  by_cases h0 : coefL l x = 0
  · rw [h0]; omega
  · have := (coefL_mem ((may_rising hm).imp fun h => by omega) (may_nonzero hm) x (coefL l x)).2 ⟨rfl, h0⟩
    exact (may_coef hm _ this).2.2

/-- Two lists with one place for each exponent and the same terms are one but for their order. -/
theorem perm_of_mem {a b : List (Int × Int)} (ha : a.Pairwise (fun s t => s.1 ≠ t.1)) (hb : b.Pairwise (fun s t => s.1 ≠ t.1)) (h : ∀ t, t ∈ a ↔ t ∈ b) : a.Perm b := by
  have na : a.Nodup := ha.imp fun h e => h (by rw [e])
  have nb : b.Nodup := hb.imp fun h e => h (by rw [e])
  exact (List.perm_ext_iff_of_nodup na nb).2 h

end Go.Proofs.YtihijieciogabaaDoor.Poly
/- The walk of the law knotworklaw.PolyTurns itself: it answers true. -/
namespace Go.Proofs.YtihijieciogabaaDoor.Poly
open Go.RowKit Go.Maps

/-- sameTerms of two values that hold one list. -/
theorem same_one (v1 v2 : Value) (l : List (Int × Int)) (w : World) (hl : l.length ≤ 64) (h1 : Poly w w.heap.size v1 l) (h2 : Poly w w.heap.size v2 l) :
    Calls Tryd.prog 9 #[v1, v2] w fun e w' => e = .returned (.bool true) ∧ Below w.heap.size w w' := by
  refine (same_poly v1 v2 l l w (by unfold maxLen; omega) h1 h2).mono ?_
  rintro e w' ⟨rfl, hb⟩
  exact ⟨ret_bool (by simp), hb⟩

theorem below_up {B : Nat} {w w1 w2 : World} (h1 : Below B w w1) (h2 : Below w1.heap.size w1 w2) (hB : B ≤ w1.heap.size) : Below B w w2 := h1.trans (h2.mono hB)

end Go.Proofs.YtihijieciogabaaDoor.Poly
