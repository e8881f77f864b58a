/- The walk of poly.collected: a polynomial's terms in a map. -/
import Derived.Test.YtfceigcjonlhkaaPA11
namespace Go.Proofs.Ytfceigcjonlhkaa.Poly
open Go.RowKit Go.Maps

/-- All keys of the map are at most N in size. -/
def KeysIn (D : DataW Unit) (N : Int) : Prop := ∀ x, Maps.has D (.int .i64 x) = true → -N ≤ x ∧ x ≤ N

theorem keysIn_put {D : DataW Unit} {N x : Int} (h : KeysIn D N) (h0 : -N ≤ x) (h1 : x ≤ N) (d : DataW Unit) : KeysIn (D.put (.int .i64 x) d) N := by
  intro y hy
  by_cases e : y = x
  · subst e; exact ⟨h0, h1⟩
  · rw [has_put_other (by intro e'; cases e'; exact e rfl)] at hy
    exact h y hy

theorem may_coef {l : List (Int × Int)} (hm : mayB l = true) : ∀ t ∈ l, -1000 ≤ t.1 ∧ t.1 ≤ 1000 ∧ -1000000 ≤ t.2 ∧ t.2 ≤ 1000000 := by
  intro t ht
  obtain ⟨i, hi, rfl⟩ := List.getElem_of_mem ht
  have := (okB_iff l i).1 (((may_iff l).1 hm).2 i hi)
  simp only [List.getD, List.getElem?_eq_getElem hi, Option.getD_some] at this
  exact ⟨this.1, this.2.1, this.2.2.1, this.2.2.2.1⟩

end Go.Proofs.Ytfceigcjonlhkaa.Poly
