/- Several texts of the proof, one behind the other. -/
import Derived.Test.YtnlcknlodjjdbaaDoorPA9
import Derived.Maps.OwnSet
import Derived.Lib.Hide
/- The walks of poly.changed with the two closures that Flip and Unit hand it, and of Flip and Unit. -/
namespace Go.Proofs.YtnlcknlodjjdbaaDoor.Poly
open Go.RowKit Go.Maps

set_option maxRecDepth 100000 in
theorem make46 (n : Nat) (w : World) : (Instr.makeMap 56 (some (.int .i64 (n : Int)))).run Tryd.prog w = .ok (.map (some w.heap.size)) (w.alloc (.map #[] 0)) := rfl

/-- What a store does to the coefficients. -/
theorem coefOf_put {D : DataW Unit} (hD : IsMap D) (x c y : Int) : coefOf (D.put (.int .i64 x) (.lit (.int .i64 c))) y = if x = y then c else coefOf D y := by
  by_cases h : x = y
  · subst h
    rw [if_pos rfl]
    exact coefOf_at fun zd => atKey_put_same hD (show WideAt.IsKeyLit (.int .i64 x) from trivial) _ _
  · rw [if_neg h]
    unfold coefOf
    rw [atKey_put_other (by intro e; cases e; exact h rfl)]

theorem coefOf_look {D : DataW Unit} {x c : Int} (h : D.atKey (.int .i64 x) (.lit (.int .i64 0)) = .lit (.int .i64 c)) : coefOf D x = c := by
  unfold coefOf; rw [h]

theorem size_le {w : World} {b n : Nat} {D : DataW Unit} (h : w.ownsMap Tryd.prog 3 (plainElem Tryd.prog 3) b n D) : Maps.size D ≤ n := by
  obtain ⟨es, clock, _, _, hle, rfl⟩ := h
  rw [size_eq, length_read]
  exact hle

theorem grown_below {w w' : World} (h : Below w.heap.size w w') (row : Option Nat) : w.grownBy w' row := ⟨h.os, h.tape, h.output, h.size, fun k hk _ => h.block k hk⟩

end Go.Proofs.YtnlcknlodjjdbaaDoor.Poly
/- The walks of poly.Flip and poly.Unit: they answer what the document's own functions answer. -/
namespace Go.Proofs.YtnlcknlodjjdbaaDoor.Poly
open Go.RowKit Go.Maps

end Go.Proofs.YtnlcknlodjjdbaaDoor.Poly
/- The walk of poly.collected: a polynomial's terms in a map. -/
namespace Go.Proofs.YtnlcknlodjjdbaaDoor.Poly
open Go.RowKit Go.Maps

/-- All keys of the map are at most N in size. -/
def KeysIn (D : DataW Unit) (N : Int) : Prop := ∀ x, Maps.has D (.int .i64 x) = true → -N ≤ x ∧ x ≤ N

theorem keysIn_put {D : DataW Unit} {N x : Int} (h : KeysIn D N) (h0 : -N ≤ x) (h1 : x ≤ N) (d : DataW Unit) : KeysIn (D.put (.int .i64 x) d) N := by
  intro y hy
  by_cases e : y = x
  · subst e; exact ⟨h0, h1⟩
  · rw [has_put_other (by intro e'; cases e'; exact e rfl)] at hy
    exact h y hy

theorem may_coef {l : List (Int × Int)} (hm : mayB l = true) : ∀ t ∈ l, -1000 ≤ t.1 ∧ t.1 ≤ 1000 ∧ -1000000 ≤ t.2 ∧ t.2 ≤ 1000000 := by
  intro t ht
  obtain ⟨i, hi, rfl⟩ := List.getElem_of_mem ht
  have := (okB_iff l i).1 (((may_iff l).1 hm).2 i hi)
  simp only [List.getD, List.getElem?_eq_getElem hi, Option.getD_some] at this
  exact ⟨this.1, this.2.1, this.2.2.1, this.2.2.2.1⟩

end Go.Proofs.YtnlcknlodjjdbaaDoor.Poly
