/- The walks of poly.changed with the two closures that Flip and Unit hand it, and of Flip and Unit. -/
import Derived.Test.YtfceigcjonlhkaaPA9
import Derived.Maps.OwnSet
import Derived.Lib.Hide
namespace Go.Proofs.Ytfceigcjonlhkaa.Poly
open Go.RowKit Go.Maps

set_option maxRecDepth 100000 in
theorem make46 (n : Nat) (w : World) : (Instr.makeMap 180 (some (.int .i64 (n : Int)))).run Try.prog w = .ok (.map (some w.heap.size)) (w.alloc (.map #[] 0)) := rfl

/-- What a store does to the coefficients. -/
theorem coefOf_put {D : DataW Unit} (hD : IsMap D) (x c y : Int) : coefOf (D.put (.int .i64 x) (.lit (.int .i64 c))) y = if x = y then c else coefOf D y := by
  by_cases h : x = y
  · subst h
    rw [if_pos rfl]
    exact coefOf_at fun zd => atKey_put_same hD (show WideAt.IsKeyLit (.int .i64 x) from trivial) _ _
  · rw [if_neg h]
    unfold coefOf
    rw [atKey_put_other (by intro e; cases e; exact h rfl)]

theorem coefOf_look {D : DataW Unit} {x c : Int} (h : D.atKey (.int .i64 x) (.lit (.int .i64 0)) = .lit (.int .i64 c)) : coefOf D x = c := by
  unfold coefOf; rw [h]

theorem size_le {w : World} {b n : Nat} {D : DataW Unit} (h : w.ownsMap Try.prog 3 (plainElem Try.prog 3) b n D) : Maps.size D ≤ n := by
  obtain ⟨es, clock, _, _, hle, rfl⟩ := h
  rw [size_eq, length_read]
  exact hle

theorem grown_below {w w' : World} (h : Below w.heap.size w w') (row : Option Nat) : w.grownBy w' row := ⟨h.os, h.tape, h.output, h.size, fun k hk _ => h.block k hk⟩

theorem own_lower {w : World} {B B' : Nat} {v : Value} {n : Nat} {xs : List Value} (h : w.ownsRow B 127 2 v n xs) (hB : B' ≤ B) : w.ownsRow B' 127 2 v n xs := by
  refine ⟨h.1, ?_⟩
  rcases h.2 with hn | ⟨g, cap, cur, hv, hb, rest⟩
  · exact .inl hn
  · exact .inr ⟨g, cap, cur, hv, by omega, rest⟩

theorem own_set2 {w : World} {b n t : Nat} {D : DataW Unit} (h : w.ownsMap Try.prog 3 (plainElem Try.prog 3) b n D) (hne : b ≠ t) (o1 o2 : Nat) (x y : Value) :
    ((w.setCell ⟨t, o1, none⟩ x).setCell ⟨t, o2, none⟩ y).ownsMap Try.prog 3 (plainElem Try.prog 3) b n D := by
  obtain ⟨es, clock, hh, rest⟩ := h
  refine ⟨es, clock, ?_, rest⟩
  rw [Below.heap_setCell _ _ _ _ hne, Below.heap_setCell _ _ _ _ hne]
  exact hh

/-- What Flip's closure makes of a list. -/
def flipM (l : List (Int × Int)) : List (Int × Int) := l.map fun t => (-t.1, t.2)

theorem cell_up {B : Nat} {w wr : World} {p : Nat} {v : Value} (hb : Below B w wr) (hp : p < B) (h : w.cell? ⟨p, 0, none⟩ = some v) (hB : B ≤ wr.heap.size) (o : Obj) : (wr.alloc o).cell? ⟨p, 0, none⟩ = some v := by
  have h1 := bcell hb hp h
  have := ((Below.refl wr.heap.size wr).alloc (Nat.le_refl _) o).cell (p := ⟨p, 0, none⟩) (show p < wr.heap.size by omega)
  rw [this]; exact h1

/-- What Unit's closure makes of a list. -/
def unitM (e0 s : Int) (l : List (Int × Int)) : List (Int × Int) := l.map fun t => (t.1 - e0, s * t.2)

end Go.Proofs.Ytfceigcjonlhkaa.Poly
