/- Several texts of the proof, one behind the other. -/
import Derived.Test.YtihijieciogabaaDoorPA9
import Derived.Maps.OwnSet
import Derived.Lib.Hide
/- The walks of poly.changed with the two closures that Flip and Unit hand it, and of Flip and Unit. -/
namespace Go.Proofs.YtihijieciogabaaDoor.Poly
open Go.RowKit Go.Maps

set_option maxRecDepth 100000 in
theorem make46 (n : Nat) (w : World) : (Instr.makeMap 47 (some (.int .i64 (n : Int)))).run Tryd.prog w = .ok (.map (some w.heap.size)) (w.alloc (.map #[] 0)) := rfl

/-- What a store does to the coefficients. -/
theorem coefOf_put {D : DataW Unit} (hD : IsMap D) (x c y : Int) : coefOf (D.put (.int .i64 x) (.lit (.int .i64 c))) y = if x = y then c else coefOf D y := by
  by_cases h : x = y
  · subst h
    rw [if_pos rfl]
    exact coefOf_at fun zd => atKey_put_same hD (show WideAt.IsKeyLit (.int .i64 x) from trivial) _ _
  · rw [if_neg h]
    unfold coefOf
    rw [atKey_put_other (by intro e; cases e; exact h rfl)]

theorem coefOf_look {D : DataW Unit} {x c : Int} (h : D.atKey (.int .i64 x) (.lit (.int .i64 0)) = .lit (.int .i64 c)) : coefOf D x = c := by
  unfold coefOf; rw [h]

theorem size_le {w : World} {b n : Nat} {D : DataW Unit} (h : w.ownsMap Tryd.prog 3 (plainElem Tryd.prog 3) b n D) : Maps.size D ≤ n := by
  obtain ⟨es, clock, _, _, hle, rfl⟩ := h
  rw [size_eq, length_read]
  exact hle

theorem grown_below {w w' : World} (h : Below w.heap.size w w') (row : Option Nat) : w.grownBy w' row := ⟨h.os, h.tape, h.output, h.size, fun k hk _ => h.block k hk⟩

theorem own_lower {w : World} {B B' : Nat} {v : Value} {n : Nat} {xs : List Value} (h : w.ownsRow B 56 2 v n xs) (hB : B' ≤ B) : w.ownsRow B' 56 2 v n xs := by
  refine ⟨h.1, ?_⟩
  rcases h.2 with hn | ⟨g, cap, cur, hv, hb, rest⟩
  · exact .inl hn
  · exact .inr ⟨g, cap, cur, hv, by omega, rest⟩

theorem own_set2 {w : World} {b n t : Nat} {D : DataW Unit} (h : w.ownsMap Tryd.prog 3 (plainElem Tryd.prog 3) b n D) (hne : b ≠ t) (o1 o2 : Nat) (x y : Value) :
    ((w.setCell ⟨t, o1, none⟩ x).setCell ⟨t, o2, none⟩ y).ownsMap Tryd.prog 3 (plainElem Tryd.prog 3) b n D := by
  obtain ⟨es, clock, hh, rest⟩ := h
  refine ⟨es, clock, ?_, rest⟩
  rw [Below.heap_setCell _ _ _ _ hne, Below.heap_setCell _ _ _ _ hne]
  exact hh

/-- What Flip's closure makes of a list. -/
def flipM (l : List (Int × Int)) : List (Int × Int) := l.map fun t => (-t.1, t.2)

theorem cell_up {B : Nat} {w wr : World} {p : Nat} {v : Value} (hb : Below B w wr) (hp : p < B) (h : w.cell? ⟨p, 0, none⟩ = some v) (hB : B ≤ wr.heap.size) (o : Obj) : (wr.alloc o).cell? ⟨p, 0, none⟩ = some v := by
  have h1 := bcell hb hp h
  have := ((Below.refl wr.heap.size wr).alloc (Nat.le_refl _) o).cell (p := ⟨p, 0, none⟩) (show p < wr.heap.size by omega)
  rw [this]; exact h1

/-- What Unit's closure makes of a list. -/
def unitM (e0 s : Int) (l : List (Int × Int)) : List (Int × Int) := l.map fun t => (t.1 - e0, s * t.2)

end Go.Proofs.YtihijieciogabaaDoor.Poly
/- The walks of poly.Flip and poly.Unit: they answer what the document's own functions answer. -/
namespace Go.Proofs.YtihijieciogabaaDoor.Poly
open Go.RowKit Go.Maps

theorem may_rising {l : List (Int × Int)} (hm : mayB l = true) : l.Pairwise (fun a b => a.1 < b.1) := by
  have step : ∀ i, (h : i + 1 < l.length) → l[i].1 < l[i + 1].1 := fun i h => by
    have := ((okB_iff l (i + 1)).1 (((may_iff l).1 hm).2 (i + 1) h)).2.2.2.2.2 (by omega)
    simpa [List.getD, h, show i < l.length by omega] using this
  rw [List.pairwise_iff_getElem]
  intro i j hi hj hij
  obtain ⟨d, rfl⟩ : ∃ d, j = i + 1 + d := ⟨j - (i + 1), by omega⟩
  clear hij
  induction d with
  | zero => exact step i hj
  | succ d ih =>
    have h1 := ih (by omega)
    have h2 := step (i + 1 + d) (by omega)
    exact Int.lt_trans h1 h2

theorem may_nonzero {l : List (Int × Int)} (hm : mayB l = true) : ∀ t ∈ l, t.2 ≠ 0 := by
  intro t ht
  obtain ⟨i, hi, rfl⟩ := List.getElem_of_mem ht
  have := ((okB_iff l i).1 (((may_iff l).1 hm).2 i hi)).2.2.2.2.1
  simpa [List.getD, hi] using this

theorem canon_flip {l : List (Int × Int)} (hm : mayB l = true) : Canon (flipL l) (coefL (flipM l)) := by
  have h1 : (flipL l).Pairwise (fun a b => a.1 < b.1) := by
    unfold flipL
    rw [List.pairwise_reverse, List.pairwise_map]
    exact (may_rising hm).imp fun h => by show -_ < -_; omega
  have h2 : ∀ t ∈ flipL l, t.2 ≠ 0 := by
    intro t ht
    simp only [flipL, List.mem_reverse, List.mem_map] at ht
    obtain ⟨s, hs, rfl⟩ := ht
    exact may_nonzero hm s hs
  refine canon_congr (canon_self h1 h2) fun x => ?_
  exact coefL_perm (List.reverse_perm _) x

theorem unit_eq {l : List (Int × Int)} {e0 c0 s : Int} (he : (l.getD 0 (0, 0)).1 = e0) (hc : (l.getD 0 (0, 0)).2 = c0) (hs : (c0 < 0 ∧ s = -1) ∨ (¬ c0 < 0 ∧ s = 1)) : unitM e0 s l = unitL l := by
  unfold unitM unitL
  rw [he, hc]
  apply List.map_congr_left
  intro t _
  rcases hs with ⟨h, rfl⟩ | ⟨h, rfl⟩
  · rw [if_pos h]; simp
  · rw [if_neg h]; simp

theorem canon_unit {l : List (Int × Int)} (hm : mayB l = true) : Canon (unitL l) (coefL (unitL l)) := by
  refine canon_self ?_ ?_
  · unfold unitL
    rw [List.pairwise_map]
    exact (may_rising hm).imp fun h => by show _ - _ < _ - _; omega
  · intro t ht
    simp only [unitL, List.mem_map] at ht
    obtain ⟨s, hs, rfl⟩ := ht
    have := may_nonzero hm s hs
    simp only
    split
    · omega
    · exact this

theorem canon_nil {r : List (Int × Int)} (h : Canon r (coefOf (.map []))) : r = [] :=
  canon_unique h ⟨List.Pairwise.nil, fun x c => by
    rw [coefOf_none rfl]
    simp only [List.not_mem_nil, false_iff]
    rintro ⟨rfl, h⟩
    exact h rfl⟩

/-- Two boxes laid for a closure. -/
theorem box_two (w : World) (x y : Value) : ((w.alloc (.cells #[x] 3)).alloc (.cells #[y] 3)).cell? ⟨w.heap.size, 0, none⟩ = some x ∧ ((w.alloc (.cells #[x] 3)).alloc (.cells #[y] 3)).cell? ⟨w.heap.size + 1, 0, none⟩ = some y ∧
    ((w.alloc (.cells #[x] 3)).alloc (.cells #[y] 3)).heap.size = w.heap.size + 2 ∧ Below w.heap.size w ((w.alloc (.cells #[x] 3)).alloc (.cells #[y] 3)) := by
  have hs : (w.alloc (.cells #[x] 3)).heap.size = w.heap.size + 1 := by simp
  have h1 : (w.alloc (.cells #[x] 3)).heap[w.heap.size]? = some (.cells #[x] 3 (0, 0)) := Array.getElem?_push_size
  have h2 : ((w.alloc (.cells #[x] 3)).alloc (.cells #[y] 3)).heap[w.heap.size]? = some (.cells #[x] 3 (0, 0)) := (Below.heap_alloc _ _ _ (by omega)).trans h1
  have h3 : ((w.alloc (.cells #[x] 3)).alloc (.cells #[y] 3)).heap[w.heap.size + 1]? = some (.cells #[y] 3 (0, 0)) := by
    rw [← hs]; exact Array.getElem?_push_size
  refine ⟨?_, ?_, by simp, ((Below.refl _ _).alloc (Nat.le_refl _) _).alloc (by simp) _⟩
  · unfold World.cell?; rw [h2]; rfl
  · unfold World.cell?; rw [h3]; rfl

end Go.Proofs.YtihijieciogabaaDoor.Poly
