/- The walks of poly.Flip and poly.Unit: they answer what the document's own functions answer. -/
import Derived.Test.YtfceigcjonlhkaaPA10
namespace Go.Proofs.Ytfceigcjonlhkaa.Poly
open Go.RowKit Go.Maps

theorem may_rising {l : List (Int × Int)} (hm : mayB l = true) : l.Pairwise (fun a b => a.1 < b.1) := by
  have step : ∀ i, (h : i + 1 < l.length) → l[i].1 < l[i + 1].1 := fun i h => by
    have := ((okB_iff l (i + 1)).1 (((may_iff l).1 hm).2 (i + 1) h)).2.2.2.2.2 (by omega)
    simpa [List.getD, h, show i < l.length by omega] using this
  rw [List.pairwise_iff_getElem]
  intro i j hi hj hij
  obtain ⟨d, rfl⟩ : ∃ d, j = i + 1 + d := ⟨j - (i + 1), by omega⟩
  clear hij
  induction d with
  | zero => exact step i hj
  | succ d ih =>
    have h1 := ih (by omega)
    have h2 := step (i + 1 + d) (by omega)
    exact Int.lt_trans h1 h2

theorem may_nonzero {l : List (Int × Int)} (hm : mayB l = true) : ∀ t ∈ l, t.2 ≠ 0 := by
  intro t ht
  obtain ⟨i, hi, rfl⟩ := List.getElem_of_mem ht
  have := ((okB_iff l i).1 (((may_iff l).1 hm).2 i hi)).2.2.2.2.1
  simpa [List.getD, hi] using this

theorem canon_flip {l : List (Int × Int)} (hm : mayB l = true) : Canon (flipL l) (coefL (flipM l)) := by
  have h1 : (flipL l).Pairwise (fun a b => a.1 < b.1) := by
    unfold flipL
    rw [List.pairwise_reverse, List.pairwise_map]
    exact (may_rising hm).imp fun h => by show -_ < -_; omega
  have h2 : ∀ t ∈ flipL l, t.2 ≠ 0 := by
    intro t ht
    simp only [flipL, List.mem_reverse, List.mem_map] at ht
    obtain ⟨s, hs, rfl⟩ := ht
    exact may_nonzero hm s hs
  refine canon_congr (canon_self h1 h2) fun x => ?_
  exact coefL_perm (List.reverse_perm _) x

theorem unit_eq {l : List (Int × Int)} {e0 c0 s : Int} (he : (l.getD 0 (0, 0)).1 = e0) (hc : (l.getD 0 (0, 0)).2 = c0) (hs : (c0 < 0 ∧ s = -1) ∨ (¬ c0 < 0 ∧ s = 1)) : unitM e0 s l = unitL l := by
  unfold unitM unitL
  rw [he, hc]
  apply List.map_congr_left
  intro t _
  rcases hs with ⟨h, rfl⟩ | ⟨h, rfl⟩
  · rw [if_pos h]; simp
  · rw [if_neg h]; simp

theorem canon_unit {l : List (Int × Int)} (hm : mayB l = true) : Canon (unitL l) (coefL (unitL l)) := by
  refine canon_self ?_ ?_
  · unfold unitL
    rw [List.pairwise_map]
    exact (may_rising hm).imp fun h => by show _ - _ < _ - _; omega
  · intro t ht
    simp only [unitL, List.mem_map] at ht
    obtain ⟨s, hs, rfl⟩ := ht
    have := may_nonzero hm s hs
    simp only
    split
    · omega
    · exact this

theorem canon_nil {r : List (Int × Int)} (h : Canon r (coefOf (.map []))) : r = [] :=
  canon_unique h ⟨List.Pairwise.nil, fun x c => by
    rw [coefOf_none rfl]
    simp only [List.not_mem_nil, false_iff]
    rintro ⟨rfl, h⟩
    exact h rfl⟩

/-- Two boxes laid for a closure. -/
theorem box_two (w : World) (x y : Value) : ((w.alloc (.cells #[x] 3)).alloc (.cells #[y] 3)).cell? ⟨w.heap.size, 0, none⟩ = some x ∧ ((w.alloc (.cells #[x] 3)).alloc (.cells #[y] 3)).cell? ⟨w.heap.size + 1, 0, none⟩ = some y ∧
    ((w.alloc (.cells #[x] 3)).alloc (.cells #[y] 3)).heap.size = w.heap.size + 2 ∧ Below w.heap.size w ((w.alloc (.cells #[x] 3)).alloc (.cells #[y] 3)) := by
  have hs : (w.alloc (.cells #[x] 3)).heap.size = w.heap.size + 1 := by simp
  have h1 : (w.alloc (.cells #[x] 3)).heap[w.heap.size]? = some (.cells #[x] 3 (0, 0)) := Array.getElem?_push_size
  have h2 : ((w.alloc (.cells #[x] 3)).alloc (.cells #[y] 3)).heap[w.heap.size]? = some (.cells #[x] 3 (0, 0)) := (Below.heap_alloc _ _ _ (by omega)).trans h1
  have h3 : ((w.alloc (.cells #[x] 3)).alloc (.cells #[y] 3)).heap[w.heap.size + 1]? = some (.cells #[y] 3 (0, 0)) := by
    rw [← hs]; exact Array.getElem?_push_size
  refine ⟨?_, ?_, by simp, ((Below.refl _ _).alloc (Nat.le_refl _) _).alloc (by simp) _⟩
  · unfold World.cell?; rw [h2]; rfl
  · unfold World.cell?; rw [h3]; rfl

end Go.Proofs.Ytfceigcjonlhkaa.Poly
