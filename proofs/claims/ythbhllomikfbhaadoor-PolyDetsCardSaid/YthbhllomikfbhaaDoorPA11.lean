/- The walks of poly.Flip and poly.Unit: they answer what the document's own functions answer. -/
import Derived.Test.YthbhllomikfbhaaDoorPA10
namespace Go.Proofs.YthbhllomikfbhaaDoor.Poly
open Go.RowKit Go.Maps

theorem may_rising {l : List (Int × Int)} (hm : mayB l = true) : l.Pairwise (fun a b => a.1 < b.1) := by
  have step : ∀ i, (h : i + 1 < l.length) → l[i].1 < l[i + 1].1 := fun i h => by
    have := ((okB_iff l (i + 1)).1 (((may_iff l).1 hm).2 (i + 1) h)).2.2.2.2.2 (by omega)
    simpa [List.getD, h, show i < l.length by omega] using this
  rw [List.pairwise_iff_getElem]
  intro i j hi hj hij
  obtain ⟨d, rfl⟩ : ∃ d, j = i + 1 + d := ⟨j - (i + 1), by omega⟩
  clear hij
  induction d with
  | zero => exact step i hj
  | succ d ih =>
    have h1 := ih (by omega)
    have h2 := step (i + 1 + d) (by omega)
    exact Int.lt_trans h1 h2

theorem may_nonzero {l : List (Int × Int)} (hm : mayB l = true) : ∀ t ∈ l, t.2 ≠ 0 := by
  intro t ht
  obtain ⟨i, hi, rfl⟩ := List.getElem_of_mem ht
  have := ((okB_iff l i).1 (((may_iff l).1 hm).2 i hi)).2.2.2.2.1
  simpa [List.getD, hi] using this

theorem canon_flip {l : List (Int × Int)} (hm : mayB l = true) : Canon (flipL l) (coefL (flipM l)) := by
  have h1 : (flipL l).Pairwise (fun a b => a.1 < b.1) := by
    unfold flipL
    rw [List.pairwise_reverse, List.pairwise_map]
    exact (may_rising hm).imp fun h => by show -_ < -_; omega
  have h2 : ∀ t ∈ flipL l, t.2 ≠ 0 := by
    intro t ht
    simp only [flipL, List.mem_reverse, List.mem_map] at ht
    obtain ⟨s, hs, rfl⟩ := ht
    exact may_nonzero hm s hs
  refine canon_congr (canon_self h1 h2) fun x => ?_
  exact coefL_perm (List.reverse_perm _) x

theorem unit_eq {l : List (Int × Int)} {e0 c0 s : Int} (he : (l.getD 0 (0, 0)).1 = e0) (hc : (l.getD 0 (0, 0)).2 = c0) (hs : (c0 < 0 ∧ s = -1) ∨ (¬ c0 < 0 ∧ s = 1)) : unitM e0 s l = unitL l := by
  unfold unitM unitL
  rw [he, hc]
  apply List.map_congr_left
  intro t _
  rcases hs with ⟨h, rfl⟩ | ⟨h, rfl⟩
  · rw [if_pos h]; simp
  · rw [if_neg h]; simp

theorem canon_unit {l : List (Int × Int)} (hm : mayB l = true) : Canon (unitL l) (coefL (unitL l)) := by
  refine canon_self ?_ ?_
  · unfold unitL
    rw [List.pairwise_map]
    exact (may_rising hm).imp fun h => by show _ - _ < _ - _; omega
  · intro t ht
    simp only [unitL, List.mem_map] at ht
    obtain ⟨s, hs, rfl⟩ := ht
    have := may_nonzero hm s hs
    simp only
    split
    · omega
    · exact this

theorem canon_nil {r : List (Int × Int)} (h : Canon r (coefOf (.map []))) : r = [] :=
  canon_unique h ⟨List.Pairwise.nil, fun x c => by
    rw [coefOf_none rfl]
    simp only [List.not_mem_nil, false_iff]
    rintro ⟨rfl, h⟩
    exact h rfl⟩

set_option maxHeartbeats 400000 in
set_option maxRecDepth 100000 in
theorem changed_none (a : Option Addr) (cap : Nat) (fv : Value) (w : World) :
    Calls Tryd.prog 32 #[.slice a 0 cap, fv] w fun e w' => ∃ v, e = .returned v ∧ w'.ownsRow w.heap.size 36 2 v 0 (flat []) ∧ Below w.heap.size w w' := by
  have hmm := make46 0
  simp only [Int.natCast_zero] at hmm
  go_enter Tryd.func32, Tryd.ntmps32
  go_wp2
  go_loopw [13] (fun i wr => i = .int .i64 0 ∧ wr.ownsMap Tryd.prog 3 (plainElem Tryd.prog 3) w.heap.size 0 (.map [] : DataW Unit) ∧ Below w.heap.size w wr) (fun _ _ => 0)
  case atStart => exact ⟨rfl, World.ownsMap_made _ _ _ _, (Below.refl _ _).alloc (Nat.le_refl _) _⟩
  case round =>
    obtain ⟨rfl, hown, hb⟩ := hrel
    go_wp2_with (go_at_call 38; refine (terms34 w.heap.size 0 _ _ hown (by decide)).mono ?_; rintro r w1 ⟨v, m, rfl, hrow, hcan, hml, hb1⟩)
    go_ret
    obtain rfl := canon_nil hcan
    exact ⟨v, rfl, own_lower hrow hb.size, hb.trans (hb1.mono hb.size)⟩

set_option maxHeartbeats 400000 in
theorem flip_no (v : Value) (l : List (Int × Int)) (w : World) (hl : l.length ≤ maxLen) (hm : mayB l = false) (hP : Poly w w.heap.size v l) :
    Calls Tryd.prog 20 #[v] w fun e w' => e = .returned (.tuple #[.slice none 0 0, .int .i64 1]) ∧ Below w.heap.size w w' := by
  have HP : Hid (Poly w w.heap.size v l) := hP
  have HL : Hid (l.length ≤ maxLen) := hl
  have HM : Hid (mayB l = false) := hm
  clear hP hl hm
  go_enter Tryd.func20, Tryd.ntmps20
  go_wp2_with (go_at_call 23; refine (mayBe_poly _ l _ HL.out HP.out).mono ?_; rw [HM.out]; rintro r w1 ⟨rfl, hb1⟩)
  go_ret2
  exact ⟨rfl, hb1⟩

theorem changed_poly (v : Value) (l : List (Int × Int)) (w : World) (hm : mayB l = true) (hP : Poly w w.heap.size v l) :
    Calls Tryd.prog 32 #[v, .func (.func 33) #[] #[]] w fun e w' => ∃ v, e = .returned v ∧ w'.ownsRow w.heap.size 36 2 v (flipL l).length (flat (flipL l)) ∧ Below w.heap.size w w' := by
  rcases hP with ⟨rfl, rfl⟩ | ⟨a, cap, rfl, rfl⟩ | ⟨b, off, cap, rfl, hlt, hT⟩
  · exact changed_none none 0 _ w
  · exact changed_none (some a) cap _ w
  · refine (changed_flip b off cap l w hm hlt hT).mono ?_
    rintro e w' ⟨v, r, rfl, hrow, hcan, _, hb⟩
    obtain rfl := canon_unique hcan (canon_flip hm)
    exact ⟨v, rfl, hrow, hb⟩

set_option maxHeartbeats 400000 in
theorem flip_yes (v : Value) (l : List (Int × Int)) (w : World) (hl : l.length ≤ maxLen) (hm : mayB l = true) (hP : Poly w w.heap.size v l) :
    Calls Tryd.prog 20 #[v] w fun e w' => ∃ v', e = .returned (.tuple #[v', .int .i64 0]) ∧ Poly w' w'.heap.size v' (flipL l) ∧ Below w.heap.size w w' := by
  have HP : Hid (Poly w w.heap.size v l) := hP
  have HL : Hid (l.length ≤ maxLen) := hl
  have HM : Hid (mayB l = true) := hm
  clear hP hl hm
  go_enter Tryd.func20, Tryd.ntmps20
  go_wp2_with (first | (go_at_call 23; refine (mayBe_poly _ l _ HL.out HP.out).mono ?_; rw [HM.out]; rintro r w1 ⟨rfl, hb1⟩) | (go_at_call 32; refine (changed_poly _ l _ HM.out (HP.out.up hb1)).mono ?_; rintro r w2 ⟨v2, rfl, hrow, hb2⟩))
  go_ret2
  exact ⟨v2, rfl, Poly.ofRow hrow, hb1.trans (hb2.mono hb1.size)⟩

/-- Two boxes laid for a closure. -/
theorem box_two (w : World) (x y : Value) : ((w.alloc (.cells #[x] 3)).alloc (.cells #[y] 3)).cell? ⟨w.heap.size, 0, none⟩ = some x ∧ ((w.alloc (.cells #[x] 3)).alloc (.cells #[y] 3)).cell? ⟨w.heap.size + 1, 0, none⟩ = some y ∧
    ((w.alloc (.cells #[x] 3)).alloc (.cells #[y] 3)).heap.size = w.heap.size + 2 ∧ Below w.heap.size w ((w.alloc (.cells #[x] 3)).alloc (.cells #[y] 3)) := by
  have hs : (w.alloc (.cells #[x] 3)).heap.size = w.heap.size + 1 := by simp
  have h1 : (w.alloc (.cells #[x] 3)).heap[w.heap.size]? = some (.cells #[x] 3 (0, 0)) := Array.getElem?_push_size
  have h2 : ((w.alloc (.cells #[x] 3)).alloc (.cells #[y] 3)).heap[w.heap.size]? = some (.cells #[x] 3 (0, 0)) := (Below.heap_alloc _ _ _ (by omega)).trans h1
  have h3 : ((w.alloc (.cells #[x] 3)).alloc (.cells #[y] 3)).heap[w.heap.size + 1]? = some (.cells #[y] 3 (0, 0)) := by
    rw [← hs]; exact Array.getElem?_push_size
  refine ⟨?_, ?_, by simp, ((Below.refl _ _).alloc (Nat.le_refl _) _).alloc (by simp) _⟩
  · unfold World.cell?; rw [h2]; rfl
  · unfold World.cell?; rw [h3]; rfl

end Go.Proofs.YthbhllomikfbhaaDoor.Poly
