/- The walk of poly.Flip. -/
import Derived.Test.YtdbcjcniboillaaDoorR10
namespace Go.Proofs.YtdbcjcniboillaaDoor
open Go.RowKit Go.Maps

theorem may_rising {l : List (Int × Int)} (hm : mayB l = true) : l.Pairwise (fun a b => a.1 < b.1) := by
  have step : ∀ i, (h : i + 1 < l.length) → l[i].1 < l[i + 1].1 := fun i h => by
    have := ((okB_iff l (i + 1)).1 (((may_iff l).1 hm).2 (i + 1) h)).2.2.2.2.2 (by omega)
    simpa [List.getD, h, show i < l.length by omega] using this
  rw [List.pairwise_iff_getElem]
  intro i j hi hj hij
  obtain ⟨d, rfl⟩ : ∃ d, j = i + 1 + d := ⟨j - (i + 1), by omega⟩
  clear hij
  induction d with
  | zero => exact step i hj
  | succ d ih =>
    have h1 := ih (by omega)
    have h2 := step (i + 1 + d) (by omega)
    exact Int.lt_trans h1 h2

theorem may_nonzero {l : List (Int × Int)} (hm : mayB l = true) : ∀ t ∈ l, t.2 ≠ 0 := by
  intro t ht
  obtain ⟨i, hi, rfl⟩ := List.getElem_of_mem ht
  have := ((okB_iff l i).1 (((may_iff l).1 hm).2 i hi)).2.2.2.2.1
  simpa [List.getD, hi] using this

theorem canon_flip {l : List (Int × Int)} (hm : mayB l = true) : Canon (flipL l) (coefL (flipM l)) := by
  have h1 : (flipL l).Pairwise (fun a b => a.1 < b.1) := by
    unfold flipL
    rw [List.pairwise_reverse, List.pairwise_map]
    exact (may_rising hm).imp fun h => by show -_ < -_; omega
  have h2 : ∀ t ∈ flipL l, t.2 ≠ 0 := by
    intro t ht
    simp only [flipL, List.mem_reverse, List.mem_map] at ht
    obtain ⟨s, hs, rfl⟩ := ht
    exact may_nonzero hm s hs
  refine canon_congr (canon_self h1 h2) fun x => ?_
  exact coefL_perm (List.reverse_perm _) x

theorem canon_nil {r : List (Int × Int)} (h : Canon r (coefOf (.map []))) : r = [] :=
  canon_unique h ⟨List.Pairwise.nil, fun x c => by
    rw [coefOf_none rfl]
    simp only [List.not_mem_nil, false_iff]
    rintro ⟨rfl, h⟩
    exact h rfl⟩

set_option maxHeartbeats 400000 in
set_option maxRecDepth 100000 in
theorem changed_none (a : Option Addr) (cap : Nat) (fv : Value) (w : World) :
    Calls Tryd.prog 28 #[.slice a 0 cap, fv] w fun e w' => ∃ v, e = .returned v ∧ w'.ownsRow w.heap.size 36 2 v 0 (flat []) ∧ Below w.heap.size w w' := by
  have hmm := make46 0
  simp only [Int.natCast_zero] at hmm
  go_enter Tryd.func28, Tryd.ntmps28
  go_wp2
  go_loopw [13] (fun i wr => i = .int .i64 0 ∧ wr.ownsMap Tryd.prog 3 (plainElem Tryd.prog 3) w.heap.size 0 (.map [] : DataW Unit) ∧ Below w.heap.size w wr) (fun _ _ => 0)
  case atStart => exact ⟨rfl, World.ownsMap_made _ _ _ _, (Below.refl _ _).alloc (Nat.le_refl _) _⟩
  case round =>
    obtain ⟨rfl, hown, hb⟩ := hrel
    go_wp2_with (go_at_call 43; refine (terms34 w.heap.size 0 _ _ hown (by decide)).mono ?_; rintro r w1 ⟨v, m, rfl, hrow, hcan, hml, hb1⟩)
    go_ret
    obtain rfl := canon_nil hcan
    exact ⟨v, rfl, own_lower hrow hb.size, hb.trans (hb1.mono hb.size)⟩

set_option maxHeartbeats 400000 in
theorem flip_no (v : Value) (l : List (Int × Int)) (w : World) (hl : l.length ≤ maxLen) (hm : mayB l = false) (hP : Poly w w.heap.size v l) :
    Calls Tryd.prog 18 #[v] w fun e w' => e = .returned (.tuple #[.slice none 0 0, .int .i64 1]) ∧ Below w.heap.size w w' := by
  have HP : Hid (Poly w w.heap.size v l) := hP
  have HL : Hid (l.length ≤ maxLen) := hl
  have HM : Hid (mayB l = false) := hm
  clear hP hl hm
  go_enter Tryd.func18, Tryd.ntmps18
  go_wp2_with (go_at_call 19; refine (mayBe_poly _ l _ HL.out HP.out).mono ?_; rw [HM.out]; rintro r w1 ⟨rfl, hb1⟩)
  go_ret2
  exact ⟨rfl, hb1⟩

theorem changed_poly (v : Value) (l : List (Int × Int)) (w : World) (hm : mayB l = true) (hP : Poly w w.heap.size v l) :
    Calls Tryd.prog 28 #[v, .func (.func 29) #[] #[]] w fun e w' => ∃ v, e = .returned v ∧ w'.ownsRow w.heap.size 36 2 v (flipL l).length (flat (flipL l)) ∧ Below w.heap.size w w' := by
  rcases hP with ⟨rfl, rfl⟩ | ⟨a, cap, rfl, rfl⟩ | ⟨b, off, cap, rfl, hlt, hT⟩
  · exact changed_none none 0 _ w
  · exact changed_none (some a) cap _ w
  · refine (changed_flip b off cap l w hm hlt hT).mono ?_
    rintro e w' ⟨v, r, rfl, hrow, hcan, _, hb⟩
    obtain rfl := canon_unique hcan (canon_flip hm)
    exact ⟨v, rfl, hrow, hb⟩

set_option maxHeartbeats 400000 in
theorem flip_yes (v : Value) (l : List (Int × Int)) (w : World) (hl : l.length ≤ maxLen) (hm : mayB l = true) (hP : Poly w w.heap.size v l) :
    Calls Tryd.prog 18 #[v] w fun e w' => ∃ v', e = .returned (.tuple #[v', .int .i64 0]) ∧ Poly w' w'.heap.size v' (flipL l) ∧ Below w.heap.size w w' := by
  have HP : Hid (Poly w w.heap.size v l) := hP
  have HL : Hid (l.length ≤ maxLen) := hl
  have HM : Hid (mayB l = true) := hm
  clear hP hl hm
  go_enter Tryd.func18, Tryd.ntmps18
  go_wp2_with (first | (go_at_call 19; refine (mayBe_poly _ l _ HL.out HP.out).mono ?_; rw [HM.out]; rintro r w1 ⟨rfl, hb1⟩) | (go_at_call 28; refine (changed_poly _ l _ HM.out (HP.out.up hb1)).mono ?_; rintro r w2 ⟨v2, rfl, hrow, hb2⟩))
  go_ret2
  exact ⟨v2, rfl, Poly.ofRow hrow, hb1.trans (hb2.mono hb1.size)⟩

end Go.Proofs.YtdbcjcniboillaaDoor
