/- The walks of poly.Flip and poly.Unit: they answer what the document's own functions answer. -/
import Derived.Test.YtdbpiggohncjiaaPA10
namespace Go.Proofs.Ytdbpiggohncjiaa.Poly
open Go.RowKit Go.Maps

theorem may_rising {l : List (Int × Int)} (hm : mayB l = true) : l.Pairwise (fun a b => a.1 < b.1) := by
  have step : ∀ i, (h : i + 1 < l.length) → l[i].1 < l[i + 1].1 := fun i h => by
    have := ((okB_iff l (i + 1)).1 (((may_iff l).1 hm).2 (i + 1) h)).2.2.2.2.2 (by omega)
    simpa [List.getD, h, show i < l.length by omega] using this
  rw [List.pairwise_iff_getElem]
  intro i j hi hj hij
  obtain ⟨d, rfl⟩ : ∃ d, j = i + 1 + d := ⟨j - (i + 1), by omega⟩
  clear hij
  induction d with
  | zero => exact step i hj
  | succ d ih =>
    have h1 := ih (by omega)
    have h2 := step (i + 1 + d) (by omega)
    exact Int.lt_trans h1 h2

theorem may_nonzero {l : List (Int × Int)} (hm : mayB l = true) : ∀ t ∈ l, t.2 ≠ 0 := by
  intro t ht
  obtain ⟨i, hi, rfl⟩ := List.getElem_of_mem ht
  have := ((okB_iff l i).1 (((may_iff l).1 hm).2 i hi)).2.2.2.2.1
  simpa [List.getD, hi] using this

theorem canon_flip {l : List (Int × Int)} (hm : mayB l = true) : Canon (flipL l) (coefL (flipM l)) := by
  have h1 : (flipL l).Pairwise (fun a b => a.1 < b.1) := by
    unfold flipL
    rw [List.pairwise_reverse, List.pairwise_map]
    exact (may_rising hm).imp fun h => by show -_ < -_; omega
  have h2 : ∀ t ∈ flipL l, t.2 ≠ 0 := by
    intro t ht
    simp only [flipL, List.mem_reverse, List.mem_map] at ht
    obtain ⟨s, hs, rfl⟩ := ht
    exact may_nonzero hm s hs
  refine canon_congr (canon_self h1 h2) fun x => ?_
  exact coefL_perm (List.reverse_perm _) x

theorem unit_eq {l : List (Int × Int)} {e0 c0 s : Int} (he : (l.getD 0 (0, 0)).1 = e0) (hc : (l.getD 0 (0, 0)).2 = c0) (hs : (c0 < 0 ∧ s = -1) ∨ (¬ c0 < 0 ∧ s = 1)) : unitM e0 s l = unitL l := by
  unfold unitM unitL
  rw [he, hc]
  apply List.map_congr_left
  intro t _
  rcases hs with ⟨h, rfl⟩ | ⟨h, rfl⟩
  · rw [if_pos h]; simp
  · rw [if_neg h]; simp

theorem canon_unit {l : List (Int × Int)} (hm : mayB l = true) : Canon (unitL l) (coefL (unitL l)) := by
  refine canon_self ?_ ?_
  · unfold unitL
    rw [List.pairwise_map]
    exact (may_rising hm).imp fun h => by show _ - _ < _ - _; omega
  · intro t ht
    simp only [unitL, List.mem_map] at ht
    obtain ⟨s, hs, rfl⟩ := ht
    have := may_nonzero hm s hs
    simp only
    split
    · omega
    · exact this

theorem canon_nil {r : List (Int × Int)} (h : Canon r (coefOf (.map []))) : r = [] :=
  canon_unique h ⟨List.Pairwise.nil, fun x c => by
    rw [coefOf_none rfl]
    simp only [List.not_mem_nil, false_iff]
    rintro ⟨rfl, h⟩
    exact h rfl⟩

set_option maxHeartbeats 400000 in
set_option maxRecDepth 100000 in
theorem changed_none (a : Option Addr) (cap : Nat) (fv : Value) (w : World) :
    Calls Try.prog 181 #[.slice a 0 cap, fv] w fun e w' => ∃ v, e = .returned v ∧ w'.ownsRow w.heap.size 111 2 v 0 (flat []) ∧ Below w.heap.size w w' := by
  have hmm := make46 0
  simp only [Int.natCast_zero] at hmm
  go_enter Try.func181, Try.ntmps181
  go_wp2
  go_loopw [13] (fun i wr => i = .int .i64 0 ∧ wr.ownsMap Try.prog 3 (plainElem Try.prog 3) w.heap.size 0 (.map [] : DataW Unit) ∧ Below w.heap.size w wr) (fun _ _ => 0)
  case atStart => exact ⟨rfl, World.ownsMap_made _ _ _ _, (Below.refl _ _).alloc (Nat.le_refl _) _⟩
  case round =>
    obtain ⟨rfl, hown, hb⟩ := hrel
    go_wp2_with (go_at_call 78; refine (terms34 w.heap.size 0 _ _ hown (by decide)).mono ?_; rintro r w1 ⟨v, m, rfl, hrow, hcan, hml, hb1⟩)
    go_ret
    obtain rfl := canon_nil hcan
    exact ⟨v, rfl, own_lower hrow hb.size, hb.trans (hb1.mono hb.size)⟩

set_option maxHeartbeats 400000 in
theorem unit_no (v : Value) (l : List (Int × Int)) (w : World) (hl : l.length ≤ maxLen) (hm : mayB l = false) (hP : Poly w w.heap.size v l) :
    Calls Try.prog 129 #[v] w fun e w' => e = .returned (.tuple #[.slice none 0 0, .int .i64 1]) ∧ Below w.heap.size w w' := by
  have HP : Hid (Poly w w.heap.size v l) := hP
  have HL : Hid (l.length ≤ maxLen) := hl
  have HM : Hid (mayB l = false) := hm
  clear hP hl hm
  go_enter Try.func129, Try.ntmps129
  go_wp2_with (go_at_call 75; refine (mayBe_poly _ l _ HL.out HP.out).mono ?_; rw [HM.out]; rintro r w1 ⟨rfl, hb1⟩)
  go_ret2
  exact ⟨rfl, hb1⟩

set_option maxHeartbeats 400000 in
theorem unit_none (a : Option Addr) (cap : Nat) (w : World) :
    Calls Try.prog 129 #[.slice a 0 cap] w fun e w' => e = .returned (.tuple #[.slice none 0 0, .int .i64 0]) ∧ Below w.heap.size w w' := by
  go_enter Try.func129, Try.ntmps129
  go_wp2_with (go_at_call 75; refine (mayBe_nil _ _ _).mono ?_; rintro r w1 ⟨rfl, hb1⟩)
  go_ret2
  exact ⟨rfl, hb1⟩

/-- Two boxes laid for a closure. -/
theorem box_two (w : World) (x y : Value) : ((w.alloc (.cells #[x] 3)).alloc (.cells #[y] 3)).cell? ⟨w.heap.size, 0, none⟩ = some x ∧ ((w.alloc (.cells #[x] 3)).alloc (.cells #[y] 3)).cell? ⟨w.heap.size + 1, 0, none⟩ = some y ∧
    ((w.alloc (.cells #[x] 3)).alloc (.cells #[y] 3)).heap.size = w.heap.size + 2 ∧ Below w.heap.size w ((w.alloc (.cells #[x] 3)).alloc (.cells #[y] 3)) := by
  have hs : (w.alloc (.cells #[x] 3)).heap.size = w.heap.size + 1 := by simp
  have h1 : (w.alloc (.cells #[x] 3)).heap[w.heap.size]? = some (.cells #[x] 3 (0, 0)) := Array.getElem?_push_size
  have h2 : ((w.alloc (.cells #[x] 3)).alloc (.cells #[y] 3)).heap[w.heap.size]? = some (.cells #[x] 3 (0, 0)) := (Below.heap_alloc _ _ _ (by omega)).trans h1
  have h3 : ((w.alloc (.cells #[x] 3)).alloc (.cells #[y] 3)).heap[w.heap.size + 1]? = some (.cells #[y] 3 (0, 0)) := by
    rw [← hs]; exact Array.getElem?_push_size
  refine ⟨?_, ?_, by simp, ((Below.refl _ _).alloc (Nat.le_refl _) _).alloc (by simp) _⟩
  · unfold World.cell?; rw [h2]; rfl
  · unfold World.cell?; rw [h3]; rfl

theorem unit_call (b off cap : Nat) (e0 s : Int) (l : List (Int × Int)) (w : World) (hm : mayB l = true) (hbw : b < w.heap.size) (hT : TermsAt w b off l) (he0 : -1000 ≤ e0) (he1 : e0 ≤ 1000) (hs1 : s = 1 ∨ s = -1) (hu : unitM e0 s l = unitL l) :
    Calls Try.prog 181 #[.slice (some ⟨b, off, none⟩) l.length cap, .func (.func 182) #[] #[.pointer (some ⟨w.heap.size, 0, none⟩), .pointer (some ⟨w.heap.size + 1, 0, none⟩)]] ((w.alloc (.cells #[.int .i64 e0] 3)).alloc (.cells #[.int .i64 s] 3)) fun e w' =>
      ∃ v', e = .returned v' ∧ Poly w' w'.heap.size v' (unitL l) ∧ Below w.heap.size w w' := by
  obtain ⟨c0, c1, hsz, hb⟩ := box_two w (.int .i64 e0) (.int .i64 s)
  refine (changed_unit b off cap _ _ e0 s l _ hm (by omega) (hT.on hb hbw) (by omega) (by omega) c0 c1 he0 he1 hs1).mono ?_
  rintro e w' ⟨v, r, rfl, hrow, hcan, _, hb2⟩
  rw [hu] at hcan
  obtain rfl := canon_unique hcan (canon_unit hm)
  exact ⟨v, rfl, Poly.ofRow hrow, hb.trans (hb2.mono (by omega))⟩

set_option maxHeartbeats 1000000 in
set_option maxRecDepth 100000 in
theorem unit_some (b off cap : Nat) (l : List (Int × Int)) (w : World) (hpos : 0 < l.length) (hm : mayB l = true) (hbw : b < w.heap.size) (hT : TermsAt w b off l) :
    Calls Try.prog 129 #[.slice (some ⟨b, off, none⟩) l.length cap] w fun e w' => ∃ v', e = .returned (.tuple #[v', .int .i64 0]) ∧ Poly w' w'.heap.size v' (unitL l) ∧ Below w.heap.size w w' := by
  have hl64 := ((may_iff l).1 hm).1
  have HL : Hid (l.length ≤ maxLen) := by show _ ≤ _; unfold maxLen; omega
  have HM : Hid (mayB l = true) := hm
  have HT : Hid (TermsAt w b off l) := hT
  have hok := (okB_iff l 0).1 (((may_iff l).1 hm).2 0 hpos)
  obtain ⟨c0, c1⟩ := hT 0 hpos
  simp only [Nat.zero_mul, Nat.add_zero] at c0 c1
  generalize he : (l.getD 0 (0, 0)).1 = e0 at c0 hok
  generalize hc : (l.getD 0 (0, 0)).2 = k0 at c1 hok
  have HE : Hid (∀ s, (k0 < 0 ∧ s = -1) ∨ (¬ k0 < 0 ∧ s = 1) → unitM e0 s l = unitL l) := fun s hs => unit_eq he hc hs
  clear he hc hm hT
  obtain ⟨o1, o2, o3, o4, o5, -⟩ := hok
  clear o5
  have h0 : ((l.length : Int) == 0) = false := beq_eq_false_iff_ne.2 (by omega)
  by_cases hneg : k0 < 0
  · have HU : Hid _ := HE.out (-1) (Or.inl ⟨hneg, rfl⟩)
    go_enter Try.func129, Try.ntmps129
    go_wp2_with (first | (go_at_call 75; refine (mayBe_any b off cap l _ HL.out hbw HT.out).mono ?_; rw [HM.out]; rintro r w1 ⟨rfl, hb1⟩; have q0 := bcell hb1 hbw c0; have q1 := bcell hb1 hbw c1; have hs1 := hb1.size; have hbr : b < w1.heap.size := Nat.lt_of_lt_of_le hbw hs1) | (go_at_call 181; refine (unit_call b off cap e0 (-1) l w1 HM.out hbr (HT.out.on hb1 hbw) o1 o2 (by decide) HU.out).mono ?_; rintro r w2 ⟨v2, rfl, hP2, hb2⟩))
    go_ret2
    exact ⟨v2, rfl, hP2, hb1.trans (hb2.mono hs1)⟩
  · have HU : Hid _ := HE.out (1) (Or.inr ⟨hneg, rfl⟩)
    go_enter Try.func129, Try.ntmps129
    go_wp2_with (first | (go_at_call 75; refine (mayBe_any b off cap l _ HL.out hbw HT.out).mono ?_; rw [HM.out]; rintro r w1 ⟨rfl, hb1⟩; have q0 := bcell hb1 hbw c0; have q1 := bcell hb1 hbw c1; have hs1 := hb1.size; have hbr : b < w1.heap.size := Nat.lt_of_lt_of_le hbw hs1) | (go_at_call 181; refine (unit_call b off cap e0 (1) l w1 HM.out hbr (HT.out.on hb1 hbw) o1 o2 (by decide) HU.out).mono ?_; rintro r w2 ⟨v2, rfl, hP2, hb2⟩))
    go_ret2
    exact ⟨v2, rfl, hP2, hb1.trans (hb2.mono hs1)⟩

theorem unit_yes (v : Value) (l : List (Int × Int)) (w : World) (hm : mayB l = true) (hP : Poly w w.heap.size v l) :
    Calls Try.prog 129 #[v] w fun e w' => ∃ v', e = .returned (.tuple #[v', .int .i64 0]) ∧ Poly w' w'.heap.size v' (unitL l) ∧ Below w.heap.size w w' := by
  obtain ⟨a, cap, rfl, hp⟩ := hP.slice
  rcases Nat.eq_zero_or_pos l.length with h0 | h0
  · have e0 : l = [] := List.length_eq_zero_iff.1 h0
    subst e0
    exact (unit_none a cap w).mono fun e w' ⟨h1, h2⟩ => ⟨_, h1, Or.inl ⟨rfl, rfl⟩, h2⟩
  · obtain ⟨b, off, rfl, hlt, hT⟩ := hp h0
    exact unit_some b off cap l w h0 hm hlt hT
end Go.Proofs.Ytdbpiggohncjiaa.Poly
