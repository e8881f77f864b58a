/- Several texts of the proof, one behind the other. -/
import Derived.Test.YtlimfajjmhfnaaaGreatDoorW5P
import Derived.Deep.QuietTactic
import Derived.BigQuiet
/- Which of two codes is less; the walk of ref.lessCode. -/
namespace Go.Proofs.YtlimfajjmhfnaaaGreatDoor
open Go.RowKit

/-- Less number by number, of lists as long. -/
def lexL : List Int → List Int → Bool
  | x :: s, y :: t => if x = y then lexL s t else decide (x < y)
  | _, _ => false
def lessC (a b : List Int) : Bool := if a.length = b.length then lexL a b else decide (a.length < b.length)
theorem lexL_drop (a b : List Int) (i : Nat) (h : ∀ q, q < i → a.getD q 0 = b.getD q 0) (ha : i ≤ a.length) (hb : i ≤ b.length) : lexL a b = lexL (a.drop i) (b.drop i) := by
  induction i with
  | zero => rfl
  | succ i ih =>
    rw [ih (fun q hq => h q (by omega)) (by omega) (by omega)]
    have e := h i (by omega)
    rw [List.getD_eq_getElem?_getD, List.getD_eq_getElem?_getD, List.getElem?_eq_getElem (show i < a.length by omega), List.getElem?_eq_getElem (show i < b.length by omega)] at e
    rw [List.drop_eq_getElem_cons (show i < a.length by omega), List.drop_eq_getElem_cons (show i < b.length by omega), lexL, if_pos (by simpa using e)]
theorem lexL_at (a b : List Int) (i : Nat) (h : ∀ q, q < i → a.getD q 0 = b.getD q 0) (ha : i < a.length) (hb : i < b.length) (hne : a.getD i 0 ≠ b.getD i 0) : lexL a b = decide (a.getD i 0 < b.getD i 0) := by
  rw [lexL_drop a b i h (by omega) (by omega)]
  rw [List.getD_eq_getElem?_getD, List.getD_eq_getElem?_getD, List.getElem?_eq_getElem ha, List.getElem?_eq_getElem hb] at hne ⊢
  rw [List.drop_eq_getElem_cons ha, List.drop_eq_getElem_cons hb, lexL, if_neg (by simpa using hne)]
  rfl

end Go.Proofs.YtlimfajjmhfnaaaGreatDoor
/- Which of two tellings is less: the walks of cmp.Compare, slices.Compare and canon.compare. -/
namespace Go.Proofs.YtlimfajjmhfnaaaGreatDoor
open Go.RowKit

/-- As cmp.Compare tells it. -/
def cmpI (x y : Int) : Int := if x < y then -1 else if y < x then 1 else 0
/-- As slices.Compare tells it. -/
def lexC : List Int → List Int → Int
  | [], [] => 0
  | [], _ :: _ => -1
  | _ :: _, [] => 1
  | x :: s, y :: t => if x = y then lexC s t else cmpI x y
/-- As canon.compare tells it. -/
def cmpT (p q : List Nat × List Int) : Int := if p.1.length = q.1.length then lexC p.2 q.2 else cmpI p.1.length q.1.length
theorem isNaN_any (x : Int) (w : World) : Calls Tryz.prog 76 #[.int .i64 x] w fun e w' => e = .returned (.bool false) ∧ w' = w := by
  go_enter Tryz.func76, Tryz.ntmps76
  go_wp2
  go_ret
  exact ⟨by simp, rfl⟩
set_option maxHeartbeats 1000000 in
theorem cmpI_any (x y : Int) (w : World) : Calls Tryz.prog 64 #[.int .i64 x, .int .i64 y] w fun e w' => e = .returned (.int .i64 (cmpI x y)) ∧ w' = w := by
  go_enter Tryz.func64, Tryz.ntmps64
  go_wp2_with (go_at_call 76; refine (isNaN_any _ _).mono ?_; rintro e w' ⟨rfl, hw⟩; rw [hw])
  all_goals (go_ret; refine ⟨?_, rfl⟩; unfold cmpI; (repeat' split) <;> first | rfl | (exfalso; omega))
theorem cmpI_zero {x y : Int} : cmpI x y = 0 ↔ x = y := by
  unfold cmpI
  constructor
  · intro h; split at h
    · omega
    · split at h <;> omega
  · intro h; subst h; simp
theorem cmpI_lt {x y : Int} : cmpI x y < 0 ↔ x < y := by
  unfold cmpI
  constructor
  · intro h; split at h
    · assumption
    · split at h <;> omega
  · intro h; rw [if_pos h]; decide
theorem lexC_drop (a b : List Int) (i : Nat) (h : ∀ q, q < i → a.getD q 0 = b.getD q 0) (ha : i ≤ a.length) (hb : i ≤ b.length) : lexC a b = lexC (a.drop i) (b.drop i) := by
  induction i with
  | zero => rfl
  | succ i ih =>
    rw [ih (fun q hq => h q (by omega)) (by omega) (by omega)]
    have e := h i (by omega)
    rw [List.getD_eq_getElem?_getD, List.getD_eq_getElem?_getD, List.getElem?_eq_getElem (show i < a.length by omega), List.getElem?_eq_getElem (show i < b.length by omega)] at e
    rw [List.drop_eq_getElem_cons (show i < a.length by omega), List.drop_eq_getElem_cons (show i < b.length by omega), lexC, if_pos (by simpa using e)]
theorem lexC_at (a b : List Int) (i : Nat) (h : ∀ q, q < i → a.getD q 0 = b.getD q 0) (ha : i < a.length) (hb : i < b.length) (hne : a.getD i 0 ≠ b.getD i 0) : lexC a b = cmpI (a.getD i 0) (b.getD i 0) := by
  rw [lexC_drop a b i h (by omega) (by omega)]
  rw [List.getD_eq_getElem?_getD, List.getD_eq_getElem?_getD, List.getElem?_eq_getElem ha, List.getElem?_eq_getElem hb] at hne ⊢
  rw [List.drop_eq_getElem_cons ha, List.drop_eq_getElem_cons hb, lexC, if_neg (by simpa using hne)]
  rfl

set_option maxHeartbeats 2000000 in
set_option maxRecDepth 100000 in
theorem compareInts_any (v1 v2 : Value) (l m : List Int) (w : World) (hl : l.length ≤ 1000) (hm : m.length ≤ 1000) (h1 : Slots w w.heap.size v1 (intsV l)) (h2 : Slots w w.heap.size v2 (intsV m)) :
    Calls Tryz.prog 65 #[v1, v2] w fun e w' => e = .returned (.int .i64 (lexC l m)) ∧ w' = w := by
  obtain ⟨a1, c1, rfl, g1⟩ := h1
  obtain ⟨a2, c2, rfl, g2⟩ := h2
  rw [intsV_len] at g1 g2
  rw [intsV_len, intsV_len]
  have HG1 : Hid (0 < l.length → ∃ b off, a1 = some ⟨b, off, none⟩ ∧ b < w.heap.size ∧ ∀ i, i < l.length → w.cell? ⟨b, off + i, none⟩ = some ((intsV l).getD i (.bool false))) := g1
  have HG2 : Hid (0 < m.length → ∃ b off, a2 = some ⟨b, off, none⟩ ∧ b < w.heap.size ∧ ∀ i, i < m.length → w.cell? ⟨b, off + i, none⟩ = some ((intsV m).getD i (.bool false))) := g2
  have HV : Hid (∀ l : List Int, ∀ i, i < l.length → (intsV l).getD i (.bool false) = .int .i64 (l.getD i 0)) := fun l i hi => by rw [List.getD_eq_getElem?_getD, intsV_get l i hi]; rfl
  clear g1 g2
  obtain ⟨r, hr⟩ : ∃ r, lexC l m = r := ⟨_, rfl⟩
  have HLC : Hid (lexC l m = r) := hr
  rw [hr]
  clear hr
  go_enter Tryz.func65, Tryz.ntmps65
  go_wp2
  go_loopw [11] (fun v11 wr => ∃ k : Nat, k ≤ l.length ∧ k ≤ m.length ∧ v11 = .int .i64 k ∧ Hid (∀ q, q < k → l.getD q 0 = m.getD q 0) ∧ wr = w) (fun v11 _ => l.length - (intOf v11).toNat)
  case atStart => exact ⟨0, Nat.zero_le _, Nat.zero_le _, rfl, (fun q hq => absurd hq (Nat.not_lt_zero _) : ∀ q, q < 0 → l.getD q 0 = m.getD q 0), rfl⟩
  case round =>
    obtain ⟨k, hk, hkm, rfl, heq, rfl⟩ := hrel
    by_cases hlt : k < l.length
    · obtain ⟨b1, o1, rfl, hb1, q1⟩ := HG1.out (by omega)
      have p1 := q1 k hlt
      rw [HV.out l k hlt] at p1
      have hki : (k : Int) < (l.length : Int) := by omega
      by_cases hlm : k < m.length
      · obtain ⟨b2, o2, rfl, hb2, q2⟩ := HG2.out (by omega)
        have p2 := q2 k hlm
        rw [HV.out m k hlm] at p2
        obtain ⟨x, hx⟩ : ∃ x, l.getD k 0 = x := ⟨_, rfl⟩
        obtain ⟨y, hy⟩ : ∃ y, m.getD k 0 = y := ⟨_, rfl⟩
        have HX : Hid (l.getD k 0 = x) := hx
        have HY : Hid (m.getD k 0 = y) := hy
        rw [hx] at p1
        rw [hy] at p2
        have hdm : decide ((m.length : Int) ≤ (k : Int)) = false := decide_eq_false (by omega)
        have hdm2 : decide (m.length ≤ k) = false := decide_eq_false (by omega)
        clear q1 q2 hx hy
        by_cases hxy : x = y
        · subst hxy
          have HC : Hid (cmpI x x = 0) := cmpI_zero.2 rfl
          go_wp2_with (go_at_call 64; refine (cmpI_any x x _).mono ?_; rw [HC.out]; rintro e w' ⟨rfl, hw⟩; rw [hw])
          go_roundw
          case rel =>
            refine ⟨k + 1, by omega, by omega, by go_num, (fun q hq => ?_ : ∀ q, q < k + 1 → l.getD q 0 = m.getD q 0), by first | rfl | trivial⟩
            by_cases e : q = k
            · subst e; rw [HX.out, HY.out]
            · exact heq.out q (by omega)
          case measure => simp [intOf]; omega
        · have hne : cmpI x y ≠ 0 := fun h => hxy (cmpI_zero.1 h)
          obtain ⟨z, hgz⟩ : ∃ z, cmpI x y = z := ⟨_, rfl⟩
          obtain rfl : r = z := by
            rw [← HLC.out, lexC_at l m k heq.out hlt hlm (by rw [HX.out, HY.out]; exact hxy), HX.out, HY.out, hgz]
          have HZ : Hid (cmpI x y = r) := hgz
          rw [hgz] at hne
          have hz : (r != 0) = true := by simp [hne]
          have hz2 : (r == 0) = false := beq_eq_false_iff_ne.2 hne
          clear hgz
          go_wp2_with (go_at_call 64; refine (cmpI_any x y _).mono ?_; rw [HZ.out]; rintro e w' ⟨rfl, hw⟩; rw [hw])
          go_ret
          exact ⟨rfl, rfl⟩
      · obtain rfl : k = m.length := by omega
        have hdm : decide ((m.length : Int) ≤ (m.length : Int)) = true := decide_eq_true (by omega)
        obtain rfl : r = 1 := by
          rw [← HLC.out, lexC_drop l m m.length heq.out (by omega) (Nat.le_refl _), List.drop_length, List.drop_eq_getElem_cons hlt]
          rfl
        go_wp2
        go_ret
        exact ⟨rfl, rfl⟩
    · obtain rfl : k = l.length := by omega
      by_cases hlm : l.length < m.length
      · have hdm : decide ((l.length : Int) < (m.length : Int)) = true := decide_eq_true (by omega)
        obtain rfl : r = -1 := by
          rw [← HLC.out, lexC_drop l m l.length heq.out (Nat.le_refl _) hkm, List.drop_length, List.drop_eq_getElem_cons hlm]
          rfl
        go_wp2
        go_ret
        exact ⟨rfl, rfl⟩
      · have hll : m.length = l.length := by omega
        have hdm : decide ((l.length : Int) < (m.length : Int)) = false := decide_eq_false (by omega)
        obtain rfl : r = 0 := by
          rw [← HLC.out, lexC_drop l m l.length heq.out (Nat.le_refl _) hkm, List.drop_length, List.drop_eq_nil_of_le (by omega)]
          rfl
        clear hll
        go_wp2
        go_ret
        exact ⟨rfl, rfl⟩

set_option maxHeartbeats 2000000 in
set_option maxRecDepth 100000 in
/-- canon.compare: two boxes are laid, and nothing else. -/
theorem compareT_any (vo1 vc1 vo2 vc2 : Value) (p q : List Nat × List Int) (w : World) (hp : p.2.length ≤ 1000) (hq : q.2.length ≤ 1000) (h1 : ∃ a c, vo1 = .slice a p.1.length c) (h2 : ∃ a c, vo2 = .slice a q.1.length c) (h3 : Slots w w.heap.size vc1 (intsV p.2)) (h4 : Slots w w.heap.size vc2 (intsV q.2)) :
    Calls Tryz.prog 53 #[.agg #[vo1, vc1], .agg #[vo2, vc2]] w fun e w' => e = .returned (.int .i64 (cmpT p q)) ∧ w' = (w.alloc (.cells #[vo1, vc1] 91)).alloc (.cells #[vo2, vc2] 91) := by
  obtain ⟨a1, c1, rfl⟩ := h1
  obtain ⟨a2, c2, rfl⟩ := h2
  have hcT : cmpT p q = if p.1.length = q.1.length then lexC p.2 q.2 else cmpI p.1.length q.1.length := rfl
  obtain ⟨w0, hw0⟩ : ∃ w0, w0 = (w.alloc (.cells #[.slice a1 p.1.length c1, vc1] 91)).alloc (.cells #[.slice a2 q.1.length c2, vc2] 91) := ⟨_, rfl⟩
  have HW0 : Hid (w0 = (w.alloc (.cells #[.slice a1 p.1.length c1, vc1] 91)).alloc (.cells #[.slice a2 q.1.length c2, vc2] 91)) := hw0
  have hs0 : w0.heap.size = w.heap.size + 2 := by rw [hw0]; simp
  have hB0 : Below w.heap.size w w0 := by rw [hw0]; exact below2 _ _ _
  have g0 : w0.heap[w.heap.size]? = some (.cells #[.slice a1 p.1.length c1, vc1] 91 (0, 0)) := by rw [hw0]; exact alloc_old (alloc_at rfl)
  have g1 : w0.heap[w.heap.size + 1]? = some (.cells #[.slice a2 q.1.length c2, vc2] 91 (0, 0)) := by rw [hw0]; exact alloc_at (by simp)
  have t0 : w0.cell? ⟨w.heap.size, 0, none⟩ = some (.slice a1 p.1.length c1) := block_cell g0 rfl
  have t1 : w0.cell? ⟨w.heap.size, 1, none⟩ = some vc1 := block_cell g0 rfl
  have t2 : w0.cell? ⟨w.heap.size + 1, 0, none⟩ = some (.slice a2 q.1.length c2) := block_cell g1 rfl
  have t3 : w0.cell? ⟨w.heap.size + 1, 1, none⟩ = some vc2 := block_cell g1 rfl
  have HS : Hid (Slots w0 w0.heap.size vc1 (intsV p.2) ∧ Slots w0 w0.heap.size vc2 (intsV q.2)) := ⟨(h3.on hB0).mono hB0.size, (h4.on hB0).mono hB0.size⟩
  obtain ⟨a3, c3, rfl, -⟩ := h3
  obtain ⟨a4, c4, rfl, -⟩ := h4
  clear hw0 hB0 g0 g1
  simp only [intsV_len] at t1 t3 HS HW0 ⊢
  have l0 : w.heap.size < w0.heap.size := by omega
  have l1 : w.heap.size + 1 < w0.heap.size := by omega
  by_cases hpq : p.1.length = q.1.length
  · rw [if_pos hpq] at hcT
    rw [hcT]
    have HZ : Hid (cmpI (p.1.length : Int) (q.1.length : Int) = 0) := cmpI_zero.2 (by omega)
    clear hcT hpq
    have HCI : Hid (∀ W, Slots W W.heap.size (.slice a3 p.2.length c3) (intsV p.2) → Slots W W.heap.size (.slice a4 q.2.length c4) (intsV q.2) → Calls Tryz.prog 65 #[.slice a3 p.2.length c3, .slice a4 q.2.length c4] W fun e w' => e = .returned (.int .i64 (lexC p.2 q.2)) ∧ w' = W) := fun W h1 h2 => compareInts_any _ _ p.2 q.2 W hp hq h1 h2
    generalize lexC p.2 q.2 = r at HCI ⊢
    go_enter Tryz.func53, Tryz.ntmps53
    go_wp2_with (first | (go_at_call 64; rw [← HW0.out]; refine (cmpI_any _ _ _).mono ?_; rw [HZ.out]; rintro e w' ⟨rfl, hw⟩; rw [hw]) | (go_at_call 65; refine (HCI.out _ HS.out.1 HS.out.2).mono ?_; rintro e w' ⟨rfl, hw⟩; rw [hw]))
    go_ret
    exact ⟨rfl, HW0.out⟩
  · rw [if_neg hpq] at hcT
    rw [hcT]
    have hne : cmpI (p.1.length : Int) (q.1.length : Int) ≠ 0 := fun h => hpq (by have := cmpI_zero.1 h; omega)
    obtain ⟨z, hz0⟩ : ∃ z, cmpI (p.1.length : Int) (q.1.length : Int) = z := ⟨_, rfl⟩
    have HZ : Hid (cmpI (p.1.length : Int) (q.1.length : Int) = z) := hz0
    rw [hz0] at hne ⊢
    have hz : (z != 0) = true := by simp [hne]
    have hz2 : (z == 0) = false := beq_eq_false_iff_ne.2 hne
    clear hcT hpq hz0
    go_enter Tryz.func53, Tryz.ntmps53
    go_wp2_with (first | (go_at_call 64; rw [← HW0.out]; refine (cmpI_any _ _ _).mono ?_; rw [HZ.out]; rintro e w' ⟨rfl, hw⟩; rw [hw]))
    go_ret
    exact ⟨rfl, HW0.out⟩
end Go.Proofs.YtlimfajjmhfnaaaGreatDoor
