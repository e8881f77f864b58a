/- Fractions of lists: their mathematics; the walks of tangle.fractionOf, tangle.Fraction and ref.FractionOf. -/
import Derived.Test.YtbikalghmlihlaaTG1
namespace Go.Proofs.Ytbikalghmlihlaa
open Go.RowKit

/-- p and q behind k numbers. -/
def frTo (l : List Int) : Nat → Int × Int
  | 0 => (1, 0)
  | k + 1 => (l.getD k 0 * (frTo l k).1 + (frTo l k).2, (frTo l k).1)
theorem frTo_le (l : List Int) (k : Nat) : (frTo l k).1.natAbs + (frTo l k).2.natAbs ≤ 2 ^ szTo l k := by
  induction k with
  | zero => simp [frTo, szTo]
  | succ k ih =>
    simp only [frTo, szTo]
    obtain ⟨p, hp⟩ : ∃ p, (frTo l k).1 = p := ⟨_, rfl⟩
    obtain ⟨q, hq⟩ : ∃ q, (frTo l k).2 = q := ⟨_, rfl⟩
    obtain ⟨n, hn⟩ : ∃ n, l.getD k 0 = n := ⟨_, rfl⟩
    rw [hp, hq] at ih ⊢
    rw [hn]
    have h1 : (n * p + q).natAbs ≤ n.natAbs * p.natAbs + q.natAbs := by
      have := Int.natAbs_add_le (n * p) q
      rw [Int.natAbs_mul] at this
      exact this
    have h2 : n.natAbs + 1 ≤ 2 ^ n.natAbs := Nat.lt_two_pow_self
    have h3 : (p.natAbs + q.natAbs) * (n.natAbs + 1) ≤ 2 ^ szTo l k * 2 ^ n.natAbs := Nat.mul_le_mul ih h2
    rw [Nat.pow_add]
    refine Nat.le_trans ?_ h3
    have h4 : (p.natAbs + q.natAbs) * (n.natAbs + 1) = n.natAbs * p.natAbs + q.natAbs * n.natAbs + p.natAbs + q.natAbs := by
      rw [Nat.mul_add, Nat.add_mul, Nat.mul_one, Nat.mul_comm p.natAbs]
      omega
    rw [h4]
    have h5 : 0 ≤ q.natAbs * n.natAbs := Nat.zero_le _
    omega
theorem szTo_mono (l : List Int) (i j : Nat) (h : i ≤ j) : szTo l i ≤ szTo l j := by
  induction j with
  | zero => rw [Nat.le_zero.1 h]; exact Nat.le_refl _
  | succ j ih =>
    by_cases e : i = j + 1
    · rw [e]; exact Nat.le_refl _
    · have := ih (by omega)
      simp only [szTo]
      omega
theorem frTo_small {l : List Int} (h : szTo l l.length ≤ 16) (k : Nat) (hk : k ≤ l.length) : -65536 ≤ (frTo l k).1 ∧ (frTo l k).1 ≤ 65536 ∧ -65536 ≤ (frTo l k).2 ∧ (frTo l k).2 ≤ 65536 := by
  have h1 := frTo_le l k
  have h2 : 2 ^ szTo l k ≤ 2 ^ 16 := Nat.pow_le_pow_right (by omega) (Nat.le_trans (szTo_mono l k _ hk) h)
  have h3 : (2 : Nat) ^ 16 = 65536 := by decide
  omega
theorem frTo_unit (l : List Int) (k : Nat) : ∃ u v : Int, u * (frTo l k).1 + v * (frTo l k).2 = 1 := by
  induction k with
  | zero => exact ⟨1, 0, by simp [frTo]⟩
  | succ k ih =>
    obtain ⟨u, v, h⟩ := ih
    refine ⟨v, u - l.getD k 0 * v, ?_⟩
    simp only [frTo]
    rw [← h, Int.mul_add, Int.sub_mul, Int.mul_comm (l.getD k 0) v, Int.mul_assoc]
    omega
theorem frTo_one (l : List Int) (k : Nat) (h : (frTo l k).2 = 0) : (frTo l k).1 = 1 ∨ (frTo l k).1 = -1 := by
  obtain ⟨u, v, e⟩ := frTo_unit l k
  rw [h, Int.mul_zero, Int.add_zero] at e
  have e2 : u.natAbs * (frTo l k).1.natAbs = 1 := by rw [← Int.natAbs_mul, e]; rfl
  have e3 := Nat.eq_one_of_mul_eq_one_left e2
  omega
/-- The fraction. -/
def frM (l : List Int) : Int × Int := if (frTo l l.length).2 < 0 ∨ ((frTo l l.length).2 = 0 ∧ (frTo l l.length).1 < 0) then (-(frTo l l.length).1, -(frTo l l.length).2) else frTo l l.length
theorem ret_two {a b c d : Int} (h : a = c) (h2 : b = d) : Ending.returned (.tuple #[.int .i64 a, .int .i64 b]) = .returned (.tuple #[.int .i64 c, .int .i64 d]) := by rw [h, h2]

set_option maxHeartbeats 4000000 in
set_option maxRecDepth 100000 in
theorem tgFractionOf_any (a : Option Addr) (cap : Nat) (l : List Int) (w : World) (hl : l.length ≤ 140737488355328) (hz : szTo l l.length ≤ 16) (hr : ∀ j, j < l.length → -16 ≤ l.getD j 0 ∧ l.getD j 0 ≤ 16) (h : RdAt w w.heap.size 1 (.slice a l.length cap) l.length (intsV l)) :
    Calls Try.prog 114 #[.slice a l.length cap] w fun e w' => e = .returned (.tuple #[.int .i64 (frM l).1, .int .i64 (frM l).2]) ∧ Below w.heap.size w w' := by
  have HR : Hid (RdAt w w.heap.size 1 (.slice a l.length cap) l.length (intsV l)) := h
  have HB : Hid (Below w.heap.size w w) := Below.refl _ _
  have HSM : Hid (szTo l l.length ≤ 16) := hz
  have HRG : Hid (∀ j, j < l.length → -16 ≤ l.getD j 0 ∧ l.getD j 0 ≤ 16) := hr
  obtain ⟨n, hN⟩ : ∃ n, l.length = n := ⟨_, rfl⟩
  have HN : Hid (l.length = n) := hN
  rw [hN] at hl ⊢
  clear h hN hz hr
  go_enter Try.func114, Try.ntmps114
  go_wp2
  go_loopw [2, 3, 8] (fun v2 v3 v8 wr => ∃ i : Nat, i ≤ n ∧ v8 = .int .i64 (i : Nat) ∧ v2 = .int .i64 (frTo l i).1 ∧ v3 = .int .i64 (frTo l i).2 ∧ Hid (Below w.heap.size w wr)) (fun _ _ v8 _ => n - (intOf v8).toNat)
  case atStart => exact ⟨0, Nat.zero_le _, rfl, rfl, rfl, HB.out⟩
  case round =>
    clear HB
    rename World => W1
    obtain ⟨i, hin, rfl, rfl, rfl, hb⟩ := hrel
    obtain ⟨b1, b2, b3, b4⟩ := frTo_small HSM.out i (by rw [HN.out]; exact hin)
    by_cases hil : i < n
    · obtain ⟨b, off, ea, hbw, hc⟩ := HR.out.intAt i (by rw [HN.out]; exact hil)
      have e0 := bcell hb.out hbw hc
      have hsW := hb.out.size
      have hbW : b < W1.heap.size := by omega
      obtain ⟨c1, c2, c3, c4⟩ := frTo_small HSM.out (i + 1) (by rw [HN.out]; exact hil)
      have HE1 : Hid ((frTo l (i + 1)).1 = l.getD i 0 * (frTo l i).1 + (frTo l i).2) := (rfl : (frTo l (i + 1)).1 = l.getD i 0 * (frTo l i).1 + (frTo l i).2)
      have HE2 : Hid ((frTo l (i + 1)).2 = (frTo l i).1) := (rfl : (frTo l (i + 1)).2 = (frTo l i).1)
      rw [HE1.out] at c1 c2
      obtain ⟨x, hx⟩ : ∃ x, l.getD i 0 = x := ⟨_, rfl⟩
      obtain ⟨p, hp⟩ : ∃ p, (frTo l i).1 = p := ⟨_, rfl⟩
      obtain ⟨q, hq⟩ : ∃ q, (frTo l i).2 = q := ⟨_, rfl⟩
      rw [hx] at e0 HE1 c1 c2
      rw [hp] at HE1 HE2 b1 b2 c1 c2 ⊢
      rw [hq] at HE1 b3 b4 c1 c2 ⊢
      obtain ⟨m, hm⟩ : ∃ m, x * p = m := ⟨_, rfl⟩
      rw [hm] at HE1 c1 c2
      have ew1 : IntKind.i64.wrap (x * p) = m := by rw [hm]; exact IntWalk.i64_in _ (by omega)
      have ew2 : IntKind.i64.wrap (m + q) = m + q := IntWalk.i64_in _ (by omega)
      subst ea
      clear hx hp hq hc c3 c4
      go_wp2
      go_roundw
      case rel => exact ⟨i + 1, by omega, by go_num, by rw [HE1.out], by rw [HE2.out], hb.out⟩
      case measure => simp only [intOf]; omega
    · obtain rfl : i = n := by omega
      have HF : Hid (frM l = if (frTo l i).2 < 0 ∨ ((frTo l i).2 = 0 ∧ (frTo l i).1 < 0) then (-(frTo l i).1, -(frTo l i).2) else ((frTo l i).1, (frTo l i).2)) := (by unfold frM; rw [HN.out] : frM l = if (frTo l i).2 < 0 ∨ ((frTo l i).2 = 0 ∧ (frTo l i).1 < 0) then (-(frTo l i).1, -(frTo l i).2) else ((frTo l i).1, (frTo l i).2))
      obtain ⟨p, hp⟩ : ∃ p, (frTo l i).1 = p := ⟨_, rfl⟩
      obtain ⟨q, hq⟩ : ∃ q, (frTo l i).2 = q := ⟨_, rfl⟩
      rw [hp] at HF b1 b2 ⊢
      rw [hq] at HF b3 b4 ⊢
      clear hp hq
      by_cases h1 : q < 0
      · have HF2 : Hid (frM l = (-p, -q)) := (by rw [HF.out, if_pos (Or.inl h1)] : frM l = (-p, -q))
        go_wp2
        go_ret2
        exact ⟨ret_two (by rw [HF2.out]) (by rw [HF2.out]), hb.out⟩
      · by_cases h2 : q = 0
        · subst h2
          by_cases h3 : p < 0
          · have HF2 : Hid (frM l = (-p, 0)) := (by rw [HF.out, if_pos (Or.inr ⟨rfl, h3⟩)]; rfl : frM l = (-p, 0))
            go_wp2
            go_ret2
            exact ⟨ret_two (by rw [HF2.out]) (by rw [HF2.out]), hb.out⟩
          · have HF2 : Hid (frM l = (p, 0)) := (by rw [HF.out, if_neg (by omega)] : frM l = (p, 0))
            go_wp2
            go_ret2
            exact ⟨ret_two (by rw [HF2.out]) (by rw [HF2.out]), hb.out⟩
        · have HF2 : Hid (frM l = (p, q)) := (by rw [HF.out, if_neg (by omega)] : frM l = (p, q))
          have hqz : (q == 0) = false := by simp; omega
          go_wp2
          go_ret2
          exact ⟨ret_two (by rw [HF2.out]) (by rw [HF2.out]), hb.out⟩

set_option maxHeartbeats 4000000 in
set_option maxRecDepth 100000 in
theorem fractionOf_any (a : Option Addr) (cap : Nat) (l : List Int) (w : World) (hl : l.length ≤ 140737488355328) (h1 : 1 ≤ l.length) (hz : szTo l l.length ≤ 16) (hr : ∀ j, j < l.length → -16 ≤ l.getD j 0 ∧ l.getD j 0 ≤ 16) (h : RdAt w w.heap.size 1 (.slice a l.length cap) l.length (intsV l)) :
    Calls Try.prog 54 #[.slice a l.length cap] w fun e w' => e = .returned (.tuple #[.int .i64 (frM l).1, .int .i64 (frM l).2]) ∧ Below w.heap.size w w' := by
  have HR : Hid (RdAt w w.heap.size 1 (.slice a l.length cap) l.length (intsV l)) := h
  have HB : Hid (Below w.heap.size w w) := Below.refl _ _
  have HSM : Hid (szTo l l.length ≤ 16) := hz
  have HRG : Hid (∀ j, j < l.length → -16 ≤ l.getD j 0 ∧ l.getD j 0 ≤ 16) := hr
  obtain ⟨b, off, ea, hbw, hc0⟩ := h.intAt 0 (by omega)
  have HC : Hid (∀ i, i < l.length → w.cell? ⟨b, off + i, none⟩ = some (.int .i64 (l.getD i 0))) := fun i hi => by
    obtain ⟨b', off', ea', hbw', hc'⟩ := h.intAt i hi
    rw [ea] at ea'
    injection ea' with ea'
    injection ea' with e1 e2 e3
    rw [e1, e2]
    exact hc'
  obtain ⟨n, hN⟩ : ∃ n, l.length = n := ⟨_, rfl⟩
  have HN : Hid (l.length = n) := hN
  rw [hN] at hl h1 ⊢
  subst ea
  rw [Nat.add_zero] at hc0
  obtain ⟨x0, hx0⟩ : ∃ x, l.getD 0 0 = x := ⟨_, rfl⟩
  have HX0 : Hid (l.getD 0 0 = x0) := hx0
  rw [hx0] at hc0
  clear h hN hz hr hx0
  go_enter Try.func54, Try.ntmps54
  go_wp2
  go_loopw [4, 5, 6] (fun v4 v5 v6 wr => ∃ i : Nat, 1 ≤ i ∧ i ≤ n ∧ v6 = .int .i64 (i : Nat) ∧ v4 = .int .i64 (frTo l i).1 ∧ v5 = .int .i64 (frTo l i).2 ∧ Hid (Below w.heap.size w wr)) (fun _ _ v6 _ => n - (intOf v6).toNat)
  case atStart => exact ⟨1, Nat.le_refl _, h1, rfl, by simp only [frTo]; rw [HX0.out, Int.mul_one, Int.add_zero], rfl, HB.out⟩
  case round =>
    clear HB hc0
    rename World => W1
    obtain ⟨i, hi1, hin, rfl, rfl, rfl, hb⟩ := hrel
    obtain ⟨b1, b2, b3, b4⟩ := frTo_small HSM.out i (by rw [HN.out]; exact hin)
    by_cases hil : i < n
    · have e0 := bcell hb.out hbw (HC.out i (by rw [HN.out]; exact hil))
      have hsW := hb.out.size
      have hbW : b < W1.heap.size := by omega
      obtain ⟨c1, c2, c3, c4⟩ := frTo_small HSM.out (i + 1) (by rw [HN.out]; exact hil)
      have HE1 : Hid ((frTo l (i + 1)).1 = l.getD i 0 * (frTo l i).1 + (frTo l i).2) := (rfl : (frTo l (i + 1)).1 = l.getD i 0 * (frTo l i).1 + (frTo l i).2)
      have HE2 : Hid ((frTo l (i + 1)).2 = (frTo l i).1) := (rfl : (frTo l (i + 1)).2 = (frTo l i).1)
      rw [HE1.out] at c1 c2
      obtain ⟨x, hx⟩ : ∃ x, l.getD i 0 = x := ⟨_, rfl⟩
      obtain ⟨p, hp⟩ : ∃ p, (frTo l i).1 = p := ⟨_, rfl⟩
      obtain ⟨q, hq⟩ : ∃ q, (frTo l i).2 = q := ⟨_, rfl⟩
      rw [hx] at e0 HE1 c1 c2
      rw [hp] at HE1 HE2 b1 b2 c1 c2 ⊢
      rw [hq] at HE1 b3 b4 c1 c2 ⊢
      obtain ⟨m, hm⟩ : ∃ m, x * p = m := ⟨_, rfl⟩
      rw [hm] at HE1 c1 c2
      have ew1 : IntKind.i64.wrap (x * p) = m := by rw [hm]; exact IntWalk.i64_in _ (by omega)
      have ew2 : IntKind.i64.wrap (q + m) = q + m := IntWalk.i64_in _ (by omega)
      clear hx hp hq c3 c4
      go_wp2
      go_roundw
      case rel => exact ⟨i + 1, by omega, by omega, by go_num, by rw [HE1.out, Int.add_comm], by rw [HE2.out], hb.out⟩
      case measure => simp only [intOf]; omega
    · obtain rfl : i = n := by omega
      have HF : Hid (frM l = if (frTo l i).2 < 0 ∨ ((frTo l i).2 = 0 ∧ (frTo l i).1 < 0) then (-(frTo l i).1, -(frTo l i).2) else ((frTo l i).1, (frTo l i).2)) := (by unfold frM; rw [HN.out] : frM l = if (frTo l i).2 < 0 ∨ ((frTo l i).2 = 0 ∧ (frTo l i).1 < 0) then (-(frTo l i).1, -(frTo l i).2) else ((frTo l i).1, (frTo l i).2))
      have hun := frTo_one l i
      obtain ⟨p, hp⟩ : ∃ p, (frTo l i).1 = p := ⟨_, rfl⟩
      obtain ⟨q, hq⟩ : ∃ q, (frTo l i).2 = q := ⟨_, rfl⟩
      rw [hp, hq] at hun
      rw [hp] at HF b1 b2 ⊢
      rw [hq] at HF b3 b4 ⊢
      clear hp hq
      by_cases h1 : q < 0
      · have HF2 : Hid (frM l = (-p, -q)) := (by rw [HF.out, if_pos (Or.inl h1)] : frM l = (-p, -q))
        have hqz : (-q == 0) = false := by simp; omega
        clear hun
        go_wp2
        go_ret2
        exact ⟨ret_two (by rw [HF2.out]) (by rw [HF2.out]), hb.out⟩
      · by_cases h2 : q = 0
        · have HF2 : Hid (frM l = (1, 0)) := (by
            rw [HF.out]
            rcases hun h2 with e | e
            · rw [if_neg (by omega), e, h2]
            · rw [if_pos (by omega), e, h2]; rfl : frM l = (1, 0))
          subst h2
          clear hun
          go_wp2
          go_ret2
          exact ⟨ret_two (by rw [HF2.out]) (by rw [HF2.out]), hb.out⟩
        · have HF2 : Hid (frM l = (p, q)) := (by rw [HF.out, if_neg (by omega)] : frM l = (p, q))
          have hqz : (q == 0) = false := by simp; omega
          clear hun
          go_wp2
          go_ret2
          exact ⟨ret_two (by rw [HF2.out]) (by rw [HF2.out]), hb.out⟩

set_option maxHeartbeats 4000000 in
set_option maxRecDepth 100000 in
theorem fraction_no (a : Option Addr) (cap : Nat) (l : List Int) (w : World) (hl : l.length ≤ 140737488355328) (hn : listN l ≠ 0) (h : RdAt w w.heap.size 1 (.slice a l.length cap) l.length (intsV l)) :
    Calls Try.prog 51 #[.slice a l.length cap] w fun e w' => e = .returned (.tuple #[.int .i64 0, .int .i64 0, .int .i64 (listN l)]) ∧ Below w.heap.size w w' := by
  have HF : Hid (Calls Try.prog 113 #[.slice a l.length cap] w fun e w' => e = .returned (.int .i64 (listN l)) ∧ Below w.heap.size w w') := tgRefusal_any a cap l w hl h
  generalize listN l = r at hn HF
  have hr0 : (r == 0) = false := beq_eq_false_iff_ne.2 hn
  clear h
  go_enter Try.func51, Try.ntmps51
  go_wp2_with (go_at_call 113; refine HF.out.mono ?_; rintro e9 w2 ⟨rfl, hb2⟩; refine Hid.out ?_)
  refine Lib.hid ?_
  have HB2 : Hid (Below w.heap.size w w2) := hb2
  clear hb2
  go_wp2
  go_ret3
  exact ⟨rfl, HB2.out⟩
set_option maxHeartbeats 4000000 in
set_option maxRecDepth 100000 in
theorem fraction_yes (a : Option Addr) (cap : Nat) (l : List Int) (w : World) (hl : l.length ≤ 140737488355328) (hn : listN l = 0) (h : RdAt w w.heap.size 1 (.slice a l.length cap) l.length (intsV l)) :
    Calls Try.prog 51 #[.slice a l.length cap] w fun e w' => e = .returned (.tuple #[.int .i64 (frM l).1, .int .i64 (frM l).2, .int .i64 0]) ∧ Below w.heap.size w w' := by
  have HF : Hid (Calls Try.prog 113 #[.slice a l.length cap] w fun e w' => e = .returned (.int .i64 (listN l)) ∧ Below w.heap.size w w') := tgRefusal_any a cap l w hl h
  rw [hn] at HF
  obtain ⟨g1, g2, g3⟩ := listN_ok hn
  have HG : Hid (∀ W, Below w.heap.size w W → Calls Try.prog 114 #[.slice a l.length cap] W fun e w' => e = .returned (.tuple #[.int .i64 (frM l).1, .int .i64 (frM l).2]) ∧ Below W.heap.size W w') := fun W hW => tgFractionOf_any a cap l W hl g3 g1 ((h.on hW).mono hW.size)
  clear h g1 g2 g3 hn
  go_enter Try.func51, Try.ntmps51
  go_wp2_with (go_at_call 113; refine HF.out.mono ?_; rintro e9 w2 ⟨rfl, hb2⟩; refine Hid.out ?_)
  refine Lib.hid ?_
  have HB2 : Hid (Below w.heap.size w w2) := hb2
  clear hb2
  go_wp2_with (go_at_call 114; refine (HG.out _ HB2.out).mono ?_; rintro e9 w3 ⟨rfl, hb3⟩; refine Hid.out ?_)
  refine Lib.hid ?_
  have HB3 : Hid (Below w.heap.size w w3) := HB2.out.trans (hb3.mono HB2.out.size)
  clear hb3
  go_wp2
  go_ret3
  exact ⟨rfl, HB3.out⟩
end Go.Proofs.Ytbikalghmlihlaa
