/- The walk of tangle.twisted. -/
import Derived.Test.YtphhlflcghffbaaTL6
namespace Go.Proofs.Ytphhlflcghffbaa
open Go.RowKit Go.Maps

theorem szTo_up (l : List Int) (i j : Nat) (h : i ≤ j) : szTo l i ≤ szTo l j := by
  induction j with
  | zero => rw [Nat.le_zero.1 h]; exact Nat.le_refl _
  | succ j ih =>
    by_cases e : i = j + 1
    · rw [e]; exact Nat.le_refl _
    · have := ih (by omega)
      simp only [szTo]
      omega
theorem below_map {b : Nat} {w W X : World} (h : Below w.heap.size w W) (hB : w.heap.size ≤ b) (hg : W.grownBy X (some b)) : Below w.heap.size w X := h.grown hg h.size (fun q hq => by have := Option.some.inj hq; omega)
theorem makeTies (w : World) : (Instr.makeMap 122 none).run Try.prog w = .ok (.map (some w.heap.size)) (w.alloc (.map #[] 0)) := rfl

set_option maxHeartbeats 8000000 in
set_option maxRecDepth 100000 in
theorem twisted_any (a : Option Addr) (cap : Nat) (l : List Int) (w : World) (hl : l.length ≤ 140737488355328) (hz : szTo l l.length ≤ 16) (hr : ∀ j, j < l.length → -16 ≤ l.getD j 0 ∧ l.getD j 0 ≤ 16) (h : RdAt w w.heap.size 1 (.slice a l.length cap) l.length (intsV l)) :
    Calls Try.prog 85 #[.slice a l.length cap] w fun e w' => e = .returned (.tuple #[.map (some w.heap.size), .int .i64 (szTo l l.length : Nat)]) ∧ MapT w' w.heap.size 400 (Dom (szTo l l.length)) (twL l l.length) ∧ Below w.heap.size w w' := by
  have HR : Hid (RdAt w w.heap.size 1 (.slice a l.length cap) l.length (intsV l)) := h
  have HRG : Hid (∀ j, j < l.length → -16 ≤ l.getD j 0 ∧ l.getD j 0 ≤ 16) := hr
  have HSM : Hid (∀ i, i ≤ l.length → szTo l i ≤ 16) := fun i hi => Nat.le_trans (szTo_up l i _ hi) hz
  obtain ⟨n, hN⟩ : ∃ n, l.length = n := ⟨_, rfl⟩
  have HN : Hid (l.length = n) := hN
  rw [hN] at hl ⊢
  obtain ⟨Y, hY⟩ : ∃ Y, Y = w.alloc (.map #[] 0) := ⟨_, rfl⟩
  have HY : Hid (Y = w.alloc (.map #[] 0)) := hY
  obtain ⟨b, hb0⟩ : ∃ b, b = w.heap.size := ⟨_, rfl⟩
  have HB0 : Hid (b = w.heap.size) := hb0
  have HM0 : Hid (MapT Y b 0 (fun _ => False) tie0) := (by rw [hY, hb0]; exact ⟨_, World.ownsMap_made w _ _ _, fun x l hx => hx.elim⟩ : MapT Y b 0 (fun _ => False) tie0)
  have HBY : Hid (Below w.heap.size w Y) := (by rw [hY]; exact (Below.refl _ _).alloc (Nat.le_refl _) _ : Below w.heap.size w Y)
  have hbs : w.heap.size ≤ b ∧ b ≤ w.heap.size := by omega
  have HT1 : Hid (∀ W, MapT W b 0 (fun _ => False) tie0 → Calls Try.prog 138 #[.map (some b), .agg #[.int .i64 (-1), .int .i64 0], .agg #[.int .i64 (-1), .int .i64 1]] W fun r w' => r = .returned (.tuple #[]) ∧ MapT w' b 2 (fun z => z = 1 ∨ z = 0 ∨ False) (tieF tie0 0 1) ∧ W.grownBy w' (some b)) := fun W hW => tie_any b 0 _ _ 0 1 W hW (by omega) (by omega) (by omega)
  have HT2 : Hid (∀ W, MapT W b 2 (fun z => z = 1 ∨ z = 0 ∨ False) (tieF tie0 0 1) → Calls Try.prog 138 #[.map (some b), .agg #[.int .i64 (-1), .int .i64 2], .agg #[.int .i64 (-1), .int .i64 3]] W fun r w' => r = .returned (.tuple #[]) ∧ MapT w' b 4 (Dom 0) tie0 ∧ W.grownBy w' (some b)) := fun W hW => (tie_any b 2 _ _ 2 3 W hW (by omega) (by omega) (by omega)).mono fun r w' ⟨h1, h2, h3⟩ => ⟨h1, h2.congr (by omega) (fun x hx => ⟨by have : x < 4 := hx; show x = 3 ∨ x = 2 ∨ x = 1 ∨ x = 0 ∨ False; omega, by
    have hx4 : x < 4 := hx
    have : x = 0 ∨ x = 1 ∨ x = 2 ∨ x = 3 := by omega
    rcases this with rfl | rfl | rfl | rfl <;> rfl⟩), h3⟩
  rw [← hb0]
  clear hY h hr hz hN
  go_enter Try.func85, Try.ntmps85
  have hmk := makeTies w
  go_upto_region 2 with (fail)
  rw [← HY.out, ← HB0.out]
  clear hb0 hmk
  go_upto_region 3 with (go_at_call 138; refine (HT1.out _ HM0.out).mono ?_; rintro e9 w1 ⟨rfl, hM1, hg1⟩)
  have HM1 : Hid (MapT w1 b 2 (fun z => z = 1 ∨ z = 0 ∨ False) (tieF tie0 0 1)) := hM1
  have HB1 : Hid (Below w.heap.size w w1) := below_map HBY.out hbs.1 hg1
  clear hM1 hg1
  go_upto_region 4 with (go_at_call 138; refine (HT2.out _ HM1.out).mono ?_; rintro e9 w2 ⟨rfl, hM2, hg2⟩)
  have HM2 : Hid (MapT w2 b 4 (Dom 0) tie0) := hM2
  have HB2 : Hid (Below w.heap.size w w2) := below_map HB1.out hbs.1 hg2
  clear hM2 hg2 HT1 HT2 HM0 HBY HM1 HB1 HY
  go_wp2
  go_loopw [3, 18] (fun v3 v18 wr => ∃ i s : Nat, i ≤ n ∧ s ≤ 16 ∧ v18 = .int .i64 (i : Nat) ∧ v3 = .int .i64 (s : Nat) ∧ Hid (szTo l i = s) ∧ Hid (MapT wr b (8 * s + 4) (Dom s) (twL l i)) ∧ Hid (Below w.heap.size w wr)) (fun _ v18 _ => n - (intOf v18).toNat)
  case atStart => exact ⟨0, 0, Nat.zero_le _, Nat.zero_le _, rfl, rfl, rfl, HM2.out, HB2.out⟩
  case round =>
    clear HM2 HB2
    rename World => W1
    obtain ⟨i, s, hin, hs16, rfl, rfl, hsz, hM, hb⟩ := hrel
    by_cases hil : i < n
    · obtain ⟨ba, off, ea, hbw, hc⟩ := HR.out.intAt i (by rw [HN.out]; exact hil)
      have e0 := bcell hb.out hbw hc
      have hsW := hb.out.size
      have hbW : ba < W1.heap.size := by omega
      have hrg := HRG.out i (by rw [HN.out]; exact hil)
      have hs2 := HSM.out (i + 1) (by rw [HN.out]; exact hil)
      have HS1 : Hid (szTo l (i + 1) = s + (l.getD i 0).natAbs) := (by show szTo l i + _ = _; rw [hsz.out] : szTo l (i + 1) = s + (l.getD i 0).natAbs)
      rw [HS1.out] at hs2
      have HTW : Hid (∀ z, (l.getD i 0).natAbs = z → twL l (i + 1) = twR (twL l i) s (decide (i % 2 = 0)) (decide (0 < l.getD i 0)) z) := fun z hz => by show twR (twL l i) (szTo l i) _ _ _ = _; rw [hsz.out, hz]
      have HBD : Hid (Bd (twL l i) s) := (by have := twL_bd l i; rw [hsz.out] at this; exact this : Bd (twL l i) s)
      obtain ⟨x, hx⟩ : ∃ x, l.getD i 0 = x := ⟨_, rfl⟩
      rw [hx] at e0 hrg hs2 HS1 HTW
      obtain ⟨z, hzz⟩ : ∃ z, x.natAbs = z := ⟨_, rfl⟩
      have HZ : Hid (x.natAbs = z) := hzz
      have HTZ : Hid (twL l (i + 1) = twR (twL l i) s (decide (i % 2 = 0)) (decide (0 < x)) z) := HTW.out z hzz
      rw [hzz] at hs2 HS1
      have HSZ : Hid (∀ W, Calls Try.prog 137 #[.int .i64 x] W fun e w' => e = .returned (.int .i64 (z : Nat)) ∧ w' = W) := fun W => by rw [← hzz]; exact size_any x W (by omega) (by omega)
      subst ea
      clear hx hzz hc HTW
      generalize twL l i = T at hM HTZ HBD
      have HBJ : Hid (∀ r u j, Bd (twR T s r u j) (s + j)) := fun r u j => twR_bd HBD.out r u j
      go_upto_region 8 with (go_at_call 137; refine (HSZ.out _).mono ?_; rintro e9 w9 ⟨rfl, rfl⟩)
      clear e0
      go_loopw [3, 25] (fun v3 v25 wr => ∃ j t : Nat, j ≤ z ∧ t ≤ s + j ∧ s + j ≤ t ∧ v25 = .int .i64 (j : Nat) ∧ v3 = .int .i64 (t : Nat) ∧ Hid (MapT wr b (8 * t + 4) (Dom t) (twR T s (decide (i % 2 = 0)) (decide (0 < x)) j)) ∧ Hid (Below w.heap.size w wr)) (fun _ v25 _ => z - (intOf v25).toNat)
      case atStart => exact ⟨0, s, Nat.zero_le _, by omega, by omega, rfl, rfl, hM.out, hb.out⟩
      case round =>
        clear hM hb hsW hbW
        rename World => W2
        obtain ⟨j, t, hjz, ht1, ht2, rfl, rfl, hM, hb⟩ := hrel
        by_cases hjl : j < z
        · have HTS : Hid (twR T s (decide (i % 2 = 0)) (decide (0 < x)) (j + 1) = stepT (twR T s (decide (i % 2 = 0)) (decide (0 < x)) j) t (decide (i % 2 = 0)) (decide (0 < x))) := (by show stepT _ (s + j) _ _ = _; rw [show s + j = t by omega] : twR T s (decide (i % 2 = 0)) (decide (0 < x)) (j + 1) = stepT (twR T s (decide (i % 2 = 0)) (decide (0 < x)) j) t (decide (i % 2 = 0)) (decide (0 < x)))
          have hbj := HBJ.out (decide (i % 2 = 0)) (decide (0 < x)) j
          rw [show s + j = t by omega] at hbj
          have er : (i : Int).tmod 2 = ((i % 2 : Nat) : Int) := rfl
          generalize twR T s (decide (i % 2 = 0)) (decide (0 < x)) j = U at hM HTS hbj
          have ht16 : t < 16 := by omega
          by_cases hx0 : 0 < x
          · by_cases hi0 : i % 2 = 0
            · have hdx : decide (0 < x) = true := by simp; omega
              have hdi : decide (i % 2 = 0) = true := by simp; omega
              have HTS2 : Hid (twR T s (decide (i % 2 = 0)) (decide (0 < x)) (j + 1) = stepT U t true true) := (by have h2 := HTS.out; rw [hdx, hdi] at h2 ⊢; exact h2 : twR T s (decide (i % 2 = 0)) (decide (0 < x)) (j + 1) = stepT U t true true)
              obtain ⟨r, hrr⟩ : ∃ r, i % 2 = r := ⟨_, rfl⟩
              have hr2 : r < 2 := by omega
              rw [hrr] at er
              obtain rfl : r = 0 := by omega
              obtain ⟨e1, i1, o1, i2, o2, rfl, rfl, rfl, rfl, rfl, S1, T1, hL1, hL2⟩ := step_calls b (8 * t + 4) t U true true hbj ht16 (by omega)
              have HL1 : Hid (∀ W, MapT W b (8 * t + 4) (Dom t) U → Calls Try.prog 140 #[.map (some b), .int .i64 1, .agg #[.int .i64 (t : Nat), .int .i64 0], .agg #[.int .i64 (t : Nat), .int .i64 3]] W fun r w' => r = .returned (.tuple #[]) ∧ MapT w' b (8 * t + 4 + 4) S1 T1 ∧ W.grownBy w' (some b)) := fun W hW => by
                have := hL1 W hW
                rw [spV_cor, spV_cor] at this
                exact this
              have HL2 : Hid (∀ W, MapT W b (8 * t + 4 + 4) S1 T1 → Calls Try.prog 140 #[.map (some b), .int .i64 3, .agg #[.int .i64 (t : Nat), .int .i64 1], .agg #[.int .i64 (t : Nat), .int .i64 2]] W fun r w' => r = .returned (.tuple #[]) ∧ MapT w' b (8 * t + 4 + 8) (Dom (t + 1)) (stepT U t true true) ∧ W.grownBy w' (some b)) := fun W hW => by
                have := hL2 W hW
                rw [spV_cor, spV_cor] at this
                exact this
              have HCR : Hid (∀ W, Calls Try.prog 139 #[.int .i64 (t : Nat), .bool true] W fun r w' => r = .returned (.agg #[.int .i64 (t : Nat), .int .i64 0, .int .i64 (t : Nat), .int .i64 3, .int .i64 (t : Nat), .int .i64 1, .int .i64 (t : Nat), .int .i64 2]) ∧ Below W.heap.size W w') := fun W => corners_up t W
              clear hL1 hL2 hrr hbj hdi
              go_upto_region 11 with (go_at_call 139; refine (HCR.out _).mono ?_; rintro e9 w3 ⟨rfl, hb3⟩)
              obtain ⟨Y, hY⟩ : ∃ Y, Y = w3.alloc (.cells #[.int .i64 (t : Nat), .int .i64 0, .int .i64 (t : Nat), .int .i64 3, .int .i64 (t : Nat), .int .i64 1, .int .i64 (t : Nat), .int .i64 2] 182) := ⟨_, rfl⟩
              have hBY : Below W2.heap.size W2 Y := by rw [hY]; exact hb3.alloc hb3.size _
              have HBY : Hid (Below w.heap.size w Y) := hb.out.trans (hBY.mono hb.out.size)
              have HMY : Hid (MapT Y b (8 * t + 4) (Dom t) U) := hM.out.kept (row := none) ⟨hBY.os, hBY.tape, hBY.output, hBY.size, fun k hk _ => hBY.block k hk⟩ (by simp)
              have hblt := hM.out.lt
              have hb3s := hb3.size
              have HKB : Hid (∀ W, Y.grownBy W (some b) → W.heap[w3.heap.size]? = some (.cells #[.int .i64 (t : Nat), .int .i64 0, .int .i64 (t : Nat), .int .i64 3, .int .i64 (t : Nat), .int .i64 1, .int .i64 (t : Nat), .int .i64 2] 182 (0, 0))) := fun W hW => (hW.block _ (by rw [hY]; simp) (fun e => by have := Option.some.inj e; omega)).trans (by rw [hY]; exact box_at _ _)
              rw [← hY]
              have hb5 := HKB.out Y (World.grownBy.refl _ _)
              have k0 : Y.cell? ⟨w3.heap.size, 0, none⟩ = some (.int .i64 (t : Nat)) := block_cell hb5 rfl
              have k1 : Y.cell? ⟨w3.heap.size, 1, none⟩ = some (.int .i64 0) := block_cell hb5 rfl
              have k2 : Y.cell? ⟨w3.heap.size, 2, none⟩ = some (.int .i64 (t : Nat)) := block_cell hb5 rfl
              have k3 : Y.cell? ⟨w3.heap.size, 3, none⟩ = some (.int .i64 3) := block_cell hb5 rfl
              have k4 : Y.cell? ⟨w3.heap.size, 4, none⟩ = some (.int .i64 (t : Nat)) := block_cell hb5 rfl
              have k5 : Y.cell? ⟨w3.heap.size, 5, none⟩ = some (.int .i64 1) := block_cell hb5 rfl
              have k6 : Y.cell? ⟨w3.heap.size, 6, none⟩ = some (.int .i64 (t : Nat)) := block_cell hb5 rfl
              have k7 : Y.cell? ⟨w3.heap.size, 7, none⟩ = some (.int .i64 2) := block_cell hb5 rfl
              have hlY : w3.heap.size < Y.heap.size := (Array.getElem?_eq_some_iff.1 hb5).1
              clear hY hBY hb3 hb5 hb3s
              go_upto_region 12 with (go_at_call 140; refine (HL1.out _ HMY.out).mono ?_; rintro e9 w4 ⟨rfl, hM4, hg4⟩)
              have HM4 : Hid (MapT w4 b (8 * t + 4 + 4) S1 T1) := hM4
              have HG4 : Hid (Y.grownBy w4 (some b)) := hg4
              have hb5 := HKB.out w4 hg4
              clear k0 k1 k2 k3 k4 k5 k6 k7 hM4 hg4 hlY
              have k0 : w4.cell? ⟨w3.heap.size, 0, none⟩ = some (.int .i64 (t : Nat)) := block_cell hb5 rfl
              have k1 : w4.cell? ⟨w3.heap.size, 1, none⟩ = some (.int .i64 0) := block_cell hb5 rfl
              have k2 : w4.cell? ⟨w3.heap.size, 2, none⟩ = some (.int .i64 (t : Nat)) := block_cell hb5 rfl
              have k3 : w4.cell? ⟨w3.heap.size, 3, none⟩ = some (.int .i64 3) := block_cell hb5 rfl
              have k4 : w4.cell? ⟨w3.heap.size, 4, none⟩ = some (.int .i64 (t : Nat)) := block_cell hb5 rfl
              have k5 : w4.cell? ⟨w3.heap.size, 5, none⟩ = some (.int .i64 1) := block_cell hb5 rfl
              have k6 : w4.cell? ⟨w3.heap.size, 6, none⟩ = some (.int .i64 (t : Nat)) := block_cell hb5 rfl
              have k7 : w4.cell? ⟨w3.heap.size, 7, none⟩ = some (.int .i64 2) := block_cell hb5 rfl
              have hlY : w3.heap.size < w4.heap.size := (Array.getElem?_eq_some_iff.1 hb5).1
              clear hb5
              go_wp2_with (go_at_call 140; refine (HL2.out _ HM4.out).mono ?_; rintro e9 w5 ⟨rfl, hM5, hg5⟩; refine Hid.out ?_)
              refine Lib.hid ?_
              have HFN : Hid (MapT w5 b (8 * (t + 1) + 4) (Dom (t + 1)) (twR T s (decide (i % 2 = 0)) (decide (0 < x)) (j + 1)) ∧ Below w.heap.size w w5) := ⟨by rw [HTS2.out]; exact hM5.congr (by omega) (fun x hx => ⟨hx, rfl⟩), below_map HBY.out hbs.1 (grown_two HG4.out hg5)⟩
              clear hM5 hg5 k0 k1 k2 k3 k4 k5 k6 k7
              go_wp2
              go_roundw
              case rel => exact ⟨j + 1, t + 1, by omega, by omega, by omega, by go_num, by go_num, HFN.out.1, HFN.out.2⟩
              case measure => simp only [intOf]; omega
            · have hdx : decide (0 < x) = true := by simp; omega
              have hdi : decide (i % 2 = 0) = false := by simp; omega
              have HTS2 : Hid (twR T s (decide (i % 2 = 0)) (decide (0 < x)) (j + 1) = stepT U t false true) := (by have h2 := HTS.out; rw [hdx, hdi] at h2 ⊢; exact h2 : twR T s (decide (i % 2 = 0)) (decide (0 < x)) (j + 1) = stepT U t false true)
              obtain ⟨r, hrr⟩ : ∃ r, i % 2 = r := ⟨_, rfl⟩
              have hr2 : r < 2 := by omega
              rw [hrr] at er
              have hrz : ((r : Int) == 0) = false := by simp; omega
              obtain ⟨e1, i1, o1, i2, o2, rfl, rfl, rfl, rfl, rfl, S1, T1, hL1, hL2⟩ := step_calls b (8 * t + 4) t U false true hbj ht16 (by omega)
              have HL1 : Hid (∀ W, MapT W b (8 * t + 4) (Dom t) U → Calls Try.prog 140 #[.map (some b), .int .i64 2, .agg #[.int .i64 (t : Nat), .int .i64 0], .agg #[.int .i64 (t : Nat), .int .i64 1]] W fun r w' => r = .returned (.tuple #[]) ∧ MapT w' b (8 * t + 4 + 4) S1 T1 ∧ W.grownBy w' (some b)) := fun W hW => by
                have := hL1 W hW
                rw [spV_cor, spV_cor] at this
                exact this
              have HL2 : Hid (∀ W, MapT W b (8 * t + 4 + 4) S1 T1 → Calls Try.prog 140 #[.map (some b), .int .i64 3, .agg #[.int .i64 (t : Nat), .int .i64 3], .agg #[.int .i64 (t : Nat), .int .i64 2]] W fun r w' => r = .returned (.tuple #[]) ∧ MapT w' b (8 * t + 4 + 8) (Dom (t + 1)) (stepT U t false true) ∧ W.grownBy w' (some b)) := fun W hW => by
                have := hL2 W hW
                rw [spV_cor, spV_cor] at this
                exact this
              have HCR : Hid (∀ W, Calls Try.prog 139 #[.int .i64 (t : Nat), .bool true] W fun r w' => r = .returned (.agg #[.int .i64 (t : Nat), .int .i64 0, .int .i64 (t : Nat), .int .i64 3, .int .i64 (t : Nat), .int .i64 1, .int .i64 (t : Nat), .int .i64 2]) ∧ Below W.heap.size W w') := fun W => corners_up t W
              clear hL1 hL2 hrr hbj hdi
              go_upto_region 13 with (go_at_call 139; refine (HCR.out _).mono ?_; rintro e9 w3 ⟨rfl, hb3⟩)
              obtain ⟨Y, hY⟩ : ∃ Y, Y = w3.alloc (.cells #[.int .i64 (t : Nat), .int .i64 0, .int .i64 (t : Nat), .int .i64 3, .int .i64 (t : Nat), .int .i64 1, .int .i64 (t : Nat), .int .i64 2] 182) := ⟨_, rfl⟩
              have hBY : Below W2.heap.size W2 Y := by rw [hY]; exact hb3.alloc hb3.size _
              have HBY : Hid (Below w.heap.size w Y) := hb.out.trans (hBY.mono hb.out.size)
              have HMY : Hid (MapT Y b (8 * t + 4) (Dom t) U) := hM.out.kept (row := none) ⟨hBY.os, hBY.tape, hBY.output, hBY.size, fun k hk _ => hBY.block k hk⟩ (by simp)
              have hblt := hM.out.lt
              have hb3s := hb3.size
              have HKB : Hid (∀ W, Y.grownBy W (some b) → W.heap[w3.heap.size]? = some (.cells #[.int .i64 (t : Nat), .int .i64 0, .int .i64 (t : Nat), .int .i64 3, .int .i64 (t : Nat), .int .i64 1, .int .i64 (t : Nat), .int .i64 2] 182 (0, 0))) := fun W hW => (hW.block _ (by rw [hY]; simp) (fun e => by have := Option.some.inj e; omega)).trans (by rw [hY]; exact box_at _ _)
              rw [← hY]
              have hb5 := HKB.out Y (World.grownBy.refl _ _)
              have k0 : Y.cell? ⟨w3.heap.size, 0, none⟩ = some (.int .i64 (t : Nat)) := block_cell hb5 rfl
              have k1 : Y.cell? ⟨w3.heap.size, 1, none⟩ = some (.int .i64 0) := block_cell hb5 rfl
              have k2 : Y.cell? ⟨w3.heap.size, 2, none⟩ = some (.int .i64 (t : Nat)) := block_cell hb5 rfl
              have k3 : Y.cell? ⟨w3.heap.size, 3, none⟩ = some (.int .i64 3) := block_cell hb5 rfl
              have k4 : Y.cell? ⟨w3.heap.size, 4, none⟩ = some (.int .i64 (t : Nat)) := block_cell hb5 rfl
              have k5 : Y.cell? ⟨w3.heap.size, 5, none⟩ = some (.int .i64 1) := block_cell hb5 rfl
              have k6 : Y.cell? ⟨w3.heap.size, 6, none⟩ = some (.int .i64 (t : Nat)) := block_cell hb5 rfl
              have k7 : Y.cell? ⟨w3.heap.size, 7, none⟩ = some (.int .i64 2) := block_cell hb5 rfl
              have hlY : w3.heap.size < Y.heap.size := (Array.getElem?_eq_some_iff.1 hb5).1
              clear hY hBY hb3 hb5 hb3s
              go_upto_region 14 with (go_at_call 140; refine (HL1.out _ HMY.out).mono ?_; rintro e9 w4 ⟨rfl, hM4, hg4⟩)
              have HM4 : Hid (MapT w4 b (8 * t + 4 + 4) S1 T1) := hM4
              have HG4 : Hid (Y.grownBy w4 (some b)) := hg4
              have hb5 := HKB.out w4 hg4
              clear k0 k1 k2 k3 k4 k5 k6 k7 hM4 hg4 hlY
              have k0 : w4.cell? ⟨w3.heap.size, 0, none⟩ = some (.int .i64 (t : Nat)) := block_cell hb5 rfl
              have k1 : w4.cell? ⟨w3.heap.size, 1, none⟩ = some (.int .i64 0) := block_cell hb5 rfl
              have k2 : w4.cell? ⟨w3.heap.size, 2, none⟩ = some (.int .i64 (t : Nat)) := block_cell hb5 rfl
              have k3 : w4.cell? ⟨w3.heap.size, 3, none⟩ = some (.int .i64 3) := block_cell hb5 rfl
              have k4 : w4.cell? ⟨w3.heap.size, 4, none⟩ = some (.int .i64 (t : Nat)) := block_cell hb5 rfl
              have k5 : w4.cell? ⟨w3.heap.size, 5, none⟩ = some (.int .i64 1) := block_cell hb5 rfl
              have k6 : w4.cell? ⟨w3.heap.size, 6, none⟩ = some (.int .i64 (t : Nat)) := block_cell hb5 rfl
              have k7 : w4.cell? ⟨w3.heap.size, 7, none⟩ = some (.int .i64 2) := block_cell hb5 rfl
              have hlY : w3.heap.size < w4.heap.size := (Array.getElem?_eq_some_iff.1 hb5).1
              clear hb5
              go_wp2_with (go_at_call 140; refine (HL2.out _ HM4.out).mono ?_; rintro e9 w5 ⟨rfl, hM5, hg5⟩; refine Hid.out ?_)
              refine Lib.hid ?_
              have HFN : Hid (MapT w5 b (8 * (t + 1) + 4) (Dom (t + 1)) (twR T s (decide (i % 2 = 0)) (decide (0 < x)) (j + 1)) ∧ Below w.heap.size w w5) := ⟨by rw [HTS2.out]; exact hM5.congr (by omega) (fun x hx => ⟨hx, rfl⟩), below_map HBY.out hbs.1 (grown_two HG4.out hg5)⟩
              clear hM5 hg5 k0 k1 k2 k3 k4 k5 k6 k7
              go_wp2
              go_roundw
              case rel => exact ⟨j + 1, t + 1, by omega, by omega, by omega, by go_num, by go_num, HFN.out.1, HFN.out.2⟩
              case measure => simp only [intOf]; omega
          · by_cases hi0 : i % 2 = 0
            · have hdx : decide (0 < x) = false := by simp; omega
              have hdi : decide (i % 2 = 0) = true := by simp; omega
              have HTS2 : Hid (twR T s (decide (i % 2 = 0)) (decide (0 < x)) (j + 1) = stepT U t true false) := (by have h2 := HTS.out; rw [hdx, hdi] at h2 ⊢; exact h2 : twR T s (decide (i % 2 = 0)) (decide (0 < x)) (j + 1) = stepT U t true false)
              obtain ⟨r, hrr⟩ : ∃ r, i % 2 = r := ⟨_, rfl⟩
              have hr2 : r < 2 := by omega
              rw [hrr] at er
              obtain rfl : r = 0 := by omega
              obtain ⟨e1, i1, o1, i2, o2, rfl, rfl, rfl, rfl, rfl, S1, T1, hL1, hL2⟩ := step_calls b (8 * t + 4) t U true false hbj ht16 (by omega)
              have HL1 : Hid (∀ W, MapT W b (8 * t + 4) (Dom t) U → Calls Try.prog 140 #[.map (some b), .int .i64 1, .agg #[.int .i64 (t : Nat), .int .i64 3], .agg #[.int .i64 (t : Nat), .int .i64 2]] W fun r w' => r = .returned (.tuple #[]) ∧ MapT w' b (8 * t + 4 + 4) S1 T1 ∧ W.grownBy w' (some b)) := fun W hW => by
                have := hL1 W hW
                rw [spV_cor, spV_cor] at this
                exact this
              have HL2 : Hid (∀ W, MapT W b (8 * t + 4 + 4) S1 T1 → Calls Try.prog 140 #[.map (some b), .int .i64 3, .agg #[.int .i64 (t : Nat), .int .i64 0], .agg #[.int .i64 (t : Nat), .int .i64 1]] W fun r w' => r = .returned (.tuple #[]) ∧ MapT w' b (8 * t + 4 + 8) (Dom (t + 1)) (stepT U t true false) ∧ W.grownBy w' (some b)) := fun W hW => by
                have := hL2 W hW
                rw [spV_cor, spV_cor] at this
                exact this
              have HCR : Hid (∀ W, Calls Try.prog 139 #[.int .i64 (t : Nat), .bool false] W fun r w' => r = .returned (.agg #[.int .i64 (t : Nat), .int .i64 3, .int .i64 (t : Nat), .int .i64 2, .int .i64 (t : Nat), .int .i64 0, .int .i64 (t : Nat), .int .i64 1]) ∧ Below W.heap.size W w') := fun W => corners_down t W
              clear hL1 hL2 hrr hbj hdi
              go_upto_region 11 with (go_at_call 139; refine (HCR.out _).mono ?_; rintro e9 w3 ⟨rfl, hb3⟩)
              obtain ⟨Y, hY⟩ : ∃ Y, Y = w3.alloc (.cells #[.int .i64 (t : Nat), .int .i64 3, .int .i64 (t : Nat), .int .i64 2, .int .i64 (t : Nat), .int .i64 0, .int .i64 (t : Nat), .int .i64 1] 182) := ⟨_, rfl⟩
              have hBY : Below W2.heap.size W2 Y := by rw [hY]; exact hb3.alloc hb3.size _
              have HBY : Hid (Below w.heap.size w Y) := hb.out.trans (hBY.mono hb.out.size)
              have HMY : Hid (MapT Y b (8 * t + 4) (Dom t) U) := hM.out.kept (row := none) ⟨hBY.os, hBY.tape, hBY.output, hBY.size, fun k hk _ => hBY.block k hk⟩ (by simp)
              have hblt := hM.out.lt
              have hb3s := hb3.size
              have HKB : Hid (∀ W, Y.grownBy W (some b) → W.heap[w3.heap.size]? = some (.cells #[.int .i64 (t : Nat), .int .i64 3, .int .i64 (t : Nat), .int .i64 2, .int .i64 (t : Nat), .int .i64 0, .int .i64 (t : Nat), .int .i64 1] 182 (0, 0))) := fun W hW => (hW.block _ (by rw [hY]; simp) (fun e => by have := Option.some.inj e; omega)).trans (by rw [hY]; exact box_at _ _)
              rw [← hY]
              have hb5 := HKB.out Y (World.grownBy.refl _ _)
              have k0 : Y.cell? ⟨w3.heap.size, 0, none⟩ = some (.int .i64 (t : Nat)) := block_cell hb5 rfl
              have k1 : Y.cell? ⟨w3.heap.size, 1, none⟩ = some (.int .i64 3) := block_cell hb5 rfl
              have k2 : Y.cell? ⟨w3.heap.size, 2, none⟩ = some (.int .i64 (t : Nat)) := block_cell hb5 rfl
              have k3 : Y.cell? ⟨w3.heap.size, 3, none⟩ = some (.int .i64 2) := block_cell hb5 rfl
              have k4 : Y.cell? ⟨w3.heap.size, 4, none⟩ = some (.int .i64 (t : Nat)) := block_cell hb5 rfl
              have k5 : Y.cell? ⟨w3.heap.size, 5, none⟩ = some (.int .i64 0) := block_cell hb5 rfl
              have k6 : Y.cell? ⟨w3.heap.size, 6, none⟩ = some (.int .i64 (t : Nat)) := block_cell hb5 rfl
              have k7 : Y.cell? ⟨w3.heap.size, 7, none⟩ = some (.int .i64 1) := block_cell hb5 rfl
              have hlY : w3.heap.size < Y.heap.size := (Array.getElem?_eq_some_iff.1 hb5).1
              clear hY hBY hb3 hb5 hb3s
              go_upto_region 12 with (go_at_call 140; refine (HL1.out _ HMY.out).mono ?_; rintro e9 w4 ⟨rfl, hM4, hg4⟩)
              have HM4 : Hid (MapT w4 b (8 * t + 4 + 4) S1 T1) := hM4
              have HG4 : Hid (Y.grownBy w4 (some b)) := hg4
              have hb5 := HKB.out w4 hg4
              clear k0 k1 k2 k3 k4 k5 k6 k7 hM4 hg4 hlY
              have k0 : w4.cell? ⟨w3.heap.size, 0, none⟩ = some (.int .i64 (t : Nat)) := block_cell hb5 rfl
              have k1 : w4.cell? ⟨w3.heap.size, 1, none⟩ = some (.int .i64 3) := block_cell hb5 rfl
              have k2 : w4.cell? ⟨w3.heap.size, 2, none⟩ = some (.int .i64 (t : Nat)) := block_cell hb5 rfl
              have k3 : w4.cell? ⟨w3.heap.size, 3, none⟩ = some (.int .i64 2) := block_cell hb5 rfl
              have k4 : w4.cell? ⟨w3.heap.size, 4, none⟩ = some (.int .i64 (t : Nat)) := block_cell hb5 rfl
              have k5 : w4.cell? ⟨w3.heap.size, 5, none⟩ = some (.int .i64 0) := block_cell hb5 rfl
              have k6 : w4.cell? ⟨w3.heap.size, 6, none⟩ = some (.int .i64 (t : Nat)) := block_cell hb5 rfl
              have k7 : w4.cell? ⟨w3.heap.size, 7, none⟩ = some (.int .i64 1) := block_cell hb5 rfl
              have hlY : w3.heap.size < w4.heap.size := (Array.getElem?_eq_some_iff.1 hb5).1
              clear hb5
              go_wp2_with (go_at_call 140; refine (HL2.out _ HM4.out).mono ?_; rintro e9 w5 ⟨rfl, hM5, hg5⟩; refine Hid.out ?_)
              refine Lib.hid ?_
              have HFN : Hid (MapT w5 b (8 * (t + 1) + 4) (Dom (t + 1)) (twR T s (decide (i % 2 = 0)) (decide (0 < x)) (j + 1)) ∧ Below w.heap.size w w5) := ⟨by rw [HTS2.out]; exact hM5.congr (by omega) (fun x hx => ⟨hx, rfl⟩), below_map HBY.out hbs.1 (grown_two HG4.out hg5)⟩
              clear hM5 hg5 k0 k1 k2 k3 k4 k5 k6 k7
              go_wp2
              go_roundw
              case rel => exact ⟨j + 1, t + 1, by omega, by omega, by omega, by go_num, by go_num, HFN.out.1, HFN.out.2⟩
              case measure => simp only [intOf]; omega
            · have hdx : decide (0 < x) = false := by simp; omega
              have hdi : decide (i % 2 = 0) = false := by simp; omega
              have HTS2 : Hid (twR T s (decide (i % 2 = 0)) (decide (0 < x)) (j + 1) = stepT U t false false) := (by have h2 := HTS.out; rw [hdx, hdi] at h2 ⊢; exact h2 : twR T s (decide (i % 2 = 0)) (decide (0 < x)) (j + 1) = stepT U t false false)
              obtain ⟨r, hrr⟩ : ∃ r, i % 2 = r := ⟨_, rfl⟩
              have hr2 : r < 2 := by omega
              rw [hrr] at er
              have hrz : ((r : Int) == 0) = false := by simp; omega
              obtain ⟨e1, i1, o1, i2, o2, rfl, rfl, rfl, rfl, rfl, S1, T1, hL1, hL2⟩ := step_calls b (8 * t + 4) t U false false hbj ht16 (by omega)
              have HL1 : Hid (∀ W, MapT W b (8 * t + 4) (Dom t) U → Calls Try.prog 140 #[.map (some b), .int .i64 2, .agg #[.int .i64 (t : Nat), .int .i64 3], .agg #[.int .i64 (t : Nat), .int .i64 0]] W fun r w' => r = .returned (.tuple #[]) ∧ MapT w' b (8 * t + 4 + 4) S1 T1 ∧ W.grownBy w' (some b)) := fun W hW => by
                have := hL1 W hW
                rw [spV_cor, spV_cor] at this
                exact this
              have HL2 : Hid (∀ W, MapT W b (8 * t + 4 + 4) S1 T1 → Calls Try.prog 140 #[.map (some b), .int .i64 3, .agg #[.int .i64 (t : Nat), .int .i64 2], .agg #[.int .i64 (t : Nat), .int .i64 1]] W fun r w' => r = .returned (.tuple #[]) ∧ MapT w' b (8 * t + 4 + 8) (Dom (t + 1)) (stepT U t false false) ∧ W.grownBy w' (some b)) := fun W hW => by
                have := hL2 W hW
                rw [spV_cor, spV_cor] at this
                exact this
              have HCR : Hid (∀ W, Calls Try.prog 139 #[.int .i64 (t : Nat), .bool false] W fun r w' => r = .returned (.agg #[.int .i64 (t : Nat), .int .i64 3, .int .i64 (t : Nat), .int .i64 2, .int .i64 (t : Nat), .int .i64 0, .int .i64 (t : Nat), .int .i64 1]) ∧ Below W.heap.size W w') := fun W => corners_down t W
              clear hL1 hL2 hrr hbj hdi
              go_upto_region 13 with (go_at_call 139; refine (HCR.out _).mono ?_; rintro e9 w3 ⟨rfl, hb3⟩)
              obtain ⟨Y, hY⟩ : ∃ Y, Y = w3.alloc (.cells #[.int .i64 (t : Nat), .int .i64 3, .int .i64 (t : Nat), .int .i64 2, .int .i64 (t : Nat), .int .i64 0, .int .i64 (t : Nat), .int .i64 1] 182) := ⟨_, rfl⟩
              have hBY : Below W2.heap.size W2 Y := by rw [hY]; exact hb3.alloc hb3.size _
              have HBY : Hid (Below w.heap.size w Y) := hb.out.trans (hBY.mono hb.out.size)
              have HMY : Hid (MapT Y b (8 * t + 4) (Dom t) U) := hM.out.kept (row := none) ⟨hBY.os, hBY.tape, hBY.output, hBY.size, fun k hk _ => hBY.block k hk⟩ (by simp)
              have hblt := hM.out.lt
              have hb3s := hb3.size
              have HKB : Hid (∀ W, Y.grownBy W (some b) → W.heap[w3.heap.size]? = some (.cells #[.int .i64 (t : Nat), .int .i64 3, .int .i64 (t : Nat), .int .i64 2, .int .i64 (t : Nat), .int .i64 0, .int .i64 (t : Nat), .int .i64 1] 182 (0, 0))) := fun W hW => (hW.block _ (by rw [hY]; simp) (fun e => by have := Option.some.inj e; omega)).trans (by rw [hY]; exact box_at _ _)
              rw [← hY]
              have hb5 := HKB.out Y (World.grownBy.refl _ _)
              have k0 : Y.cell? ⟨w3.heap.size, 0, none⟩ = some (.int .i64 (t : Nat)) := block_cell hb5 rfl
              have k1 : Y.cell? ⟨w3.heap.size, 1, none⟩ = some (.int .i64 3) := block_cell hb5 rfl
              have k2 : Y.cell? ⟨w3.heap.size, 2, none⟩ = some (.int .i64 (t : Nat)) := block_cell hb5 rfl
              have k3 : Y.cell? ⟨w3.heap.size, 3, none⟩ = some (.int .i64 2) := block_cell hb5 rfl
              have k4 : Y.cell? ⟨w3.heap.size, 4, none⟩ = some (.int .i64 (t : Nat)) := block_cell hb5 rfl
              have k5 : Y.cell? ⟨w3.heap.size, 5, none⟩ = some (.int .i64 0) := block_cell hb5 rfl
              have k6 : Y.cell? ⟨w3.heap.size, 6, none⟩ = some (.int .i64 (t : Nat)) := block_cell hb5 rfl
              have k7 : Y.cell? ⟨w3.heap.size, 7, none⟩ = some (.int .i64 1) := block_cell hb5 rfl
              have hlY : w3.heap.size < Y.heap.size := (Array.getElem?_eq_some_iff.1 hb5).1
              clear hY hBY hb3 hb5 hb3s
              go_upto_region 14 with (go_at_call 140; refine (HL1.out _ HMY.out).mono ?_; rintro e9 w4 ⟨rfl, hM4, hg4⟩)
              have HM4 : Hid (MapT w4 b (8 * t + 4 + 4) S1 T1) := hM4
              have HG4 : Hid (Y.grownBy w4 (some b)) := hg4
              have hb5 := HKB.out w4 hg4
              clear k0 k1 k2 k3 k4 k5 k6 k7 hM4 hg4 hlY
              have k0 : w4.cell? ⟨w3.heap.size, 0, none⟩ = some (.int .i64 (t : Nat)) := block_cell hb5 rfl
              have k1 : w4.cell? ⟨w3.heap.size, 1, none⟩ = some (.int .i64 3) := block_cell hb5 rfl
              have k2 : w4.cell? ⟨w3.heap.size, 2, none⟩ = some (.int .i64 (t : Nat)) := block_cell hb5 rfl
              have k3 : w4.cell? ⟨w3.heap.size, 3, none⟩ = some (.int .i64 2) := block_cell hb5 rfl
              have k4 : w4.cell? ⟨w3.heap.size, 4, none⟩ = some (.int .i64 (t : Nat)) := block_cell hb5 rfl
              have k5 : w4.cell? ⟨w3.heap.size, 5, none⟩ = some (.int .i64 0) := block_cell hb5 rfl
              have k6 : w4.cell? ⟨w3.heap.size, 6, none⟩ = some (.int .i64 (t : Nat)) := block_cell hb5 rfl
              have k7 : w4.cell? ⟨w3.heap.size, 7, none⟩ = some (.int .i64 1) := block_cell hb5 rfl
              have hlY : w3.heap.size < w4.heap.size := (Array.getElem?_eq_some_iff.1 hb5).1
              clear hb5
              go_wp2_with (go_at_call 140; refine (HL2.out _ HM4.out).mono ?_; rintro e9 w5 ⟨rfl, hM5, hg5⟩; refine Hid.out ?_)
              refine Lib.hid ?_
              have HFN : Hid (MapT w5 b (8 * (t + 1) + 4) (Dom (t + 1)) (twR T s (decide (i % 2 = 0)) (decide (0 < x)) (j + 1)) ∧ Below w.heap.size w w5) := ⟨by rw [HTS2.out]; exact hM5.congr (by omega) (fun x hx => ⟨hx, rfl⟩), below_map HBY.out hbs.1 (grown_two HG4.out hg5)⟩
              clear hM5 hg5 k0 k1 k2 k3 k4 k5 k6 k7
              go_wp2
              go_roundw
              case rel => exact ⟨j + 1, t + 1, by omega, by omega, by omega, by go_num, by go_num, HFN.out.1, HFN.out.2⟩
              case measure => simp only [intOf]; omega
        · obtain rfl : j = z := by omega
          have HEQ : Hid (szTo l (i + 1) = t) := (by rw [HS1.out]; omega : szTo l (i + 1) = t)
          go_wp2
          go_roundw
          case rel => exact ⟨i + 1, t, by omega, by omega, by go_num, rfl, HEQ.out, by rw [HTZ.out]; exact hM.out, hb.out⟩
          case measure => simp only [intOf]; omega
    · obtain rfl : i = n := by omega
      have HFN : Hid (szTo l i = s ∧ MapT W1 b 400 (Dom (szTo l i)) (twL l i) ∧ Below w.heap.size w W1) := ⟨hsz.out, by rw [hsz.out]; exact hM.out.congr (by omega) (fun x hx => ⟨hx, rfl⟩), hb.out⟩
      go_wp2
      go_ret2
      exact ⟨by rw [HFN.out.1]; rfl, HFN.out.2.1, by rw [HB0.out]; exact HFN.out.2.2⟩
end Go.Proofs.Ytphhlflcghffbaa
