/- Burau's tables: the walk of closure.Burau. -/
import Derived.Test.YtfceigcjonlhkaaBT6
import Derived.Test.YtfceigcjonlhkaaBT8
namespace Go.Proofs.Ytfceigcjonlhkaa.Poly
open Go.RowKit Go.Maps

theorem letters_okB {n : Nat} {l : List Int} (h : wordN (n : Int) l = 0) : ∀ j, j < l.length → 1 ≤ (l.getD j 0).natAbs ∧ (l.getD j 0).natAbs < n := fun j hj => by
  obtain ⟨-, -, h3, -⟩ := wordN_ok h
  have := h3 j hj
  omega
set_option maxHeartbeats 4000000 in
set_option maxRecDepth 100000 in
theorem burau_no (a : Option Addr) (c : Nat) (l : List Int) (n : Int) (w : World) (hl : l.length * 8 ≤ 140737488355328) (hn : wordN n l ≠ 0) (h : RdAt w w.heap.size 1 (.slice a l.length c) l.length (intsV l)) :
    Calls Try.prog 38 #[.int .i64 n, .slice a l.length c] w fun e w' => e = .returned (.tuple #[.slice none 0 0, .int .i64 (wordN n l)]) ∧ Below w.heap.size w w' := by
  have HF : Hid (Calls Try.prog 76 #[.int .i64 n, .slice a l.length c] w fun e w' => e = .returned (.tuple #[.slice none 0 0, .int .i64 (wordN n l)]) ∧ Below w.heap.size w w') := ends_no a c l n w hl hn h
  generalize wordN n l = r at hn HF ⊢
  have hr0 : (r != 0) = true := bne_iff_ne.2 hn
  generalize l.length = m at HF ⊢
  clear h hl
  go_enter Try.func38, Try.ntmps38
  go_wp2_with (go_at_call 76; refine HF.out.mono ?_; rintro e9 w2 ⟨rfl, hb2⟩; refine Hid.out ?_)
  refine Lib.hid ?_
  have HB2 := hid_mkP hb2
  clear hb2
  go_wp2
  go_ret2
  exact ⟨rfl, HB2.out⟩

set_option maxHeartbeats 8000000 in
set_option maxRecDepth 100000 in
theorem burau_yes (a : Option Addr) (c n : Nat) (l : List Int) (w : World) (hn : wordN (n : Int) l = 0) (h : RdAt w w.heap.size 1 (.slice a l.length c) l.length (intsV l)) :
    Calls Try.prog 38 #[.int .i64 (n : Nat), .slice a l.length c] w fun e w' => ∃ (B q : Nat) (qs : Nat → Nat) (U : Nat → Nat → Value), e = .returned (.tuple #[.slice (some ⟨q, 0, none⟩) n n, .int .i64 0]) ∧ Td B q n qs n U (buT l l.length) w' ∧ Below w.heap.size w w' := by
  obtain ⟨n2, n6, -, hl20⟩ := wordN_ok hn
  have hn6 : n ≤ 6 := by omega
  have HF : Hid (Calls Try.prog 76 #[.int .i64 (n : Nat), .slice a l.length c] w fun e w' => ∃ a2 c2, e = .returned (.tuple #[.slice a2 n c2, .int .i64 0]) ∧ RdAt w' w'.heap.size 1 (.slice a2 n c2) n (intsV (endT (begT n l l.length) n)) ∧ Below w.heap.size w w') := ends_yes a c n l w (by omega) hn h
  have HLT : Hid (∀ j, j < l.length → 1 ≤ (l.getD j 0).natAbs ∧ (l.getD j 0).natAbs < n) := letters_okB hn
  have HRD := hid_mkP h
  generalize endT (begT n l l.length) n = T at HF
  obtain ⟨m, hm⟩ : ∃ m, l.length = m := ⟨_, rfl⟩
  have HM := hid_mkP hm
  rw [hm] at HF HLT hl20 ⊢
  clear h hn hm
  go_enter Try.func38, Try.ntmps38
  go_wp2_with (go_at_call 76; refine HF.out.mono ?_; rintro e9 w2 ⟨a2, c2, rfl, -, hb2⟩; refine Hid.out ?_)
  refine Lib.hid ?_
  have HB2 := hid_mkP hb2
  clear hb2
  go_wp2_with (go_at_call 79; refine (unit_any n l _ hn6).mono ?_; rintro e9 w3 ⟨g, gs, V, rfl, hT3, hb3⟩; refine Hid.out ?_)
  refine Lib.hid ?_
  have HT3 : Hid (Bu w2.heap.size g n (4 ^ 0) 0 gs n V (buT l 0) w3) := hT3
  have HB3 := hid_mkP hb3
  clear hT3 hb3
  go_wp2
  go_loopw [24] (fun v24 wr => ∃ (k : Nat) (U : Nat → Nat → Value), k ≤ m ∧ v24 = .int .i64 (k : Nat) ∧ Hid (Bu w2.heap.size g n (4 ^ k) k gs n U (buT l k) wr) ∧ Hid (Below w2.heap.size w2 wr)) (fun v24 _ => m - (intOf v24).toNat)
  case atStart => exact ⟨0, V, Nat.zero_le _, rfl, HT3.out, HB3.out⟩
  case round =>
    clear HT3 HB3
    rename World => W1
    obtain ⟨k, U, hkm, rfl, hT, hB⟩ := hrel
    by_cases hk : k < m
    · have hkI : (k : Int) < (m : Int) := by omega
      obtain ⟨b, off, ea, hlt, hc⟩ := (HRD.out.on (HB2.out.trans (hB.out.mono HB2.out.size))).intAt k (by rw [HM.out]; exact hk)
      have hx := HLT.out k hk
      have hp4 : 4 ^ k ≤ 100000000000000 := Nat.le_trans (Nat.pow_le_pow_right (by decide) (show k ≤ 19 by omega)) (by decide)
      have hp3 : 3 ^ k ≤ 1200000000 := Nat.le_trans (Nat.pow_le_pow_right (by decide) (show k ≤ 19 by omega)) (by decide)
      have HMU := hid_mkP (multiply_any w2.heap.size w2 g n (4 ^ k) k (3 ^ k) (l.getD k 0).natAbs ((l.getD k 0).natAbs - 1) gs U (buT l k) (l.getD k 0) W1 hn6 hx.2 (by omega) rfl hp4 (by omega) hp3 (fun r s _ _ y => (buT_ok l k r s).bd y) hT.out hB.out)
      have HNX : Hid ((fun r => buS (l.getD k 0) (buT l k r)) = buT l (k + 1) ∧ 4 * 4 ^ k = 4 ^ (k + 1)) := (⟨rfl, by rw [Nat.pow_succ, Nat.mul_comm]⟩ : (fun r => buS (l.getD k 0) (buT l k r)) = buT l (k + 1) ∧ 4 * 4 ^ k = 4 ^ (k + 1))
      rw [HNX.out.1, HNX.out.2] at HMU
      clear HNX
      generalize l.getD k 0 = x at hc HMU
      have lb : b < W1.heap.size := Nat.lt_of_lt_of_le hlt (Nat.le_trans HB2.out.size hB.out.size)
      subst ea
      clear hx hp4 hp3 hT hB
      go_wp2_with (go_at_call 80; refine HMU.out.mono ?_; rintro e9 w5 ⟨rfl, ⟨U5, hT5⟩, hb5⟩; refine Hid.out ?_)
      refine Lib.hid ?_
      have HT5 := hid_mkP hT5
      have HB5 := hid_mkP hb5
      clear hT5 hb5
      go_wp2
      go_roundw
      case rel => exact ⟨k + 1, U5, by omega, by go_num, HT5.out, HB5.out⟩
      case measure => simp only [intOf]; omega
    · obtain rfl : m = k := by omega
      have HTD := hid_mkP (told_any w2.heap.size g n (4 ^ m) m gs U (buT l m) W1 hn6 (by omega) hT.out)
      have HBW : Hid (Below w.heap.size w W1) := HB2.out.trans (hB.out.mono HB2.out.size)
      clear hT hB
      go_wp2_with (go_at_call 81; refine HTD.out.mono ?_; rintro e9 w5 ⟨q, qs, U5, rfl, hT5, hb5⟩; refine Hid.out ?_)
      refine Lib.hid ?_
      have HFN := hid_mkP hT5
      have HB5 : Hid (Below w.heap.size w w5) := HBW.out.trans (hb5.mono HBW.out.size)
      clear hT5 hb5
      go_wp2
      go_ret2
      exact ⟨_, q, qs, U5, rfl, HFN.out, HB5.out⟩
end Go.Proofs.Ytfceigcjonlhkaa.Poly
