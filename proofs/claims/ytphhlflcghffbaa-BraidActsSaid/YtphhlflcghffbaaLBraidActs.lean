/- The law BraidActs: its walk. -/
import Derived.Test.YtphhlflcghffbaaBR12
namespace Go.Proofs.Ytphhlflcghffbaa
open Go.RowKit

set_option maxHeartbeats 8000000 in
set_option maxRecDepth 100000 in
theorem braidActs_any (n : Int) (a : Option Addr) (c : Nat) (l : List Int) (w : World) (hl : l.length * 8 ≤ 140737488355328) (h : InAt w w.heap.size 1 (.slice a l.length c) l.length (intsV l)) :
    Calls Try.prog 9 #[.int .i64 n, .slice a l.length c] w fun e w' => e = .returned (.bool true) ∧ Below w.heap.size w w' := by
  have HI : Hid (∀ W, Below w.heap.size w W → InAt W W.heap.size 1 (.slice a l.length c) l.length (intsV l)) := fun W hW => h.up hW
  have HL : Hid (l.length * 8 ≤ 140737488355328) := hl
  have HC : Hid (∀ W, Below w.heap.size w W → Calls Try.prog 37 #[.slice a l.length c] W fun e w' => ∃ a' c', e = .returned (.slice a' l.length c') ∧ RdAt w' w'.heap.size 1 (.slice a' l.length c') l.length (intsV l) ∧ Below W.heap.size W w') := fun W hW => intsL_copy a c l W hl (HI.out W hW)
  have HM : Hid (∀ W, Below w.heap.size w W → Calls Try.prog 42 #[.int .i64 n, .slice a l.length c, .slice none 0 0] W fun e w' => e = .returned (.int .i64 (wordN n l)) ∧ Below W.heap.size W w') := fun W hW => by
    have := wordsMay_any a none c 0 l [] n W hl (by simp) (by simpa using hl) (HI.out W hW) (Or.inl ⟨rfl, rfl⟩)
    rw [wordsN_nil] at this
    exact this
  clear h hl
  by_cases hn : wordN n l = 0
  · obtain ⟨n2, n6, -, hl20⟩ := wordN_ok hn
    obtain ⟨m, rfl⟩ : ∃ m : Nat, n = (m : Int) := ⟨n.toNat, by omega⟩
    have hm6 : m ≤ 6 := by omega
    have HE : Hid (∀ a' c' W, RdAt W W.heap.size 1 (.slice a' l.length c') l.length (intsV l) → Calls Try.prog 40 #[.int .i64 (m : Nat), .slice a' l.length c'] W fun e w' => ∃ a2 c2, e = .returned (.tuple #[.slice a2 m c2, .int .i64 0]) ∧ RdAt w' w'.heap.size 1 (.slice a2 m c2) m (intsV (endT (begT m l l.length) m)) ∧ Below W.heap.size W w') := fun a' c' W hW => ends_yes a' c' m l W HL.out hn hW
    have HA : Hid (∀ a' c' W, RdAt W W.heap.size 1 (.slice a' l.length c') l.length (intsV l) → Calls Try.prog 41 #[.int .i64 (m : Nat), .slice a' l.length c'] W fun e w' => ∃ a2 c2, e = .returned (.tuple #[.slice a2 m c2, .int .i64 0]) ∧ IntsRd w' w'.heap.size (.slice a2 m c2) (actT m l l.length) ∧ Below W.heap.size W w') := fun a' c' W hW => act_yes a' c' m l W HL.out hn hW
    have HEO : Hid (∀ W, Below w.heap.size w W → Calls Try.prog 43 #[.int .i64 (m : Nat), .slice a l.length c] W fun e w' => ∃ a2 c2, e = .returned (.slice a2 m c2) ∧ RdAt w' w'.heap.size 1 (.slice a2 m c2) m (intsV (endT (begT m l l.length) m)) ∧ Below W.heap.size W w') := fun W hW => endsOf_any a c m l W hn (HI.out W hW).rdI
    have HAO : Hid (∀ W, Below w.heap.size w W → Calls Try.prog 44 #[.int .i64 (m : Nat), .slice a l.length c] W fun e w' => ∃ a2 c2, e = .returned (.slice a2 m c2) ∧ IntsRd w' w'.heap.size (.slice a2 m c2) (actT m l l.length) ∧ Below W.heap.size W w') := fun W hW => actOf_any a c m l W hn (HI.out W hW).rdI
    have hok := actT_ok m hm6 l l.length (Nat.le_refl _)
    have HT : Hid ((actT m l l.length).length = m ∧ ∀ j, j < (actT m l l.length).length → ((actT m l l.length).getD j []).length ≤ 20000000000) := (⟨hok.ln, fun j _ => by have h1 := hok.len j; have h2 := three_pow l.length hl20; omega⟩ : (actT m l l.length).length = m ∧ ∀ j, j < (actT m l l.length).length → ((actT m l l.length).getD j []).length ≤ 20000000000)
    have HLE : Hid ((endT (begT m l l.length) m).length = m) := (by rw [endT_len]; exact (begT_ok m l (fun j hj => by obtain ⟨-, -, h3, -⟩ := wordN_ok hn; have := h3 j hj; omega) l.length (Nat.le_refl _)).ln : (endT (begT m l l.length) m).length = m)
    rw [hn] at HM
    generalize endT (begT m l l.length) m = E at HE HEO HLE
    generalize actT m l l.length = T at HA HAO HT
    clear hok hn
    generalize l.length = q at HC HM HE HA HEO HAO hl20 ⊢
    go_enter Try.func9, Try.ntmps9
    go_wp2_with (go_at_call 37; refine (HC.out _ (Below.refl _ _)).mono ?_; rintro e9 w1 ⟨a1, c1, rfl, hr1, hb1⟩; refine Hid.out ?_)
    refine Lib.hid ?_
    have HB1 : Hid (Below w.heap.size w w1) := hb1
    have HF1 := HE.out a1 c1 w1 hr1
    clear hb1 hr1
    go_wp2_with (go_at_call 40; refine HF1.mono ?_; rintro e9 w2 ⟨a2, c2, rfl, hr2, hb2⟩; refine Hid.out ?_)
    refine Lib.hid ?_
    have HB2 : Hid (Below w.heap.size w w2) := HB1.out.trans (hb2.mono HB1.out.size)
    have HR2 : Hid (RdAt w2 w2.heap.size 1 (.slice a2 m c2) m (intsV E)) := hr2
    clear hb2 hr2 HF1
    go_wp2_with (go_at_call 37; refine (HC.out _ HB2.out).mono ?_; rintro e9 w3 ⟨a3, c3, rfl, hr3, hb3⟩; refine Hid.out ?_)
    refine Lib.hid ?_
    have HB3 : Hid (Below w.heap.size w w3) := HB2.out.trans (hb3.mono HB2.out.size)
    have HR3 : Hid (RdAt w3 w3.heap.size 1 (.slice a2 m c2) m (intsV E)) := (HR2.out.on hb3).mono hb3.size
    have HF3 := HA.out a3 c3 w3 hr3
    clear hb3 hr3 HR2
    go_wp2_with (go_at_call 41; refine HF3.mono ?_; rintro e9 w4 ⟨a4, c4, rfl, hr4, hb4⟩; refine Hid.out ?_)
    refine Lib.hid ?_
    have HB4 : Hid (Below w.heap.size w w4) := HB3.out.trans (hb4.mono HB3.out.size)
    have HR4 : Hid (RdAt w4 w4.heap.size 1 (.slice a2 m c2) m (intsV E)) := (HR3.out.on hb4).mono hb4.size
    have HT4 : Hid (IntsRd w4 w4.heap.size (.slice a4 m c4) T) := hr4
    clear hb4 hr4 HR3 HF3
    go_wp2_with (go_at_call 42; refine (HM.out _ HB4.out).mono ?_; rintro e9 w5 ⟨rfl, hb5⟩; refine Hid.out ?_)
    refine Lib.hid ?_
    have HB5 : Hid (Below w.heap.size w w5) := HB4.out.trans (hb5.mono HB4.out.size)
    have HR5 : Hid (RdAt w5 w5.heap.size 1 (.slice a2 m c2) m (intsV E)) := (HR4.out.on hb5).mono hb5.size
    have HT5 : Hid (IntsRd w5 w5.heap.size (.slice a4 m c4) T) := HT4.out.up hb5
    clear hb5 HR4 HT4
    go_wp2_with (go_at_call 43; refine (HEO.out _ HB5.out).mono ?_; rintro e9 w6 ⟨a6, c6, rfl, hr6, hb6⟩; refine Hid.out ?_)
    refine Lib.hid ?_
    have HB6 : Hid (Below w.heap.size w w6) := HB5.out.trans (hb6.mono HB5.out.size)
    have HT6 : Hid (IntsRd w6 w6.heap.size (.slice a4 m c4) T) := HT5.out.up hb6
    have HS6 := sameInts_eqB (.slice a2 m c2) (.slice a6 m c6) E w6 (by have := HLE.out; omega) (((HR5.out.on hb6).mono hb6.size).slots (by rw [intsV_len, HLE.out])) (hr6.slots (by rw [intsV_len, HLE.out]))
    clear hb6 hr6 HR5 HT5
    go_wp2_with (go_at_call 32; refine HS6.mono ?_; rintro e9 w7 ⟨rfl, hb7⟩; refine Hid.out ?_)
    refine Lib.hid ?_
    have HB7 : Hid (Below w.heap.size w w7) := HB6.out.trans (hb7.mono HB6.out.size)
    have HT7 : Hid (IntsRd w7 w7.heap.size (.slice a4 m c4) T) := HT6.out.up hb7
    clear hb7 HT6 HS6
    go_wp2_with (go_at_call 44; refine (HAO.out _ HB7.out).mono ?_; rintro e9 w8 ⟨a8, c8, rfl, hr8, hb8⟩; refine Hid.out ?_)
    refine Lib.hid ?_
    have HB8 : Hid (Below w.heap.size w w8) := HB7.out.trans (hb8.mono HB7.out.size)
    have HS8 := sameTables_eqB (.slice a4 m c4) (.slice a8 m c8) T w8 (by have := HT.out.1; omega) HT.out.2 (HT7.out.up hb8) hr8
    clear hb8 hr8 HT7
    go_wp2_with (go_at_call 35; refine HS8.mono ?_; rintro e9 w9 ⟨rfl, hb9⟩; refine Hid.out ?_)
    refine Lib.hid ?_
    have HB9 : Hid (Below w.heap.size w w9) := HB8.out.trans (hb9.mono HB8.out.size)
    clear hb9 HS8
    go_wp2
    go_ret
    exact ⟨by first | rfl | simp, HB9.out⟩
  · have HE : Hid (∀ a' c' W, RdAt W W.heap.size 1 (.slice a' l.length c') l.length (intsV l) → Calls Try.prog 40 #[.int .i64 n, .slice a' l.length c'] W fun e w' => e = .returned (.tuple #[.slice none 0 0, .int .i64 (wordN n l)]) ∧ Below W.heap.size W w') := fun a' c' W hW => ends_no a' c' l n W HL.out hn hW
    have HA : Hid (∀ a' c' W, RdAt W W.heap.size 1 (.slice a' l.length c') l.length (intsV l) → Calls Try.prog 41 #[.int .i64 n, .slice a' l.length c'] W fun e w' => e = .returned (.tuple #[.slice none 0 0, .int .i64 (wordN n l)]) ∧ Below W.heap.size W w') := fun a' c' W hW => act_no a' c' l n W HL.out hn hW
    generalize wordN n l = r at hn HE HA HM
    have hr0 : (r == 0) = false := beq_eq_false_iff_ne.2 hn
    have hrr : (r == r) = true := beq_self_eq_true r
    generalize l.length = q at HC HM HE HA ⊢
    go_enter Try.func9, Try.ntmps9
    go_wp2_with (go_at_call 37; refine (HC.out _ (Below.refl _ _)).mono ?_; rintro e9 w1 ⟨a1, c1, rfl, hr1, hb1⟩; refine Hid.out ?_)
    refine Lib.hid ?_
    have HB1 : Hid (Below w.heap.size w w1) := hb1
    have HF1 := HE.out a1 c1 w1 hr1
    clear hb1 hr1
    go_wp2_with (go_at_call 40; refine HF1.mono ?_; rintro e9 w2 ⟨rfl, hb2⟩; refine Hid.out ?_)
    refine Lib.hid ?_
    have HB2 : Hid (Below w.heap.size w w2) := HB1.out.trans (hb2.mono HB1.out.size)
    clear hb2 HF1
    go_wp2_with (go_at_call 37; refine (HC.out _ HB2.out).mono ?_; rintro e9 w3 ⟨a3, c3, rfl, hr3, hb3⟩; refine Hid.out ?_)
    refine Lib.hid ?_
    have HB3 : Hid (Below w.heap.size w w3) := HB2.out.trans (hb3.mono HB2.out.size)
    have HF3 := HA.out a3 c3 w3 hr3
    clear hb3 hr3
    go_wp2_with (go_at_call 41; refine HF3.mono ?_; rintro e9 w4 ⟨rfl, hb4⟩; refine Hid.out ?_)
    refine Lib.hid ?_
    have HB4 : Hid (Below w.heap.size w w4) := HB3.out.trans (hb4.mono HB3.out.size)
    clear hb4 HF3
    go_wp2_with (go_at_call 42; refine (HM.out _ HB4.out).mono ?_; rintro e9 w5 ⟨rfl, hb5⟩; refine Hid.out ?_)
    refine Lib.hid ?_
    have HB5 : Hid (Below w.heap.size w w5) := HB4.out.trans (hb5.mono HB4.out.size)
    clear hb5
    go_wp2
    go_ret
    exact ⟨by first | rfl | simp, HB5.out⟩
end Go.Proofs.Ytphhlflcghffbaa
