/- The law TangleFractions: its walk. -/
import Derived.Test.YtbikalghmlihlaaTG2
import Derived.Test.YtbikalghmlihlaaIl
namespace Go.Proofs.Ytbikalghmlihlaa
open Go.RowKit

set_option maxHeartbeats 4000000 in
set_option maxRecDepth 100000 in
theorem tangleFractions_any (a : Option Addr) (c : Nat) (l : List Int) (w : World) (hl : l.length * 8 ≤ 140737488355328) (h : InAt w w.heap.size 1 (.slice a l.length c) l.length (intsV l)) :
    Calls Try.prog 11 #[.slice a l.length c] w fun e w' => e = .returned (.bool true) ∧ Below w.heap.size w w' := by
  have HI : Hid (InAt w w.heap.size 1 (.slice a l.length c) l.length (intsV l)) := h
  have HL : Hid (l.length * 8 ≤ 140737488355328) := hl
  have HR : Hid (∀ W, Below w.heap.size w W → RdAt W W.heap.size 1 (.slice a l.length c) l.length (intsV l)) := fun W hW => (h.rdI.on hW).mono hW.size
  have HM : Hid (∀ W, Below w.heap.size w W → Calls Try.prog 53 #[.slice a l.length c] W fun e w' => e = .returned (.int .i64 (listN l)) ∧ Below W.heap.size W w') := fun W hW => listMay_any a c l W (by omega) (HR.out W hW)
  clear h hl
  by_cases hn : listN l = 0
  · have HF : Hid (∀ a' c' W, RdAt W W.heap.size 1 (.slice a' l.length c') l.length (intsV l) → Calls Try.prog 51 #[.slice a' l.length c'] W fun e w' => e = .returned (.tuple #[.int .i64 (frM l).1, .int .i64 (frM l).2, .int .i64 0]) ∧ Below W.heap.size W w') := fun a' c' W hW => fraction_yes a' c' l W (by have := HL.out; omega) hn hW
    obtain ⟨g1, g2, g3⟩ := listN_ok hn
    have HG : Hid (∀ W, Below w.heap.size w W → Calls Try.prog 54 #[.slice a l.length c] W fun e w' => e = .returned (.tuple #[.int .i64 (frM l).1, .int .i64 (frM l).2]) ∧ Below W.heap.size W w') := fun W hW => fractionOf_any a c l W (by have := HL.out; omega) (by omega) g3 g1 (HR.out W hW)
    rw [hn] at HM
    obtain ⟨p, hp⟩ : ∃ p, (frM l).1 = p := ⟨_, rfl⟩
    obtain ⟨q, hq⟩ : ∃ q, (frM l).2 = q := ⟨_, rfl⟩
    rw [hp, hq] at HF HG
    clear hn g1 g2 g3 hp hq
    go_enter Try.func11, Try.ntmps11
    go_wp2_with (go_at_call 52; refine (intsL_copy a c l _ HL.out HI.out).mono ?_; rintro e9 w1 ⟨a1, c1, rfl, hr1, hb1⟩; refine Hid.out ?_)
    refine Lib.hid ?_
    have HB1 : Hid (Below w.heap.size w w1) := hb1
    have HR1 : Hid (RdAt w1 w1.heap.size 1 (.slice a1 l.length c1) l.length (intsV l)) := hr1
    clear hb1 hr1
    go_wp2_with (go_at_call 51; refine (HF.out a1 c1 _ HR1.out).mono ?_; rintro e9 w2 ⟨rfl, hb2⟩; refine Hid.out ?_)
    refine Lib.hid ?_
    have HB2 : Hid (Below w.heap.size w w2) := HB1.out.trans (hb2.mono HB1.out.size)
    clear hb2
    go_wp2_with (go_at_call 53; refine (HM.out _ HB2.out).mono ?_; rintro e9 w3 ⟨rfl, hb3⟩; refine Hid.out ?_)
    refine Lib.hid ?_
    have HB3 : Hid (Below w.heap.size w w3) := HB2.out.trans (hb3.mono HB2.out.size)
    clear hb3
    go_wp2_with (go_at_call 54; refine (HG.out _ HB3.out).mono ?_; rintro e9 w4 ⟨rfl, hb4⟩; refine Hid.out ?_)
    refine Lib.hid ?_
    have HB4 : Hid (Below w.heap.size w w4) := HB3.out.trans (hb4.mono HB3.out.size)
    clear hb4
    go_wp2
    go_ret
    exact ⟨by first | rfl | simp, HB4.out⟩
  · have HF : Hid (∀ a' c' W, RdAt W W.heap.size 1 (.slice a' l.length c') l.length (intsV l) → Calls Try.prog 51 #[.slice a' l.length c'] W fun e w' => e = .returned (.tuple #[.int .i64 0, .int .i64 0, .int .i64 (listN l)]) ∧ Below W.heap.size W w') := fun a' c' W hW => fraction_no a' c' l W (by have := HL.out; omega) hn hW
    generalize listN l = r at hn HF HM
    have hr0 : (r == 0) = false := beq_eq_false_iff_ne.2 hn
    have hrr : (r == r) = true := beq_self_eq_true r
    go_enter Try.func11, Try.ntmps11
    go_wp2_with (go_at_call 52; refine (intsL_copy a c l _ HL.out HI.out).mono ?_; rintro e9 w1 ⟨a1, c1, rfl, hr1, hb1⟩; refine Hid.out ?_)
    refine Lib.hid ?_
    have HB1 : Hid (Below w.heap.size w w1) := hb1
    have HR1 : Hid (RdAt w1 w1.heap.size 1 (.slice a1 l.length c1) l.length (intsV l)) := hr1
    clear hb1 hr1
    go_wp2_with (go_at_call 51; refine (HF.out a1 c1 _ HR1.out).mono ?_; rintro e9 w2 ⟨rfl, hb2⟩; refine Hid.out ?_)
    refine Lib.hid ?_
    have HB2 : Hid (Below w.heap.size w w2) := HB1.out.trans (hb2.mono HB1.out.size)
    clear hb2
    go_wp2_with (go_at_call 53; refine (HM.out _ HB2.out).mono ?_; rintro e9 w3 ⟨rfl, hb3⟩; refine Hid.out ?_)
    refine Lib.hid ?_
    have HB3 : Hid (Below w.heap.size w w3) := HB2.out.trans (hb3.mono HB2.out.size)
    clear hb3
    go_wp2
    go_ret
    exact ⟨by first | rfl | simp, HB3.out⟩
end Go.Proofs.Ytbikalghmlihlaa
