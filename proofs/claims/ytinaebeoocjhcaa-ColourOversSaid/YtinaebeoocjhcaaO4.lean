/- The walk of colour.Overs. -/
import Derived.Test.YtinaebeoocjhcaaO3
namespace Go.Proofs.Ytinaebeoocjhcaa
open Go.RowKit

set_option maxHeartbeats 4000000 in
set_option maxRecDepth 100000 in
theorem overs_no (hFR : FaceRingsOk) (v : Value) (C : List Cr) (loops : Int) (w : World) (hn : noN C loops ≠ 0) (h : Crs w w.heap.size v C) :
    Calls Try.prog 43 #[.agg #[v, .int .i64 loops]] w fun e w' => e = .returned (.tuple #[.slice none 0 0, .int .i64 (noN C loops)]) ∧ Below w.heap.size w w' := by
  have HC : Hid (Crs w w.heap.size v C) := h
  obtain ⟨a, cap, rfl, -, -⟩ := h
  have HF : Hid (∀ W, Crs W W.heap.size (.slice a C.length cap) C → Calls Try.prog 92 #[.agg #[.slice a C.length cap, .int .i64 loops]] W fun e w' => e = .returned (.tuple #[noDrawing, .int .i64 (noN C loops)]) ∧ Below W.heap.size W w') := fun W hW => flat_not hFR a cap C loops W hn hW
  generalize noN C loops = r at hn HF
  have hr0 : (r == 0) = false := beq_eq_false_iff_ne.2 hn
  have HB1 : Hid (Below w.heap.size w (w.alloc (.cells #[.slice a C.length cap, .int .i64 loops] 24))) := (Below.refl _ _).alloc (Nat.le_refl _) _
  go_enter Try.func43, Try.ntmps43
  go_wp2_with (go_at_call 92; refine (HF.out _ (HC.out.up HB1.out)).mono ?_; rintro e9 w2 ⟨rfl, hb2⟩; refine Hid.out ?_)
  refine Lib.hid ?_
  unfold noDrawing
  have HB2 : Hid (Below w.heap.size w w2) := HB1.out.trans (hb2.mono HB1.out.size)
  clear hb2
  go_wp2
  go_ret2
  exact ⟨rfl, HB2.out.alloc HB2.out.size _⟩

set_option maxHeartbeats 4000000 in
set_option maxRecDepth 100000 in
theorem overs_yes (hFR : FaceRingsOk) (v : Value) (C : List Cr) (loops : Int) (w : World) (hn : noN C loops = 0) (h : Crs w w.heap.size v C) :
    Calls Try.prog 43 #[.agg #[v, .int .i64 loops]] w fun e w' => ∃ a c, e = .returned (.tuple #[.slice a (2 * C.length) c, .int .i64 0]) ∧ Slots w' w'.heap.size (.slice a (2 * C.length) c) (nats (ovL C (2 * C.length))) ∧ Below w.heap.size w w' := by
  have HC : Hid (Crs w w.heap.size v C) := h
  obtain ⟨hm, hp⟩ := noN_zero hn
  have HM : Hid (mayD C loops = true) := hm
  have HP : Hid (planarB C = true) := hp
  have HFA : Hid FaceRingsOk := hFR
  obtain ⟨s1, s2, s3, s4⟩ := sizeB_iff (may_size hm)
  obtain ⟨a, cap, rfl, -, -⟩ := h
  have HB1 : Hid (Below w.heap.size w (w.alloc (.cells #[.slice a C.length cap, .int .i64 loops] 24))) := (Below.refl _ _).alloc (Nat.le_refl _) _
  clear hm hp hn hFR
  go_enter Try.func43, Try.ntmps43
  go_wp2_with (go_at_call 92; refine (flat_yes HFA.out _ C loops _ HM.out HP.out (HC.out.up HB1.out)).mono ?_; rintro e9 w2 ⟨a', cap', gF, cF, gT, cT, rfl, hdr, hb2⟩; refine Hid.out ?_)
  refine Lib.hid ?_
  have HDR : Hid (Dr w2 a' cap' C gF gT) := hdr
  have HOV : Hid (∀ W, Dr W a' cap' C gF gT → Calls Try.prog 93 #[drV a' cap' C loops gF cF gT cT] W fun e w' => ∃ g, e = .returned (.tuple #[.slice (some ⟨g, 0, none⟩) (2 * C.length + 1) (2 * C.length + 1), .int .i64 (ovC C : Nat)]) ∧ w'.ownsRow W.heap.size 3 1 (.slice (some ⟨g, 0, none⟩) (2 * C.length + 1) (2 * C.length + 1)) (2 * C.length + 1) (nats (ovTo C (2 * C.length + 1))) ∧ Below W.heap.size W w') := fun W hW => overpasses_any a' cap' C loops gF cF gT cT W HM.out hW
  unfold drV at HOV
  unfold drV
  have HB2 : Hid (Below w.heap.size w w2) := HB1.out.trans (hb2.mono HB1.out.size)
  have hs2 := HB2.out.size
  have HBA : Hid (Below w2.heap.size w2 (w2.alloc (.cells #[.slice a' C.length cap', .int .i64 loops, .slice (some ⟨gF, 0, none⟩) (2 * C.length + 1) cF, .slice (some ⟨gT, 0, none⟩) (2 * C.length + 1) cT] 87))) := (Below.refl _ _).alloc (Nat.le_refl _) _
  clear hb2 hdr
  go_wp2_with (go_at_call 93; refine (HOV.out _ (HDR.out.on HBA.out)).mono ?_; rintro e9 w3 ⟨g, rfl, hr3, hb3⟩; refine Hid.out ?_)
  refine Lib.hid ?_
  have HSL : Hid (∀ c, Slots w3 w3.heap.size (.slice (some ⟨g, 1, none⟩) (2 * C.length) c) (nats (ovL C (2 * C.length)))) := fun c => ⟨_, _, by rw [nats_len, ovL_len], fun _ => ⟨g, 1, rfl, (hr3.lt g rfl).2, fun i hi => by
    rw [nats_len, ovL_len] at hi
    have e : (nats (ovL C (2 * C.length))).getD i (.bool false) = .int .i64 ((ovL C (2 * C.length)).getD i 0 : Nat) := by
      rw [List.getD_eq_getElem?_getD, nats_get _ i (by rw [ovL_len]; exact hi)]; rfl
    rw [hr3.cellAt (1 + i) (by omega), nats_get _ (1 + i) (by rw [ovTo_len]; omega), e, ← ovTo_drop]
    simp [List.getD_eq_getElem?_getD, Nat.add_comm 1 i]⟩⟩
  have HSN : Hid (∀ a c, Slots w3 w3.heap.size (.slice a 0 c) (nats (ovL C 0))) := fun a c => ⟨_, _, by rw [nats_len, ovL_len], fun h1 => by rw [nats_len, ovL_len] at h1; omega⟩
  have HB3 : Hid (Below w.heap.size w w3) := HB2.out.trans ((HBA.out.trans (hb3.mono (by simp))).mono hs2)
  clear hr3 hb3
  go_wp2
  all_goals
    go_ret2
    first
      | exact ⟨_, _, rfl, HSL.out _, HB3.out⟩
      | exact ⟨_, _, rfl, HSN.out _ _, HB3.out⟩
end Go.Proofs.Ytinaebeoocjhcaa
