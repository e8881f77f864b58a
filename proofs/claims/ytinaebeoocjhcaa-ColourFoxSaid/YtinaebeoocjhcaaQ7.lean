/- The walk of ref.FoxOf where there are no crossings. -/
import Derived.Test.YtinaebeoocjhcaaQ5
namespace Go.Proofs.Ytinaebeoocjhcaa
open Go.RowKit

set_option maxHeartbeats 8000000 in
set_option maxRecDepth 100000 in
theorem foxOf_nil (a : Option Addr) (cap : Nat) (C : List Cr) (loops : Int) (p : Nat) (w : World) (hm : mayD C loops = true) (h0 : C.length = 0) (hD : Crs w w.heap.size (.slice a C.length cap) C) :
    Calls Try.prog 49 #[.agg #[.slice a C.length cap, .int .i64 loops], .int .i64 (p : Nat)] w fun e w' => e = .returned (.int .i64 (foxM C loops p)) ∧ Below w.heap.size w w' := by
  obtain ⟨s1, s2, s3, s4⟩ := sizeB_iff (may_size hm)
  obtain ⟨i0, hi, hz0, hz1, hz2⟩ := info_parts infoBool
  have HM : Hid (mayD C loops = true) := hm
  have HD : Hid (Crs w w.heap.size (.slice a C.length cap) C) := hD
  have HOF : Hid (∀ W, Crs W W.heap.size (.slice a 0 cap) C → Calls Try.prog 46 #[.agg #[.slice a 0 cap, .int .i64 loops]] W fun e w' => ∃ v, e = .returned v ∧ Slots w' w'.heap.size v (nats []) ∧ Below W.heap.size W w') := fun W hW => by
    have h := oversOf_any a cap C loops W HM.out (by rw [h0]; exact hW)
    rw [h0] at h
    refine h.mono ?_
    rintro e w' ⟨v, rfl, hr, hb⟩
    exact ⟨v, rfl, slots_of_own hr, hb⟩
  have hoc : ovC C = 0 := by
    unfold ovC
    rw [h0]
    simp [rootsN]
  have HFX : Hid (foxM C loops p = loops) := (by unfold foxM; rw [hoc]; simp [rkTo] : foxM C loops p = loops)
  rw [HFX.out]
  rw [h0] at HD ⊢
  obtain ⟨w0, hw0⟩ : ∃ w0, w0 = w.alloc (.cells #[.slice a 0 cap, .int .i64 loops] 24) := ⟨_, rfl⟩
  have HW0 : Hid (w0 = w.alloc (.cells #[.slice a 0 cap, .int .i64 loops] 24)) := hw0
  have HB0 : Hid (Below w.heap.size w w0) := (by rw [hw0]; exact (Below.refl _ _).alloc (Nat.le_refl _) _ : Below w.heap.size w w0)
  have hs0 : w0.heap.size = w.heap.size + 1 := by rw [hw0]; simp
  have HT0 : Hid (w0.heap[w.heap.size]? = some (.cells #[.slice a 0 cap, .int .i64 loops] 24 (0, 0))) := (by rw [hw0]; exact alloc_at rfl : w0.heap[w.heap.size]? = some (.cells #[.slice a 0 cap, .int .i64 loops] 24 (0, 0)))
  clear hw0 hm hD h0 hoc s4
  go_enter Try.func49, Try.ntmps49
  go_wp2_with (go_at_call 46; rw [← HW0.out]; refine (HOF.out _ (HD.out.up HB0.out)).mono ?_; rintro e9 w1 ⟨v1, rfl, hr1, hb1⟩; refine Hid.out ?_)
  refine Lib.hid ?_
  have HB1 : Hid (Below w0.heap.size w0 w1) := hb1
  have HR1 : Hid (Slots w1 w1.heap.size v1 (nats [])) := hr1
  obtain ⟨a1, c1, e1, -⟩ := hr1
  have e1 : v1 = .slice a1 0 c1 := e1
  subst e1
  clear hb1
  go_wp2_with (go_at_call 98; refine (mostOf_any _ [] 1 _ (by omega) (by simp) (fun x hx => by cases hx) HR1.out).mono ?_; rintro e9 V ⟨rfl, hb2⟩; refine Hid.out ?_)
  refine Lib.hid ?_
  have HBV : Hid (Below w0.heap.size w0 V) := HB1.out.trans (hb2.mono HB1.out.size)
  have hsV := HBV.out.size
  have q0 : V.cell? ⟨w.heap.size, 0, none⟩ = some (.slice a 0 cap) := block_cell ((HBV.out.block _ (by omega)).trans HT0.out) rfl
  have q1 : V.cell? ⟨w.heap.size, 1, none⟩ = some (.int .i64 loops) := block_cell ((HBV.out.block _ (by omega)).trans HT0.out) rfl
  have HQ0 : Hid (V.heap[w.heap.size]? = some (.cells #[.slice a 0 cap, .int .i64 loops] 24 (0, 0))) := (HBV.out.block _ (by omega)).trans HT0.out
  clear hb2
  go_wp2
  go_loopw [7, 8] (fun v7 v8 wr => v8 = .int .i64 0 ∧ v7 = .slice none 0 0 ∧ Hid (wr = V)) (fun _ v8 _ => 0)
  case atStart => exact ⟨rfl, rfl, (rfl : V = V)⟩
  case round =>
    rename World => W1
    obtain ⟨rfl, rfl, hw⟩ := hrel
    have e9 : W1 = V := hw.out
    subst e9
    go_wp2_with (first | (at_make; refine wpList_make_full _ rfl _ _ 31 rfl W1.heap.size 4 i0 (.bool false) 1 Try.underlying31 hi hz0 hz1 .i64 .i64 _ _ 0 rfl rfl rfl rfl (by rw [hz2]; omega) (by unfold maxLen; omega) (by omega) ?_; intro W2 hrow hg2; refine Hid.out ?_))
    refine Lib.hid ?_
    have HB2 : Hid (Below w.heap.size w W2) := HB0.out.trans ((HBV.out.grown hg2 hsV (fun q hq => by cases hq)).mono (by omega))
    have HQ2 : Hid (W2.heap[w.heap.size]? = some (.cells #[.slice a 0 cap, .int .i64 loops] 24 (0, 0))) := (hg2.block _ (by omega) (by simp)).trans HQ0.out
    clear hrow hg2 q0 q1
    go_wp2
    go_loopw [12, 13] (fun v12 v13 wr => v13 = .int .i64 0 ∧ v12 = .int .i64 0 ∧ Hid (wr = W2)) (fun _ v13 _ => 0)
    case atStart => exact ⟨rfl, rfl, (rfl : W2 = W2)⟩
    case round =>
      rename World => W3
      obtain ⟨rfl, rfl, hw3⟩ := hrel
      have e9 : W3 = W2 := hw3.out
      subst e9
      have q1 : W3.cell? ⟨w.heap.size, 1, none⟩ = some (.int .i64 loops) := block_cell HQ2.out rfl
      have ew : IntKind.i64.wrap (0 + loops) = loops := by rw [Int.zero_add]; exact IntWalk.i64_in _ (by omega)
      have ew2 : IntKind.i64.wrap loops = loops := IntWalk.i64_in _ (by omega)
      go_wp2
      go_ret
      exact ⟨rfl, HB2.out⟩
end Go.Proofs.Ytinaebeoocjhcaa
