/- The walks of wind.Linking and wind.Circles. -/
import Derived.Test.YtmggackacaobjaaX4
import Derived.Test.YtmggackacaobjaaV2
import Derived.Test.YtmggackacaobjaaV3
namespace Go.Proofs.Ytmggackacaobjaa
open Go.RowKit

theorem TabAt.rd {B gt m : Nat} {gs : Nat → Nat} {T : Nat → Nat → Int} {W : World} (h : TabAt B gt m gs m T W) : IntsRd W W.heap.size (.slice (some ⟨gt, 0, none⟩) m m) ((List.range m).map fun i => mapI m (T i)) := by
  refine ⟨outC0 m gs m, by simp [outC0], by simpa using own_rd h.outer, fun j hj => ?_⟩
  have hj' : j < m := by simpa using hj
  have e1 : ((List.range m).map fun i => mapI m (T i)).getD j [] = mapI m (T j) := by simp [List.getD, hj']
  have e2 : (outC0 m gs m).getD j (.bool false) = .slice (some ⟨gs j, 0, none⟩) m m := by
    rw [List.getD_eq_getElem?_getD, outC0_get m gs m j hj', if_pos hj']; rfl
  rw [e1, e2, mapI_len]
  exact own_rd (h.rows j hj')
theorem IntsOwn.rd {w : World} {B : Nat} {v : Value} {L : List (List Int)} (h : IntsOwn w B v L) : IntsRd w w.heap.size v L := by
  obtain ⟨ys, hy, h1, h2⟩ := h
  exact ⟨ys, hy, by rw [← hy]; exact own_rd h1, fun j hj => own_rd (h2 j hj)⟩
theorem lkL_is (C : List Cr) : lkL C = (List.range (walksM C).length).map fun i => mapI (walksM C).length ((fun i j => hf i j (lkM C i j C.length)) i) := rfl
/-- The circles' numbers. -/
def ciL (C : List Cr) : List (List Int) := (circM C).map fun l => l.map fun (x : Nat) => (x : Int)

set_option maxHeartbeats 4000000 in
set_option maxRecDepth 100000 in
theorem linking_no (hFR : FaceRingsOk) (v : Value) (C : List Cr) (loops : Int) (w : World) (hn : noN C loops ≠ 0) (h : Crs w w.heap.size v C) :
    Calls Try.prog 56 #[.agg #[v, .int .i64 loops]] w fun e w' => e = .returned (.tuple #[.slice none 0 0, .int .i64 (noN C loops)]) ∧ Below w.heap.size w w' := by
  have HC : Hid (Crs w w.heap.size v C) := h
  obtain ⟨a, cap, rfl, -, -⟩ := h
  have HF : Hid (∀ W, Crs W W.heap.size (.slice a C.length cap) C → Calls Try.prog 106 #[.agg #[.slice a C.length cap, .int .i64 loops]] W fun e w' => e = .returned (.tuple #[noDrawing, .int .i64 (noN C loops)]) ∧ Below W.heap.size W w') := fun W hW => flat_not hFR a cap C loops W hn hW
  generalize noN C loops = r at hn HF
  have hr0 : (r == 0) = false := beq_eq_false_iff_ne.2 hn
  have HB1 : Hid (Below w.heap.size w (w.alloc (.cells #[.slice a C.length cap, .int .i64 loops] 24))) := (Below.refl _ _).alloc (Nat.le_refl _) _
  go_enter Try.func56, Try.ntmps56
  go_wp2_with (go_at_call 106; refine (HF.out _ (HC.out.up HB1.out)).mono ?_; rintro e9 w2 ⟨rfl, hb2⟩; refine Hid.out ?_)
  refine Lib.hid ?_
  unfold noDrawing
  have HB2 : Hid (Below w.heap.size w w2) := HB1.out.trans (hb2.mono HB1.out.size)
  clear hb2
  go_wp2
  go_ret2
  exact ⟨rfl, HB2.out.alloc HB2.out.size _⟩

set_option maxHeartbeats 4000000 in
set_option maxRecDepth 100000 in
theorem circles_no (hFR : FaceRingsOk) (v : Value) (C : List Cr) (loops : Int) (w : World) (hn : noN C loops ≠ 0) (h : Crs w w.heap.size v C) :
    Calls Try.prog 57 #[.agg #[v, .int .i64 loops]] w fun e w' => e = .returned (.tuple #[.slice none 0 0, .int .i64 (noN C loops)]) ∧ Below w.heap.size w w' := by
  have HC : Hid (Crs w w.heap.size v C) := h
  obtain ⟨a, cap, rfl, -, -⟩ := h
  have HF : Hid (∀ W, Crs W W.heap.size (.slice a C.length cap) C → Calls Try.prog 106 #[.agg #[.slice a C.length cap, .int .i64 loops]] W fun e w' => e = .returned (.tuple #[noDrawing, .int .i64 (noN C loops)]) ∧ Below W.heap.size W w') := fun W hW => flat_not hFR a cap C loops W hn hW
  generalize noN C loops = r at hn HF
  have hr0 : (r == 0) = false := beq_eq_false_iff_ne.2 hn
  have HB1 : Hid (Below w.heap.size w (w.alloc (.cells #[.slice a C.length cap, .int .i64 loops] 24))) := (Below.refl _ _).alloc (Nat.le_refl _) _
  go_enter Try.func57, Try.ntmps57
  go_wp2_with (go_at_call 106; refine (HF.out _ (HC.out.up HB1.out)).mono ?_; rintro e9 w2 ⟨rfl, hb2⟩; refine Hid.out ?_)
  refine Lib.hid ?_
  unfold noDrawing
  have HB2 : Hid (Below w.heap.size w w2) := HB1.out.trans (hb2.mono HB1.out.size)
  clear hb2
  go_wp2
  go_ret2
  exact ⟨rfl, HB2.out.alloc HB2.out.size _⟩

set_option maxHeartbeats 4000000 in
set_option maxRecDepth 100000 in
theorem linking_yes (hFR : FaceRingsOk) (v : Value) (C : List Cr) (loops : Int) (w : World) (hn : noN C loops = 0) (h : Crs w w.heap.size v C) :
    Calls Try.prog 56 #[.agg #[v, .int .i64 loops]] w fun e w' => ∃ r, e = .returned (.tuple #[r, .int .i64 0]) ∧ IntsRd w' w'.heap.size r (lkL C) ∧ Below w.heap.size w w' := by
  have HC : Hid (Crs w w.heap.size v C) := h
  obtain ⟨hm, hp⟩ := noN_zero hn
  have HM : Hid (mayD C loops = true) := hm
  have HP : Hid (planarB C = true) := hp
  have HFA : Hid FaceRingsOk := hFR
  obtain ⟨a, cap, rfl, -, -⟩ := h
  have HB1 : Hid (Below w.heap.size w (w.alloc (.cells #[.slice a C.length cap, .int .i64 loops] 24))) := (Below.refl _ _).alloc (Nat.le_refl _) _
  clear hm hp hn hFR
  go_enter Try.func56, Try.ntmps56
  go_wp2_with (go_at_call 106; refine (flat_yes HFA.out _ C loops _ HM.out HP.out (HC.out.up HB1.out)).mono ?_; rintro e9 w2 ⟨a', cap', gF, cF, gT, cT, rfl, hdr, hb2⟩; refine Hid.out ?_)
  refine Lib.hid ?_
  have HDR : Hid (Dr w2 a' cap' C gF gT) := hdr
  unfold drV
  have HB2 : Hid (Below w.heap.size w w2) := HB1.out.trans (hb2.mono HB1.out.size)
  have hs2 := HB2.out.size
  have HBA : Hid (Below w2.heap.size w2 (w2.alloc (.cells #[.slice a' C.length cap', .int .i64 loops, .slice (some ⟨gF, 0, none⟩) (2 * C.length + 1) cF, .slice (some ⟨gT, 0, none⟩) (2 * C.length + 1) cT] 87))) := (Below.refl _ _).alloc (Nat.le_refl _) _
  clear hb2 hdr
  go_wp2_with (go_at_call 108; refine (links_any a' cap' C loops gF cF gT cT _ HM.out (HDR.out.on HBA.out)).mono ?_; rintro e9 w3 ⟨gt, gs, rfl, ht, hb3⟩; refine Hid.out ?_)
  refine Lib.hid ?_
  have HR : Hid (IntsRd w3 w3.heap.size (.slice (some ⟨gt, 0, none⟩) (walksM C).length (walksM C).length) (lkL C)) := ht.rd
  have HB3 : Hid (Below w.heap.size w w3) := (HB2.out.trans (HBA.out.mono hs2)).trans (hb3.mono (by simp; omega))
  clear ht hb3
  go_wp2
  go_ret2
  exact ⟨_, rfl, HR.out, HB3.out⟩

set_option maxHeartbeats 4000000 in
set_option maxRecDepth 100000 in
theorem circles_yes (hFR : FaceRingsOk) (v : Value) (C : List Cr) (loops : Int) (w : World) (hn : noN C loops = 0) (h : Crs w w.heap.size v C) :
    Calls Try.prog 57 #[.agg #[v, .int .i64 loops]] w fun e w' => ∃ r, e = .returned (.tuple #[r, .int .i64 0]) ∧ IntsRd w' w'.heap.size r (ciL C) ∧ Below w.heap.size w w' := by
  have HC : Hid (Crs w w.heap.size v C) := h
  obtain ⟨hm, hp⟩ := noN_zero hn
  have HM : Hid (mayD C loops = true) := hm
  have HP : Hid (planarB C = true) := hp
  have HFA : Hid FaceRingsOk := hFR
  obtain ⟨a, cap, rfl, -, -⟩ := h
  have HB1 : Hid (Below w.heap.size w (w.alloc (.cells #[.slice a C.length cap, .int .i64 loops] 24))) := (Below.refl _ _).alloc (Nat.le_refl _) _
  clear hm hp hn hFR
  go_enter Try.func57, Try.ntmps57
  go_wp2_with (go_at_call 106; refine (flat_yes HFA.out _ C loops _ HM.out HP.out (HC.out.up HB1.out)).mono ?_; rintro e9 w2 ⟨a', cap', gF, cF, gT, cT, rfl, hdr, hb2⟩; refine Hid.out ?_)
  refine Lib.hid ?_
  have HDR : Hid (Dr w2 a' cap' C gF gT) := hdr
  unfold drV
  have HB2 : Hid (Below w.heap.size w w2) := HB1.out.trans (hb2.mono HB1.out.size)
  have hs2 := HB2.out.size
  have HBA : Hid (Below w2.heap.size w2 (w2.alloc (.cells #[.slice a' C.length cap', .int .i64 loops, .slice (some ⟨gF, 0, none⟩) (2 * C.length + 1) cF, .slice (some ⟨gT, 0, none⟩) (2 * C.length + 1) cT] 87))) := (Below.refl _ _).alloc (Nat.le_refl _) _
  clear hb2 hdr
  go_wp2_with (go_at_call 109; refine (circles_in a' cap' C loops gF cF gT cT _ HM.out (HDR.out.on HBA.out)).mono ?_; rintro e9 w3 ⟨vr, rfl, ht, hb3⟩; refine Hid.out ?_)
  refine Lib.hid ?_
  have HR : Hid (IntsRd w3 w3.heap.size vr (ciL C)) := ht.rd.ints
  have HB3 : Hid (Below w.heap.size w w3) := (HB2.out.trans (HBA.out.mono hs2)).trans (hb3.mono (by simp; omega))
  clear ht hb3
  go_wp2
  go_ret2
  exact ⟨_, rfl, HR.out, HB3.out⟩

end Go.Proofs.Ytmggackacaobjaa
