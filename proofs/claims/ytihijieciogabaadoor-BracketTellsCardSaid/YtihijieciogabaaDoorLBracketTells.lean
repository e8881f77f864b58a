/- The law BracketTells: its walk, the rings of FaceRings being given. -/
import Derived.Test.YtihijieciogabaaDoorBKc
namespace Go.Proofs.YtihijieciogabaaDoor.Poly
open Go.RowKit Go.Maps

set_option maxHeartbeats 4000000 in
set_option maxRecDepth 100000 in
theorem bracketTells_bad (hFR : FaceRingsOk) (v : Value) (C : List Cr) (loops r : Int) (w : World) (hl : C.length * 40 ≤ 140737488355328) (h : CrsW w w.heap.size v C) (hr : r ≠ 0) (hFW : fewM C loops = r) :
    Calls Tryd.prog 3 #[.agg #[v, .int .i64 loops]] w fun e w' => e = .returned (.bool true) ∧ Below w.heap.size w w' := by
  have HL : Hid (C.length * 40 ≤ 140737488355328) := hl
  have HFW : Hid (fewM C loops = r) := hFW
  have HBN := hid_mkP (fun v W hW => bracket_no hFR v C loops r W hr hFW hW)
  have HJN := hid_mkP (fun v W hW => jones_no hFR v C loops r W hr hFW hW)
  have hr0 : (r == 0) = false := beq_eq_false_iff_ne.2 hr
  have hrr : (r == r) = true := beq_self_eq_true r
  obtain ⟨a, cap, rfl⟩ := slB_CrsW h
  obtain ⟨w0, hw0⟩ : ∃ w0, w0 = w.alloc (.cells #[.slice a C.length cap, .int .i64 loops] 24) := ⟨_, rfl⟩
  have HW0 : Hid (w0 = w.alloc (.cells #[.slice a C.length cap, .int .i64 loops] 24)) := hw0
  have hs0 : w0.heap.size = w.heap.size + 1 := by rw [hw0]; simp
  have HB0 : Hid (Below w.heap.size w w0) := (by rw [hw0]; exact (Below.refl _ _).alloc (Nat.le_refl _) _ : Below w.heap.size w w0)
  have HT0 : Hid (w0.heap[w.heap.size]? = some (.cells #[.slice a C.length cap, .int .i64 loops] 24 (0, 0))) := (by rw [hw0]; exact alloc_at rfl : w0.heap[w.heap.size]? = some (.cells #[.slice a C.length cap, .int .i64 loops] 24 (0, 0)))
  have HCW : Hid (∀ w', Below w0.heap.size w0 w' → CrsW w' w'.heap.size (.slice a C.length cap) C) := fun w' hb => (h.up HB0.out).up hb
  have HCC : Hid (∀ w', Below w0.heap.size w0 w' → Crs w' w'.heap.size (.slice a C.length cap) C) := fun w' hb => (HCW.out w' hb).crs (by have := HL.out; unfold maxLen; omega)
  have HF : Hid (∀ w', Below w0.heap.size w0 w' → w'.cell? ⟨w.heap.size, 0, none⟩ = some (.slice a C.length cap) ∧ w'.cell? ⟨w.heap.size, 1, none⟩ = some (.int .i64 loops) ∧ w.heap.size < w'.heap.size) := fun w' hw' => by
    have g0 := (hw'.block _ (by omega)).trans HT0.out
    exact ⟨block_cell g0 rfl, block_cell g0 rfl, (Array.getElem?_eq_some_iff.1 g0).1⟩
  clear hw0 h hl hFW hr hFR
  go_enter Tryd.func3, Tryd.ntmps3
  go_wp2_with (go_at_call 6; rw [← HW0.out]; refine (diagramOf_any _ C loops _ HL.out (HCW.out _ (Below.refl _ _))).mono ?_; rintro e9 w1 ⟨v1, rfl, hc1, hb1⟩; refine Hid.out ?_)
  refine Lib.hid ?_
  have HB1 : Hid (Below w0.heap.size w0 w1) := hb1
  have HC1 : Hid (Crs w1 w1.heap.size v1 C) := hc1
  clear hb1 hc1
  go_wp2_with (go_at_call 5; refine (HBN.out v1 _ HC1.out).mono ?_; rintro e9 w2 ⟨rfl, hb2⟩; refine Hid.out ?_)
  refine Lib.hid ?_
  have HB2 : Hid (Below w0.heap.size w0 w2) := HB1.out.trans (hb2.mono HB1.out.size)
  clear hb2
  obtain ⟨p0, p1, p2⟩ := HF.out w2 HB2.out
  go_wp2_with (go_at_call 6; refine (diagramOf_any _ C loops _ HL.out (HCW.out _ HB2.out)).mono ?_; rintro e9 w3 ⟨v3, rfl, hc3, hb3⟩; refine Hid.out ?_)
  refine Lib.hid ?_
  have HB3 : Hid (Below w0.heap.size w0 w3) := HB2.out.trans (hb3.mono HB2.out.size)
  have HC3 : Hid (Crs w3 w3.heap.size v3 C) := hc3
  clear hb3 hc3 p0 p1 p2
  go_wp2_with (go_at_call 7; refine (HJN.out v3 _ HC3.out).mono ?_; rintro e9 w4 ⟨rfl, hb4⟩; refine Hid.out ?_)
  refine Lib.hid ?_
  have HB4 : Hid (Below w0.heap.size w0 w4) := HB3.out.trans (hb4.mono HB3.out.size)
  clear hb4
  obtain ⟨p0, p1, p2⟩ := HF.out w4 HB4.out
  go_wp2_with (go_at_call 8; refine (few12_any a cap C loops _ (HCC.out _ HB4.out)).mono ?_; rw [HFW.out]; rintro e9 w5 ⟨rfl, hb5⟩; refine Hid.out ?_)
  refine Lib.hid ?_
  have HB5 : Hid (Below w0.heap.size w0 w5) := HB4.out.trans (hb5.mono HB4.out.size)
  clear hb5 p0 p1 p2
  go_wp2
  go_ret
  exact ⟨by first | rfl | simp, HB0.out.trans (HB5.out.mono HB0.out.size)⟩

set_option maxHeartbeats 8000000 in
set_option maxRecDepth 100000 in
theorem bracketTells_yes (hFR : FaceRingsOk) (v : Value) (C : List Cr) (loops : Int) (lo : Nat) (w : World) (hlo : loops = (lo : Nat)) (hl : C.length * 40 ≤ 140737488355328) (h : CrsW w w.heap.size v C) (hn : noN C loops = 0) (h12 : C.length ≤ 12) (hR : RingAt w) :
    Calls Tryd.prog 3 #[.agg #[v, .int .i64 loops]] w fun e w' => e = .returned (.bool true) ∧ Below w.heap.size w w' := by
  have HL : Hid (C.length * 40 ≤ 140737488355328) := hl
  have hm : mayD C (lo : Nat) = true := by rw [← hlo]; exact (noN_zero hn).1
  have HFW : Hid (fewM C loops = 0) := (by unfold fewM; rw [if_neg (by omega)]; exact hn : fewM C loops = 0)
  have HBN := hid_mkP (fun v W hW hRW => bracket_yes hFR v C loops lo W hlo hn h12 hW hRW)
  have HJN := hid_mkP (fun v W hW hRW => jones_yes hFR v C loops lo W hlo hn h12 hW hRW)
  obtain ⟨a, cap, rfl⟩ := slB_CrsW h
  obtain ⟨w0, hw0⟩ : ∃ w0, w0 = w.alloc (.cells #[.slice a C.length cap, .int .i64 loops] 24) := ⟨_, rfl⟩
  have HW0 : Hid (w0 = w.alloc (.cells #[.slice a C.length cap, .int .i64 loops] 24)) := hw0
  have hs0 : w0.heap.size = w.heap.size + 1 := by rw [hw0]; simp
  have HB0 : Hid (Below w.heap.size w w0) := (by rw [hw0]; exact (Below.refl _ _).alloc (Nat.le_refl _) _ : Below w.heap.size w w0)
  have HT0 : Hid (w0.heap[w.heap.size]? = some (.cells #[.slice a C.length cap, .int .i64 loops] 24 (0, 0))) := (by rw [hw0]; exact alloc_at rfl : w0.heap[w.heap.size]? = some (.cells #[.slice a C.length cap, .int .i64 loops] 24 (0, 0)))
  have HCW : Hid (∀ w', Below w0.heap.size w0 w' → CrsW w' w'.heap.size (.slice a C.length cap) C) := fun w' hb => (h.up HB0.out).up hb
  have HCC : Hid (∀ w', Below w0.heap.size w0 w' → Crs w' w'.heap.size (.slice a C.length cap) C) := fun w' hb => (HCW.out w' hb).crs (by have := HL.out; unfold maxLen; omega)
  have HF : Hid (∀ w', Below w0.heap.size w0 w' → w'.cell? ⟨w.heap.size, 0, none⟩ = some (.slice a C.length cap) ∧ w'.cell? ⟨w.heap.size, 1, none⟩ = some (.int .i64 loops) ∧ w.heap.size < w'.heap.size) := fun w' hw' => by
    have g0 := (hw'.block _ (by omega)).trans HT0.out
    exact ⟨block_cell g0 rfl, block_cell g0 rfl, (Array.getElem?_eq_some_iff.1 g0).1⟩
  have HRW : Hid (∀ W, Below w0.heap.size w0 W → RingAt W) := fun W hW => hR.any (HB0.out.trans (hW.mono HB0.out.size))
  have HBR := hid_mkP (fun W hW => bracketOfR_any a cap C lo W hm h12 hW)
  have HJR := hid_mkP (fun W hW => jonesOf_any a cap C lo W hm h12 hW)
  rw [← hlo] at HBR HJR
  have HBI := hid_mkP (br_in hm h12)
  clear hw0 h hl hn hFR hR hm hlo
  go_enter Tryd.func3, Tryd.ntmps3
  go_wp2_with (go_at_call 6; rw [← HW0.out]; refine (diagramOf_any _ C loops _ HL.out (HCW.out _ (Below.refl _ _))).mono ?_; rintro e9 w1 ⟨v1, rfl, hc1, hb1⟩; refine Hid.out ?_)
  refine Lib.hid ?_
  have HB1 : Hid (Below w0.heap.size w0 w1) := hb1
  have HC1 : Hid (Crs w1 w1.heap.size v1 C) := hc1
  clear hb1 hc1
  go_wp2_with (go_at_call 5; refine (HBN.out v1 _ HC1.out (HRW.out _ HB1.out)).mono ?_; rintro e9 w2 ⟨va, la, rfl, hPa, hCa, hb2⟩; refine Hid.out ?_)
  refine Lib.hid ?_
  have HB2 : Hid (Below w0.heap.size w0 w2) := HB1.out.trans (hb2.mono HB1.out.size)
  have HPa := hid_mkP hPa
  have HCa := hid_mkP hCa
  clear hb2 hPa hCa
  obtain ⟨p0, p1, p2⟩ := HF.out w2 HB2.out
  go_wp2_with (go_at_call 6; refine (diagramOf_any _ C loops _ HL.out (HCW.out _ HB2.out)).mono ?_; rintro e9 w3 ⟨v3, rfl, hc3, hb3⟩; refine Hid.out ?_)
  refine Lib.hid ?_
  have HB23 : Hid (Below w2.heap.size w2 w3) := hb3
  have HB3 : Hid (Below w0.heap.size w0 w3) := HB2.out.trans (hb3.mono HB2.out.size)
  have HC3 : Hid (Crs w3 w3.heap.size v3 C) := hc3
  clear hb3 hc3 p0 p1 p2
  go_wp2_with (go_at_call 7; refine (HJN.out v3 _ HC3.out (HRW.out _ HB3.out)).mono ?_; rintro e9 w4 ⟨vb, lb, rfl, hPb, hCb, hb4⟩; refine Hid.out ?_)
  refine Lib.hid ?_
  have HB24 : Hid (Below w2.heap.size w2 w4) := HB23.out.trans (hb4.mono HB23.out.size)
  have HB4 : Hid (Below w0.heap.size w0 w4) := HB3.out.trans (hb4.mono HB3.out.size)
  have HPb := hid_mkP hPb
  have HCb := hid_mkP hCb
  clear hb4 hPb hCb
  obtain ⟨p0, p1, p2⟩ := HF.out w4 HB4.out
  go_wp2_with (go_at_call 8; refine (few12_any a cap C loops _ (HCC.out _ HB4.out)).mono ?_; rw [HFW.out]; rintro e9 w5 ⟨rfl, hb5⟩; refine Hid.out ?_)
  refine Lib.hid ?_
  have HB45 : Hid (Below w4.heap.size w4 w5) := hb5
  have HB5 : Hid (Below w0.heap.size w0 w5) := HB4.out.trans (hb5.mono HB4.out.size)
  clear hb5 p0 p1 p2
  obtain ⟨p0, p1, p2⟩ := HF.out w5 HB5.out
  go_wp2_with (go_at_call 10; refine (HBR.out _ (HCC.out _ HB5.out)).mono ?_; rintro e9 w6 ⟨v6, l6, rfl, hP6, hC6, hb6⟩; refine Hid.out ?_)
  refine Lib.hid ?_
  have HB46 : Hid (Below w4.heap.size w4 w6) := HB45.out.trans (hb6.mono HB45.out.size)
  have HB6 : Hid (Below w0.heap.size w0 w6) := HB5.out.trans (hb6.mono HB5.out.size)
  have hlen := canon_len1 HCa.out 92 HBI.out
  have HS1 := hid_mkP (same_canon va v6 la l6 (brS C lo) w6 (by unfold maxLen; omega) ((HPa.out.up (HB24.out.trans (HB46.out.mono HB24.out.size))).1) hP6.1 HCa.out hC6)
  clear hb6 hP6 hC6 p0 p1 p2
  go_wp2_with (go_at_call 9; refine HS1.out.mono ?_; rintro e9 w7 ⟨rfl, hb7⟩; refine Hid.out ?_)
  refine Lib.hid ?_
  have HB47 : Hid (Below w4.heap.size w4 w7) := HB46.out.trans (hb7.mono HB46.out.size)
  have HB7 : Hid (Below w0.heap.size w0 w7) := HB6.out.trans (hb7.mono HB6.out.size)
  clear hb7
  obtain ⟨p0, p1, p2⟩ := HF.out w7 HB7.out
  go_wp2_with (go_at_call 11; refine (HJR.out _ (HCC.out _ HB7.out)).mono ?_; rintro e9 w8 ⟨v8, l8, rfl, hP8, hC8, hb8⟩; refine Hid.out ?_)
  refine Lib.hid ?_
  have HB48 : Hid (Below w4.heap.size w4 w8) := HB47.out.trans (hb8.mono HB47.out.size)
  have HB8 : Hid (Below w0.heap.size w0 w8) := HB7.out.trans (hb8.mono HB7.out.size)
  have hlen2 : lb.length ≤ maxLen := by
    obtain ⟨-, a9, n9, c9, e9, h91, h92⟩ := HPb.out
    obtain ⟨a8, c8, e8, -⟩ := HPb.out.1.slice
    rw [e8] at e9
    injection e9 with _ e92 _
    omega
  have HS2 := hid_mkP (same_canon vb v8 lb l8 (jnF C lo) w8 hlen2 ((HPb.out.up HB48.out).1) hP8.1 HCb.out hC8)
  clear hb8 hP8 hC8 p0 p1 p2
  go_wp2_with (go_at_call 9; refine HS2.out.mono ?_; rintro e9 w9 ⟨rfl, hb9⟩; refine Hid.out ?_)
  refine Lib.hid ?_
  have HB9 : Hid (Below w0.heap.size w0 w9) := HB8.out.trans (hb9.mono HB8.out.size)
  clear hb9
  go_wp2
  go_ret
  exact ⟨by first | rfl | simp, HB0.out.trans (HB9.out.mono HB0.out.size)⟩
theorem bracketTells_any (hFR : FaceRingsOk) (v : Value) (C : List Cr) (loops : Int) (w : World) (hl : C.length * 40 ≤ 140737488355328) (h : CrsW w w.heap.size v C) (hR : RingAt w) :
    Calls Tryd.prog 3 #[.agg #[v, .int .i64 loops]] w fun e w' => e = .returned (.bool true) ∧ Below w.heap.size w w' := by
  by_cases hn : noN C loops = 0
  · by_cases h12 : C.length ≤ 12
    · obtain ⟨s1, s2, s3, s4⟩ := sizeB_iff (may_size (noN_zero hn).1)
      exact bracketTells_yes hFR v C loops loops.toNat w (by omega) hl h hn h12 hR
    · exact bracketTells_bad hFR v C loops 2 w hl h (by decide) (if_pos ⟨hn, by omega⟩)
  · exact bracketTells_bad hFR v C loops (noN C loops) w hl h hn (if_neg (fun q => hn q.1))
end Go.Proofs.YtihijieciogabaaDoor.Poly
