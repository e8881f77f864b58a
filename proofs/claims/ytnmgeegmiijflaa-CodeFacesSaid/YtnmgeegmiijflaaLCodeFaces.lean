/- The law CodeFaces: its walk, the rings of FaceRings being given. -/
import Derived.Test.YtnmgeegmiijflaaF12
import Derived.Test.YtnmgeegmiijflaaF9
import Derived.Test.YtnmgeegmiijflaaLGaussTells
namespace Go.Proofs.Ytnmgeegmiijflaa
open Go.RowKit

set_option maxHeartbeats 8000000 in
set_option maxRecDepth 100000 in
theorem codeFaces_no (v : Value) (C : List Cr) (loops : Int) (w : World) (hl : C.length * 40 ≤ 140737488355328) (h : CrsW w w.heap.size v C) (hm : mayD C loops = false) :
    Calls Try.prog 3 #[.agg #[v, .int .i64 loops]] w fun e w' => e = .returned (.bool true) ∧ Below w.heap.size w w' := by
  have HL : Hid (C.length * 40 ≤ 140737488355328) := hl
  have HM : Hid (mayD C loops = false) := hm
  obtain ⟨a, cap, rfl⟩ := slice_CrsW h
  obtain ⟨w0, hw0⟩ : ∃ w0, w0 = w.alloc (.cells #[.slice a C.length cap, .int .i64 loops] 24) := ⟨_, rfl⟩
  have HW0 : Hid (w0 = w.alloc (.cells #[.slice a C.length cap, .int .i64 loops] 24)) := hw0
  have hs0 : w0.heap.size = w.heap.size + 1 := by rw [hw0]; simp
  have HB0 : Hid (Below w.heap.size w w0) := (by rw [hw0]; exact (Below.refl _ _).alloc (Nat.le_refl _) _ : Below w.heap.size w w0)
  have HT0 : Hid (w0.heap[w.heap.size]? = some (.cells #[.slice a C.length cap, .int .i64 loops] 24 (0, 0))) := (by rw [hw0]; exact alloc_at rfl : w0.heap[w.heap.size]? = some (.cells #[.slice a C.length cap, .int .i64 loops] 24 (0, 0)))
  have HCW : Hid (∀ w', Below w0.heap.size w0 w' → CrsW w' w'.heap.size (.slice a C.length cap) C) := fun w' hb => (h.up HB0.out).up hb
  have HCC : Hid (∀ w', Below w0.heap.size w0 w' → Crs w' w'.heap.size (.slice a C.length cap) C) := fun w' hb => (HCW.out w' hb).crs (by have := HL.out; unfold maxLen; omega)
  have HF : Hid (∀ w', Below w0.heap.size w0 w' → w'.cell? ⟨w.heap.size, 0, none⟩ = some (.slice a C.length cap) ∧ w'.cell? ⟨w.heap.size, 1, none⟩ = some (.int .i64 loops) ∧ w.heap.size < w'.heap.size) := fun w' hw' => by
    have g0 := (hw'.block _ (by omega)).trans HT0.out
    exact ⟨block_cell g0 rfl, block_cell g0 rfl, (Array.getElem?_eq_some_iff.1 g0).1⟩
  clear hw0 h hl hm
  go_enter Try.func3, Try.ntmps3
  go_wp2_with (go_at_call 15; rw [← HW0.out]; refine (diagramOf_any _ C loops _ HL.out (HCW.out _ (Below.refl _ _))).mono ?_; rintro e9 w1 ⟨v1, rfl, hc1, hb1⟩; refine Hid.out ?_)
  refine Lib.hid ?_
  obtain ⟨a1, c1, rfl⟩ := slice_Crs hc1
  have HB1 : Hid (Below w0.heap.size w0 w1) := hb1
  have HC1 : Hid (Crs w1 w1.heap.size (.slice a1 C.length c1) C) := hc1
  clear hb1 hc1
  go_wp2_with (go_at_call 14; refine (faces_no _ C loops _ HM.out HC1.out).mono ?_; rintro e9 w2 ⟨rfl, hb2⟩; refine Hid.out ?_)
  refine Lib.hid ?_
  have HX2 : Hid (Below w1.heap.size w1 w2) := hb2
  have HB2 : Hid (Below w0.heap.size w0 w2) := HB1.out.trans (hb2.mono HB1.out.size)
  clear hb2
  obtain ⟨p0, p1, p2⟩ := HF.out w2 HB2.out
  go_wp2_with (go_at_call 15; refine (diagramOf_any _ C loops _ HL.out (HCW.out _ HB2.out)).mono ?_; rintro e9 w3 ⟨v3, rfl, hc3, hb3⟩; refine Hid.out ?_)
  refine Lib.hid ?_
  obtain ⟨a3, c3, rfl⟩ := slice_Crs hc3
  have HX3 : Hid (Below w2.heap.size w2 w3) := hb3
  have HB3 : Hid (Below w0.heap.size w0 w3) := HB2.out.trans (hb3.mono HB2.out.size)
  have HC3 : Hid (Crs w3 w3.heap.size (.slice a3 C.length c3) C) := hc3
  clear hb3 hc3 p0 p1 p2
  go_wp2_with (go_at_call 16; refine (planar_no _ C loops _ HM.out HC3.out).mono ?_; rintro e9 w4 ⟨rfl, hb4⟩; refine Hid.out ?_)
  refine Lib.hid ?_
  have HX4 : Hid (Below w3.heap.size w3 w4) := hb4
  have HB4 : Hid (Below w0.heap.size w0 w4) := HB3.out.trans (hb4.mono HB3.out.size)
  clear hb4
  obtain ⟨p0, p1, p2⟩ := HF.out w4 HB4.out
  go_wp2_with (go_at_call 15; refine (diagramOf_any _ C loops _ HL.out (HCW.out _ HB4.out)).mono ?_; rintro e9 w5 ⟨v5, rfl, hc5, hb5⟩; refine Hid.out ?_)
  refine Lib.hid ?_
  obtain ⟨a5, c5, rfl⟩ := slice_Crs hc5
  have HX5 : Hid (Below w4.heap.size w4 w5) := hb5
  have HB5 : Hid (Below w0.heap.size w0 w5) := HB4.out.trans (hb5.mono HB4.out.size)
  have HC5 : Hid (Crs w5 w5.heap.size (.slice a5 C.length c5) C) := hc5
  clear hb5 hc5 p0 p1 p2
  go_wp2_with (go_at_call 17; refine (codeMay_any _ C loops _ HC5.out).mono ?_; rw [HM.out]; rintro e9 w6 ⟨rfl, hb6⟩; refine Hid.out ?_)
  refine Lib.hid ?_
  have HX6 : Hid (Below w5.heap.size w5 w6) := hb6
  have HB6 : Hid (Below w0.heap.size w0 w6) := HB5.out.trans (hb6.mono HB5.out.size)
  clear hb6
  obtain ⟨p0, p1, p2⟩ := HF.out w6 HB6.out
  go_wp2_with (go_at_call 18; refine (may17_any _ C loops _ (HCC.out _ HB6.out)).mono ?_; rw [HM.out]; rintro e9 w7 ⟨rfl, hb7⟩; refine Hid.out ?_)
  refine Lib.hid ?_
  have HX7 : Hid (Below w6.heap.size w6 w7) := hb7
  have HB7 : Hid (Below w0.heap.size w0 w7) := HB6.out.trans (hb7.mono HB6.out.size)
  clear hb7
  clear p0 p1 p2
  go_wp2
  go_ret
  exact ⟨rfl, HB0.out.trans (HB7.out.mono HB0.out.size)⟩

set_option maxHeartbeats 8000000 in
set_option maxRecDepth 100000 in
theorem codeFaces_yes (hFR : FaceRingsOk) (v : Value) (C : List Cr) (loops : Int) (w : World) (hl : C.length * 40 ≤ 140737488355328) (h : CrsW w w.heap.size v C) (hm : mayD C loops = true) :
    Calls Try.prog 3 #[.agg #[v, .int .i64 loops]] w fun e w' => e = .returned (.bool true) ∧ Below w.heap.size w w' := by
  have HFA : Hid FaceRingsOk := hFR
  obtain ⟨s16, -, -, -⟩ := sizeB_iff (may_size hm)
  obtain ⟨hfl, hfr⟩ := facesM_facts hm
  have HFR : Hid (∀ j, j < (facesM C).length → 0 < ((facesM C).getD j []).length ∧ ((facesM C).getD j []).length ≤ 4 * C.length + 1 ∧ ∀ k, k < ((facesM C).getD j []).length → 1 ≤ ((facesM C).getD j []).getD k 0 ∧ ((facesM C).getD j []).getD k 0 ≤ 4 * C.length) := hfr
  have HL : Hid (C.length * 40 ≤ 140737488355328) := hl
  have HM : Hid (mayD C loops = true) := hm
  obtain ⟨a, cap, rfl⟩ := slice_CrsW h
  obtain ⟨w0, hw0⟩ : ∃ w0, w0 = w.alloc (.cells #[.slice a C.length cap, .int .i64 loops] 24) := ⟨_, rfl⟩
  have HW0 : Hid (w0 = w.alloc (.cells #[.slice a C.length cap, .int .i64 loops] 24)) := hw0
  have hs0 : w0.heap.size = w.heap.size + 1 := by rw [hw0]; simp
  have HB0 : Hid (Below w.heap.size w w0) := (by rw [hw0]; exact (Below.refl _ _).alloc (Nat.le_refl _) _ : Below w.heap.size w w0)
  have HT0 : Hid (w0.heap[w.heap.size]? = some (.cells #[.slice a C.length cap, .int .i64 loops] 24 (0, 0))) := (by rw [hw0]; exact alloc_at rfl : w0.heap[w.heap.size]? = some (.cells #[.slice a C.length cap, .int .i64 loops] 24 (0, 0)))
  have HCW : Hid (∀ w', Below w0.heap.size w0 w' → CrsW w' w'.heap.size (.slice a C.length cap) C) := fun w' hb => (h.up HB0.out).up hb
  have HCC : Hid (∀ w', Below w0.heap.size w0 w' → Crs w' w'.heap.size (.slice a C.length cap) C) := fun w' hb => (HCW.out w' hb).crs (by have := HL.out; unfold maxLen; omega)
  have HF : Hid (∀ w', Below w0.heap.size w0 w' → w'.cell? ⟨w.heap.size, 0, none⟩ = some (.slice a C.length cap) ∧ w'.cell? ⟨w.heap.size, 1, none⟩ = some (.int .i64 loops) ∧ w.heap.size < w'.heap.size) := fun w' hw' => by
    have g0 := (hw'.block _ (by omega)).trans HT0.out
    exact ⟨block_cell g0 rfl, block_cell g0 rfl, (Array.getElem?_eq_some_iff.1 g0).1⟩
  clear hw0 h hl hm hFR hfr
  go_enter Try.func3, Try.ntmps3
  go_wp2_with (go_at_call 15; rw [← HW0.out]; refine (diagramOf_any _ C loops _ HL.out (HCW.out _ (Below.refl _ _))).mono ?_; rintro e9 w1 ⟨v1, rfl, hc1, hb1⟩; refine Hid.out ?_)
  refine Lib.hid ?_
  obtain ⟨a1, c1, rfl⟩ := slice_Crs hc1
  have HB1 : Hid (Below w0.heap.size w0 w1) := hb1
  have HC1 : Hid (Crs w1 w1.heap.size (.slice a1 C.length c1) C) := hc1
  clear hb1 hc1
  go_wp2_with (go_at_call 14; refine (faces_yes HFA.out _ C loops _ HM.out HC1.out).mono ?_; rintro e9 w2 ⟨rf, rfl, hrf, hb2⟩; refine Hid.out ?_)
  refine Lib.hid ?_
  obtain ⟨af, nf, cf, rfl⟩ : ∃ af nf cf, rf = .slice af nf cf := (by obtain ⟨ys, _, h2, _⟩ := hrf; obtain ⟨q1, q2, q3⟩ := own_capS h2; exact ⟨q1, _, q2, q3⟩)
  have HRF : Hid (DartsOwn w2 w1.heap.size (.slice af nf cf) (facesM C)) := hrf
  clear hrf
  have HX2 : Hid (Below w1.heap.size w1 w2) := hb2
  have HB2 : Hid (Below w0.heap.size w0 w2) := HB1.out.trans (hb2.mono HB1.out.size)
  clear hb2
  obtain ⟨p0, p1, p2⟩ := HF.out w2 HB2.out
  go_wp2_with (go_at_call 15; refine (diagramOf_any _ C loops _ HL.out (HCW.out _ HB2.out)).mono ?_; rintro e9 w3 ⟨v3, rfl, hc3, hb3⟩; refine Hid.out ?_)
  refine Lib.hid ?_
  obtain ⟨a3, c3, rfl⟩ := slice_Crs hc3
  have HX3 : Hid (Below w2.heap.size w2 w3) := hb3
  have HB3 : Hid (Below w0.heap.size w0 w3) := HB2.out.trans (hb3.mono HB2.out.size)
  have HC3 : Hid (Crs w3 w3.heap.size (.slice a3 C.length c3) C) := hc3
  clear hb3 hc3 p0 p1 p2
  go_wp2_with (go_at_call 16; refine (planar_yes HFA.out _ C loops _ HM.out HC3.out).mono ?_; rintro e9 w4 ⟨rfl, hb4⟩; refine Hid.out ?_)
  refine Lib.hid ?_
  have HX4 : Hid (Below w3.heap.size w3 w4) := hb4
  have HB4 : Hid (Below w0.heap.size w0 w4) := HB3.out.trans (hb4.mono HB3.out.size)
  clear hb4
  obtain ⟨p0, p1, p2⟩ := HF.out w4 HB4.out
  go_wp2_with (go_at_call 15; refine (diagramOf_any _ C loops _ HL.out (HCW.out _ HB4.out)).mono ?_; rintro e9 w5 ⟨v5, rfl, hc5, hb5⟩; refine Hid.out ?_)
  refine Lib.hid ?_
  obtain ⟨a5, c5, rfl⟩ := slice_Crs hc5
  have HX5 : Hid (Below w4.heap.size w4 w5) := hb5
  have HB5 : Hid (Below w0.heap.size w0 w5) := HB4.out.trans (hb5.mono HB4.out.size)
  have HC5 : Hid (Crs w5 w5.heap.size (.slice a5 C.length c5) C) := hc5
  clear hb5 hc5 p0 p1 p2
  go_wp2_with (go_at_call 17; refine (codeMay_any _ C loops _ HC5.out).mono ?_; rw [HM.out]; rintro e9 w6 ⟨rfl, hb6⟩; refine Hid.out ?_)
  refine Lib.hid ?_
  have HX6 : Hid (Below w5.heap.size w5 w6) := hb6
  have HB6 : Hid (Below w0.heap.size w0 w6) := HB5.out.trans (hb6.mono HB5.out.size)
  clear hb6
  obtain ⟨p0, p1, p2⟩ := HF.out w6 HB6.out
  go_wp2_with (go_at_call 18; refine (may17_any _ C loops _ (HCC.out _ HB6.out)).mono ?_; rw [HM.out]; rintro e9 w7 ⟨rfl, hb7⟩; refine Hid.out ?_)
  refine Lib.hid ?_
  have HX7 : Hid (Below w6.heap.size w6 w7) := hb7
  have HB7 : Hid (Below w0.heap.size w0 w7) := HB6.out.trans (hb7.mono HB6.out.size)
  clear hb7
  clear p0 p1 p2
  obtain ⟨p0, p1, p2⟩ := HF.out w7 HB7.out
  go_wp2_with (go_at_call 20; refine (facesOf_any a cap C loops _ HM.out (HCC.out _ HB7.out)).mono ?_; rintro e9 w8 ⟨rg, rfl, hrg, hb8⟩; refine Hid.out ?_)
  refine Lib.hid ?_
  have HX8 : Hid (Below w7.heap.size w7 w8) := hb8
  have HB8 : Hid (Below w0.heap.size w0 w8) := HB7.out.trans (hb8.mono HB7.out.size)
  have HRG : Hid (DartsOwn w8 w7.heap.size rg (facesM C)) := hrg
  have H28 : Hid (Below w2.heap.size w2 w8) := ((((((HX3.out.trans (HX4.out.mono HX3.out.size)).trans (HX5.out.mono (by have := HX3.out.size; have := HX4.out.size; omega))).trans (HX6.out.mono (by have := HX3.out.size; have := HX4.out.size; have := HX5.out.size; omega))).trans (HX7.out.mono (by have := HX3.out.size; have := HX4.out.size; have := HX5.out.size; have := HX6.out.size; omega))).trans (HX8.out.mono (by have := HX3.out.size; have := HX4.out.size; have := HX5.out.size; have := HX6.out.size; have := HX7.out.size; omega))))
  have HV1 : Hid (VsAt w8 (.slice af nf cf) ((facesM C).map dd)) := HRF.out.vs.on H28.out
  have HV2 : Hid (VsAt w8 rg ((facesM C).map dd)) := HRG.out.vs
  have HSD : Hid (∀ W, Below w8.heap.size w8 W → Calls Try.prog 19 #[.slice af nf cf, rg] W fun e w' => e = .returned (.bool true) ∧ Below W.heap.size W w') := fun W hW =>
    sameDarts_eq _ _ ((facesM C).map dd) W (by simp; omega) (fun j hj => by
      have hj' : j < (facesM C).length := by simpa using hj
      have e : ((facesM C).map dd).getD j [] = dd ((facesM C).getD j []) := by simp [List.getD_eq_getElem?_getD, hj']
      rw [e, dd_len]
      have := (HFR.out j hj').2.1
      omega) (HV1.out.on hW) (HV2.out.on hW)
  clear hb8 hrg p0 p1 p2
  go_wp2_with (go_at_call 19; refine (HSD.out _ (Below.refl _ _)).mono ?_; rintro e9 w9 ⟨rfl, hb9⟩; refine Hid.out ?_)
  refine Lib.hid ?_
  have HB9 : Hid (Below w0.heap.size w0 w9) := HB8.out.trans (hb9.mono HB8.out.size)
  clear hb9
  obtain ⟨p0, p1, p2⟩ := HF.out w9 HB9.out
  go_wp2_with (go_at_call 21; refine (planarIs_any a cap C loops _ HM.out (HCC.out _ HB9.out)).mono ?_; rintro e9 w10 ⟨rfl, hb10⟩; refine Hid.out ?_)
  refine Lib.hid ?_
  have HB10 : Hid (Below w0.heap.size w0 w10) := HB9.out.trans (hb10.mono HB9.out.size)
  clear hb10 p0 p1 p2
  generalize planarB C = pb
  go_wp2
  go_ret
  exact ⟨by simp, HB0.out.trans (HB10.out.mono HB0.out.size)⟩

theorem codeFaces_any (hFR : FaceRingsOk) (v : Value) (C : List Cr) (loops : Int) (w : World) (hl : C.length * 40 ≤ 140737488355328) (h : CrsW w w.heap.size v C) :
    Calls Try.prog 3 #[.agg #[v, .int .i64 loops]] w fun e w' => e = .returned (.bool true) ∧ Below w.heap.size w w' := by
  cases hm : mayD C loops with
  | false => exact codeFaces_no v C loops w hl h hm
  | true => exact codeFaces_yes hFR v C loops w hl h hm
end Go.Proofs.Ytnmgeegmiijflaa
