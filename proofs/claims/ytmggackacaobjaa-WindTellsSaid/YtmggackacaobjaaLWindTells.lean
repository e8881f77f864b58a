/- The law WindTells: its walk, the rings of FaceRings being given. -/
import Derived.Test.YtmggackacaobjaaX6
namespace Go.Proofs.Ytmggackacaobjaa
open Go.RowKit

theorem slice_CrsW {w : World} {B : Nat} {v : Value} {C : List Cr} (h : CrsW w B v C) : ∃ a cap, v = .slice a C.length cap := by
  rcases h with ⟨rfl, rfl⟩ | ⟨ad, cap, rfl, rfl⟩ | ⟨b, off, cap, rfl, -, -⟩
  · exact ⟨_, _, rfl⟩
  · exact ⟨_, _, rfl⟩
  · exact ⟨_, _, rfl⟩
theorem slice_Crs {w : World} {B : Nat} {v : Value} {C : List Cr} (h : Crs w B v C) : ∃ a cap, v = .slice a C.length cap := by
  obtain ⟨a, cap, rfl, -, -⟩ := h
  exact ⟨a, cap, rfl⟩
theorem lkL_small {C : List Cr} {loops : Int} (hm : mayD C loops = true) : (lkL C).length ≤ 100 ∧ ∀ j, j < (lkL C).length → ((lkL C).getD j []).length ≤ 100 := by
  obtain ⟨s1, -, -, -⟩ := sizeB_iff (may_size hm)
  have h1 : (walksM C).length ≤ 2 * C.length := walksTo_count _ _ _
  refine ⟨by simp [lkL]; omega, fun j hj => ?_⟩
  have hj' : j < (walksM C).length := by simpa [lkL] using hj
  have e : (lkL C).getD j [] = mapI (walksM C).length fun y => hf j y (lkM C j y C.length) := by simp [lkL, List.getD, hj']
  rw [e, mapI_len]
  omega
theorem ciL_small {C : List Cr} {loops : Int} (hm : mayD C loops = true) : (ciL C).length ≤ 100 ∧ ∀ j, j < (ciL C).length → ((ciL C).getD j []).length ≤ 100 := by
  obtain ⟨s1, -, -, -⟩ := sizeB_iff (may_size hm)
  have h1 : (circM C).length ≤ 2 * C.length := walksTo_count _ _ _
  refine ⟨by simp [ciL]; omega, fun j hj => ?_⟩
  have hj' : j < (circM C).length := by simpa [ciL] using hj
  have e : (ciL C).getD j [] = ((circM C).getD j []).map fun (x : Nat) => (x : Int) := by simp [ciL, List.getD, hj']
  have hmem : (circM C).getD j [] ∈ circM C := by rw [List.getD_eq_getElem?_getD, List.getElem?_eq_getElem hj']; exact List.getElem_mem hj'
  have h2 := (walksTo_mem (sx_closed hm) (2 * C.length) (Nat.le_refl _) _ hmem).2.1
  rw [e, List.length_map]
  omega

set_option maxHeartbeats 8000000 in
set_option maxRecDepth 100000 in
theorem windTells_no (hFR : FaceRingsOk) (v : Value) (C : List Cr) (loops : Int) (w : World) (hl : C.length * 40 ≤ 140737488355328) (h : CrsW w w.heap.size v C) (hn : noN C loops ≠ 0) :
    Calls Try.prog 17 #[.agg #[v, .int .i64 loops]] w fun e w' => e = .returned (.bool true) ∧ Below w.heap.size w w' := by
  have HFA : Hid FaceRingsOk := hFR
  have HL : Hid (C.length * 40 ≤ 140737488355328) := hl
  have HN : Hid (noN C loops ≠ 0) := hn
  obtain ⟨r, hr⟩ : ∃ r, noN C loops = r := ⟨_, rfl⟩
  have HR : Hid (noN C loops = r) := hr
  rw [hr] at hn
  have hr0 : (r == 0) = false := beq_eq_false_iff_ne.2 hn
  have hrr : (r == r) = true := beq_self_eq_true r
  clear hr
  obtain ⟨a, cap, rfl⟩ := slice_CrsW h
  obtain ⟨w0, hw0⟩ : ∃ w0, w0 = w.alloc (.cells #[.slice a C.length cap, .int .i64 loops] 24) := ⟨_, rfl⟩
  have HW0 : Hid (w0 = w.alloc (.cells #[.slice a C.length cap, .int .i64 loops] 24)) := hw0
  have hs0 : w0.heap.size = w.heap.size + 1 := by rw [hw0]; simp
  have HB0 : Hid (Below w.heap.size w w0) := (by rw [hw0]; exact (Below.refl _ _).alloc (Nat.le_refl _) _ : Below w.heap.size w w0)
  have HT0 : Hid (w0.heap[w.heap.size]? = some (.cells #[.slice a C.length cap, .int .i64 loops] 24 (0, 0))) := (by rw [hw0]; exact alloc_at rfl : w0.heap[w.heap.size]? = some (.cells #[.slice a C.length cap, .int .i64 loops] 24 (0, 0)))
  have HCW : Hid (∀ w', Below w0.heap.size w0 w' → CrsW w' w'.heap.size (.slice a C.length cap) C) := fun w' hb => (h.up HB0.out).up hb
  have HCC : Hid (∀ w', Below w0.heap.size w0 w' → Crs w' w'.heap.size (.slice a C.length cap) C) := fun w' hb => (HCW.out w' hb).crs (by have := HL.out; unfold maxLen; omega)
  have HF : Hid (∀ w', Below w0.heap.size w0 w' → w'.cell? ⟨w.heap.size, 0, none⟩ = some (.slice a C.length cap) ∧ w'.cell? ⟨w.heap.size, 1, none⟩ = some (.int .i64 loops) ∧ w.heap.size < w'.heap.size) := fun w' hw' => by
    have g0 := (hw'.block _ (by omega)).trans HT0.out
    exact ⟨block_cell g0 rfl, block_cell g0 rfl, (Array.getElem?_eq_some_iff.1 g0).1⟩
  clear hw0 h hl hFR
  go_enter Try.func17, Try.ntmps17
  go_wp2_with (go_at_call 20; rw [← HW0.out]; refine (diagramOf_any _ C loops _ HL.out (HCW.out _ (Below.refl _ _))).mono ?_; rintro e9 w1 ⟨v1, rfl, hc1, hb1⟩; refine Hid.out ?_)
  refine Lib.hid ?_
  obtain ⟨a1, c1, rfl⟩ := slice_Crs hc1
  have HB1 : Hid (Below w0.heap.size w0 w1) := hb1
  have HC1 : Hid (Crs w1 w1.heap.size (.slice a1 C.length c1) C) := hc1
  clear hb1 hc1
  go_wp2_with (go_at_call 55; refine (writhe_no HFA.out _ C loops _ HN.out HC1.out).mono ?_; rw [HR.out]; rintro e9 w2 ⟨rfl, hb2⟩; refine Hid.out ?_)
  refine Lib.hid ?_
  have HB2 : Hid (Below w0.heap.size w0 w2) := HB1.out.trans (hb2.mono HB1.out.size)
  clear hb2
  obtain ⟨p0, p1, p2⟩ := HF.out w2 HB2.out
  go_wp2_with (go_at_call 20; refine (diagramOf_any _ C loops _ HL.out (HCW.out _ HB2.out)).mono ?_; rintro e9 w3 ⟨v3, rfl, hc3, hb3⟩; refine Hid.out ?_)
  refine Lib.hid ?_
  obtain ⟨a3, c3, rfl⟩ := slice_Crs hc3
  have HX3 : Hid (Below w2.heap.size w2 w3) := hb3
  have HB3 : Hid (Below w0.heap.size w0 w3) := HB2.out.trans (hb3.mono HB2.out.size)
  have HC3 : Hid (Crs w3 w3.heap.size (.slice a3 C.length c3) C) := hc3
  clear hb3 hc3 p0 p1 p2
  go_wp2_with (go_at_call 56; refine (linking_no HFA.out _ C loops _ HN.out HC3.out).mono ?_; rw [HR.out]; rintro e9 w4 ⟨rfl, hb4⟩; refine Hid.out ?_)
  refine Lib.hid ?_
  have HB4 : Hid (Below w0.heap.size w0 w4) := HB3.out.trans (hb4.mono HB3.out.size)
  clear hb4
  obtain ⟨p0, p1, p2⟩ := HF.out w4 HB4.out
  go_wp2_with (go_at_call 20; refine (diagramOf_any _ C loops _ HL.out (HCW.out _ HB4.out)).mono ?_; rintro e9 w5 ⟨v5, rfl, hc5, hb5⟩; refine Hid.out ?_)
  refine Lib.hid ?_
  obtain ⟨a5, c5, rfl⟩ := slice_Crs hc5
  have HX5 : Hid (Below w4.heap.size w4 w5) := hb5
  have HB5 : Hid (Below w0.heap.size w0 w5) := HB4.out.trans (hb5.mono HB4.out.size)
  have HC5 : Hid (Crs w5 w5.heap.size (.slice a5 C.length c5) C) := hc5
  clear hb5 hc5 p0 p1 p2
  go_wp2_with (go_at_call 57; refine (circles_no HFA.out _ C loops _ HN.out HC5.out).mono ?_; rw [HR.out]; rintro e9 w6 ⟨rfl, hb6⟩; refine Hid.out ?_)
  refine Lib.hid ?_
  have HB6 : Hid (Below w0.heap.size w0 w6) := HB5.out.trans (hb6.mono HB5.out.size)
  clear hb6
  obtain ⟨p0, p1, p2⟩ := HF.out w6 HB6.out
  go_wp2_with (go_at_call 58; refine (planarMay_any _ C loops _ (HCC.out _ HB6.out)).mono ?_; rw [HR.out]; rintro e9 w7 ⟨rfl, hb7⟩; refine Hid.out ?_)
  refine Lib.hid ?_
  have HX7 : Hid (Below w6.heap.size w6 w7) := hb7
  have HB7 : Hid (Below w0.heap.size w0 w7) := HB6.out.trans (hb7.mono HB6.out.size)
  clear hb7 p0 p1 p2
  obtain ⟨p0, p1, p2⟩ := HF.out w7 HB7.out
  go_wp2
  go_ret
  exact ⟨by first | rfl | simp, HB0.out.trans (HB7.out.mono HB0.out.size)⟩

set_option maxHeartbeats 8000000 in
set_option maxRecDepth 100000 in
theorem windTells_yes (hFR : FaceRingsOk) (v : Value) (C : List Cr) (loops : Int) (w : World) (hl : C.length * 40 ≤ 140737488355328) (h : CrsW w w.heap.size v C) (hn : noN C loops = 0) :
    Calls Try.prog 17 #[.agg #[v, .int .i64 loops]] w fun e w' => e = .returned (.bool true) ∧ Below w.heap.size w w' := by
  have HFA : Hid FaceRingsOk := hFR
  have HL : Hid (C.length * 40 ≤ 140737488355328) := hl
  have HN : Hid (noN C loops = 0) := hn
  have HM : Hid (mayD C loops = true) := (noN_zero hn).1
  obtain ⟨wr, hwr⟩ : ∃ wr, wrM C C.length = wr := ⟨_, rfl⟩
  have HWR : Hid (wrM C C.length = wr) := hwr
  have hww : (wr == wr) = true := beq_self_eq_true wr
  clear hwr hn
  obtain ⟨a, cap, rfl⟩ := slice_CrsW h
  obtain ⟨w0, hw0⟩ : ∃ w0, w0 = w.alloc (.cells #[.slice a C.length cap, .int .i64 loops] 24) := ⟨_, rfl⟩
  have HW0 : Hid (w0 = w.alloc (.cells #[.slice a C.length cap, .int .i64 loops] 24)) := hw0
  have hs0 : w0.heap.size = w.heap.size + 1 := by rw [hw0]; simp
  have HB0 : Hid (Below w.heap.size w w0) := (by rw [hw0]; exact (Below.refl _ _).alloc (Nat.le_refl _) _ : Below w.heap.size w w0)
  have HT0 : Hid (w0.heap[w.heap.size]? = some (.cells #[.slice a C.length cap, .int .i64 loops] 24 (0, 0))) := (by rw [hw0]; exact alloc_at rfl : w0.heap[w.heap.size]? = some (.cells #[.slice a C.length cap, .int .i64 loops] 24 (0, 0)))
  have HCW : Hid (∀ w', Below w0.heap.size w0 w' → CrsW w' w'.heap.size (.slice a C.length cap) C) := fun w' hb => (h.up HB0.out).up hb
  have HCC : Hid (∀ w', Below w0.heap.size w0 w' → Crs w' w'.heap.size (.slice a C.length cap) C) := fun w' hb => (HCW.out w' hb).crs (by have := HL.out; unfold maxLen; omega)
  have HF : Hid (∀ w', Below w0.heap.size w0 w' → w'.cell? ⟨w.heap.size, 0, none⟩ = some (.slice a C.length cap) ∧ w'.cell? ⟨w.heap.size, 1, none⟩ = some (.int .i64 loops) ∧ w.heap.size < w'.heap.size) := fun w' hw' => by
    have g0 := (hw'.block _ (by omega)).trans HT0.out
    exact ⟨block_cell g0 rfl, block_cell g0 rfl, (Array.getElem?_eq_some_iff.1 g0).1⟩
  clear hw0 h hl hFR
  go_enter Try.func17, Try.ntmps17
  go_wp2_with (go_at_call 20; rw [← HW0.out]; refine (diagramOf_any _ C loops _ HL.out (HCW.out _ (Below.refl _ _))).mono ?_; rintro e9 w1 ⟨v1, rfl, hc1, hb1⟩; refine Hid.out ?_)
  refine Lib.hid ?_
  obtain ⟨a1, c1, rfl⟩ := slice_Crs hc1
  have HB1 : Hid (Below w0.heap.size w0 w1) := hb1
  have HC1 : Hid (Crs w1 w1.heap.size (.slice a1 C.length c1) C) := hc1
  clear hb1 hc1
  go_wp2_with (go_at_call 55; refine (writhe_yes HFA.out _ C loops _ HN.out HC1.out).mono ?_; rw [HWR.out]; rintro e9 w2 ⟨rfl, hb2⟩; refine Hid.out ?_)
  refine Lib.hid ?_
  have HB2 : Hid (Below w0.heap.size w0 w2) := HB1.out.trans (hb2.mono HB1.out.size)
  clear hb2
  obtain ⟨p0, p1, p2⟩ := HF.out w2 HB2.out
  go_wp2_with (go_at_call 20; refine (diagramOf_any _ C loops _ HL.out (HCW.out _ HB2.out)).mono ?_; rintro e9 w3 ⟨v3, rfl, hc3, hb3⟩; refine Hid.out ?_)
  refine Lib.hid ?_
  obtain ⟨a3, c3, rfl⟩ := slice_Crs hc3
  have HX3 : Hid (Below w2.heap.size w2 w3) := hb3
  have HB3 : Hid (Below w0.heap.size w0 w3) := HB2.out.trans (hb3.mono HB2.out.size)
  have HC3 : Hid (Crs w3 w3.heap.size (.slice a3 C.length c3) C) := hc3
  clear hb3 hc3 p0 p1 p2
  go_wp2_with (go_at_call 56; refine (linking_yes HFA.out _ C loops _ HN.out HC3.out).mono ?_; rintro e9 w4 ⟨vr, rfl, hr4, hb4⟩; refine Hid.out ?_)
  refine Lib.hid ?_
  obtain ⟨ra4, rc4, er⟩ := hr4.len
  subst er
  have HRD4 : Hid (IntsRd w4 w4.heap.size (.slice ra4 (lkL C).length rc4) (lkL C)) := hr4
  clear hr4
  have HB4 : Hid (Below w0.heap.size w0 w4) := HB3.out.trans (hb4.mono HB3.out.size)
  clear hb4
  obtain ⟨p0, p1, p2⟩ := HF.out w4 HB4.out
  go_wp2_with (go_at_call 20; refine (diagramOf_any _ C loops _ HL.out (HCW.out _ HB4.out)).mono ?_; rintro e9 w5 ⟨v5, rfl, hc5, hb5⟩; refine Hid.out ?_)
  refine Lib.hid ?_
  obtain ⟨a5, c5, rfl⟩ := slice_Crs hc5
  have HX5 : Hid (Below w4.heap.size w4 w5) := hb5
  have HB5 : Hid (Below w0.heap.size w0 w5) := HB4.out.trans (hb5.mono HB4.out.size)
  have HC5 : Hid (Crs w5 w5.heap.size (.slice a5 C.length c5) C) := hc5
  clear hb5 hc5 p0 p1 p2
  go_wp2_with (go_at_call 57; refine (circles_yes HFA.out _ C loops _ HN.out HC5.out).mono ?_; rintro e9 w6 ⟨vr, rfl, hr6, hb6⟩; refine Hid.out ?_)
  refine Lib.hid ?_
  obtain ⟨ra6, rc6, er⟩ := hr6.len
  subst er
  have HX6 : Hid (Below w5.heap.size w5 w6) := hb6
  have HRD6 : Hid (IntsRd w6 w6.heap.size (.slice ra6 (ciL C).length rc6) (ciL C)) := hr6
  clear hr6
  have HB6 : Hid (Below w0.heap.size w0 w6) := HB5.out.trans (hb6.mono HB5.out.size)
  clear hb6
  obtain ⟨p0, p1, p2⟩ := HF.out w6 HB6.out
  go_wp2_with (go_at_call 58; refine (planarMay_any _ C loops _ (HCC.out _ HB6.out)).mono ?_; rw [HN.out]; rintro e9 w7 ⟨rfl, hb7⟩; refine Hid.out ?_)
  refine Lib.hid ?_
  have HX7 : Hid (Below w6.heap.size w6 w7) := hb7
  have HB7 : Hid (Below w0.heap.size w0 w7) := HB6.out.trans (hb7.mono HB6.out.size)
  clear hb7 p0 p1 p2
  obtain ⟨p0, p1, p2⟩ := HF.out w7 HB7.out
  have HR4 : Hid (∀ w', Below w7.heap.size w7 w' → IntsRd w' w'.heap.size (.slice ra4 (lkL C).length rc4) (lkL C)) := fun w' hb => ((((HRD4.out.up HX5.out).up HX6.out).up HX7.out).up hb)
  have HR6 : Hid (∀ w', Below w7.heap.size w7 w' → IntsRd w' w'.heap.size (.slice ra6 (ciL C).length rc6) (ciL C)) := fun w' hb => (HRD6.out.up HX7.out).up hb
  have HBW : Hid (∀ w', Below w7.heap.size w7 w' → Below w0.heap.size w0 w') := fun w' hb => HB7.out.trans (hb.mono HB7.out.size)
  go_wp2_with (go_at_call 59; refine (writheOf_any _ C loops _ HM.out (HCC.out _ HB7.out)).mono ?_; rw [HWR.out]; rintro e9 w8 ⟨rfl, hb8⟩; refine Hid.out ?_)
  refine Lib.hid ?_
  have HY8 : Hid (Below w7.heap.size w7 w8) := hb8
  clear hb8 p0 p1 p2
  obtain ⟨p0, p1, p2⟩ := HF.out w8 (HBW.out _ HY8.out)
  go_wp2_with (go_at_call 61; refine (linkingOf_any a cap C loops _ HM.out (HCC.out _ (HBW.out _ HY8.out))).mono ?_; rintro e9 w9 ⟨vl, rfl, hvl, hb9⟩; refine Hid.out ?_)
  refine Lib.hid ?_
  have hrd9 := hvl.rd
  have HL9 : Hid (IntsRd w9 w9.heap.size vl (lkL C)) := hrd9
  obtain ⟨la, lc, el⟩ := hrd9.len
  subst el
  have HY9 : Hid (Below w7.heap.size w7 w9) := HY8.out.trans (hb9.mono HY8.out.size)
  clear hb9 hvl hrd9 p0 p1 p2
  obtain ⟨p0, p1, p2⟩ := HF.out w9 (HBW.out _ HY9.out)
  obtain ⟨sl1, sl2⟩ := lkL_small HM.out
  have HS2 : Hid (∀ j, j < (lkL C).length → ((lkL C).getD j []).length ≤ 100) := sl2
  obtain ⟨sc1, sc2⟩ := ciL_small HM.out
  have HS3 : Hid (∀ j, j < (ciL C).length → ((ciL C).getD j []).length ≤ 100) := sc2
  clear sl2 sc2
  go_wp2_with (go_at_call 60; refine (sameTables_eq _ _ (lkL C) _ sl1 HS2.out (HR4.out _ HY9.out) HL9.out).mono ?_; rintro e9 wA ⟨rfl, hbA⟩; refine Hid.out ?_)
  refine Lib.hid ?_
  have HYA : Hid (Below w7.heap.size w7 wA) := HY9.out.trans (hbA.mono HY9.out.size)
  clear hbA p0 p1 p2
  obtain ⟨p0, p1, p2⟩ := HF.out wA (HBW.out _ HYA.out)
  go_wp2_with (go_at_call 62; refine (circlesOf_any a cap C loops _ HM.out (HCC.out _ (HBW.out _ HYA.out))).mono ?_; rintro e9 wB ⟨vc, rfl, hvc, hbB⟩; refine Hid.out ?_)
  refine Lib.hid ?_
  have hrdB : IntsRd wB wB.heap.size vc (ciL C) := hvc.rd.ints
  have HLB : Hid (IntsRd wB wB.heap.size vc (ciL C)) := hrdB
  obtain ⟨ca, cc, ec⟩ := hrdB.len
  subst ec
  have HYB : Hid (Below w7.heap.size w7 wB) := HYA.out.trans (hbB.mono HYA.out.size)
  clear hbB hvc hrdB p0 p1 p2
  go_wp2_with (go_at_call 60; refine (sameTables_eq _ _ (ciL C) _ sc1 HS3.out (HR6.out _ HYB.out) HLB.out).mono ?_; rintro e9 wC ⟨rfl, hbC⟩; refine Hid.out ?_)
  refine Lib.hid ?_
  have HYC : Hid (Below w7.heap.size w7 wC) := HYB.out.trans (hbC.mono HYB.out.size)
  clear hbC
  go_wp2
  go_ret
  exact ⟨by first | rfl | simp, HB0.out.trans ((HBW.out _ HYC.out).mono HB0.out.size)⟩

theorem windTells_any (hFR : FaceRingsOk) (v : Value) (C : List Cr) (loops : Int) (w : World) (hl : C.length * 40 ≤ 140737488355328) (h : CrsW w w.heap.size v C) :
    Calls Try.prog 17 #[.agg #[v, .int .i64 loops]] w fun e w' => e = .returned (.bool true) ∧ Below w.heap.size w w' := by
  by_cases hn : noN C loops = 0
  · exact windTells_yes hFR v C loops w hl h hn
  · exact windTells_no hFR v C loops w hl h hn
end Go.Proofs.Ytmggackacaobjaa
