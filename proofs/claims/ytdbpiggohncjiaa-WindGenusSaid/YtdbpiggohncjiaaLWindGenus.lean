/- The law WindGenus: its walk, the rings of FaceRings being given. -/
import Derived.Test.YtdbpiggohncjiaaV6
import Derived.Test.YtdbpiggohncjiaaLGaussTells
namespace Go.Proofs.Ytdbpiggohncjiaa
open Go.RowKit

set_option maxHeartbeats 4000000 in
set_option maxRecDepth 100000 in
theorem windGenus_no (hFR : FaceRingsOk) (v : Value) (C : List Cr) (loops : Int) (w : World) (hl : C.length * 40 ≤ 140737488355328) (h : CrsW w w.heap.size v C) (hn : noN C loops ≠ 0) :
    Calls Try.prog 14 #[.agg #[v, .int .i64 loops]] w fun e w' => e = .returned (.bool true) ∧ Below w.heap.size w w' := by
  have HFA : Hid FaceRingsOk := hFR
  have HL : Hid (C.length * 40 ≤ 140737488355328) := hl
  have HN : Hid (noN C loops ≠ 0) := hn
  obtain ⟨r, hr⟩ : ∃ r, noN C loops = r := ⟨_, rfl⟩
  have HR : Hid (noN C loops = r) := hr
  rw [hr] at hn
  have hr0 : (r == 0) = false := beq_eq_false_iff_ne.2 hn
  have hrr : (r == r) = true := beq_self_eq_true r
  clear hr
  obtain ⟨a, cap, rfl⟩ := slice_CrsW h
  obtain ⟨w0, hw0⟩ : ∃ w0, w0 = w.alloc (.cells #[.slice a C.length cap, .int .i64 loops] 35) := ⟨_, rfl⟩
  have HW0 : Hid (w0 = w.alloc (.cells #[.slice a C.length cap, .int .i64 loops] 35)) := hw0
  have hs0 : w0.heap.size = w.heap.size + 1 := by rw [hw0]; simp
  have HB0 : Hid (Below w.heap.size w w0) := (by rw [hw0]; exact (Below.refl _ _).alloc (Nat.le_refl _) _ : Below w.heap.size w w0)
  have HT0 : Hid (w0.heap[w.heap.size]? = some (.cells #[.slice a C.length cap, .int .i64 loops] 35 (0, 0))) := (by rw [hw0]; exact alloc_at rfl : w0.heap[w.heap.size]? = some (.cells #[.slice a C.length cap, .int .i64 loops] 35 (0, 0)))
  have HCW : Hid (∀ w', Below w0.heap.size w0 w' → CrsW w' w'.heap.size (.slice a C.length cap) C) := fun w' hb => (h.up HB0.out).up hb
  have HCC : Hid (∀ w', Below w0.heap.size w0 w' → Crs w' w'.heap.size (.slice a C.length cap) C) := fun w' hb => (HCW.out w' hb).crs (by have := HL.out; unfold maxLen; omega)
  have HF : Hid (∀ w', Below w0.heap.size w0 w' → w'.cell? ⟨w.heap.size, 0, none⟩ = some (.slice a C.length cap) ∧ w'.cell? ⟨w.heap.size, 1, none⟩ = some (.int .i64 loops) ∧ w.heap.size < w'.heap.size) := fun w' hw' => by
    have g0 := (hw'.block _ (by omega)).trans HT0.out
    exact ⟨block_cell g0 rfl, block_cell g0 rfl, (Array.getElem?_eq_some_iff.1 g0).1⟩
  clear hw0 h hl hFR
  go_enter Try.func14, Try.ntmps14
  go_wp2_with (go_at_call 33; rw [← HW0.out]; refine (diagramOf_any _ C loops _ HL.out (HCW.out _ (Below.refl _ _))).mono ?_; rintro e9 w1 ⟨v1, rfl, hc1, hb1⟩; refine Hid.out ?_)
  refine Lib.hid ?_
  obtain ⟨a1, c1, rfl⟩ := slice_Crs hc1
  have HB1 : Hid (Below w0.heap.size w0 w1) := hb1
  have HC1 : Hid (Crs w1 w1.heap.size (.slice a1 C.length c1) C) := hc1
  clear hb1 hc1
  go_wp2_with (go_at_call 51; refine (genus_no HFA.out _ C loops _ HN.out HC1.out).mono ?_; rw [HR.out]; rintro e9 w2 ⟨rfl, hb2⟩; refine Hid.out ?_)
  refine Lib.hid ?_
  have HB2 : Hid (Below w0.heap.size w0 w2) := HB1.out.trans (hb2.mono HB1.out.size)
  clear hb2
  obtain ⟨p0, p1, p2⟩ := HF.out w2 HB2.out
  go_wp2_with (go_at_call 52; refine (planarMay_any _ C loops _ (HCC.out _ HB2.out)).mono ?_; rw [HR.out]; rintro e9 w3 ⟨rfl, hb3⟩; refine Hid.out ?_)
  refine Lib.hid ?_
  have HB3 : Hid (Below w0.heap.size w0 w3) := HB2.out.trans (hb3.mono HB2.out.size)
  clear hb3 p0 p1 p2
  obtain ⟨p0, p1, p2⟩ := HF.out w3 HB3.out
  go_wp2
  go_ret
  exact ⟨by first | rfl | simp, HB0.out.trans (HB3.out.mono HB0.out.size)⟩

set_option maxHeartbeats 4000000 in
set_option maxRecDepth 100000 in
theorem windGenus_kind (hFR : FaceRingsOk) (v : Value) (C : List Cr) (loops : Int) (w : World) (hl : C.length * 40 ≤ 140737488355328) (h : CrsW w w.heap.size v C) (hn : noN C loops = 0) (ho : oneB C loops = false) :
    Calls Try.prog 14 #[.agg #[v, .int .i64 loops]] w fun e w' => e = .returned (.bool true) ∧ Below w.heap.size w w' := by
  have HFA : Hid FaceRingsOk := hFR
  have HL : Hid (C.length * 40 ≤ 140737488355328) := hl
  have HN : Hid (noN C loops = 0) := hn
  have HM : Hid (mayD C loops = true) := (noN_zero hn).1
  have HO : Hid (oneB C loops = false) := ho
  clear hn ho
  obtain ⟨a, cap, rfl⟩ := slice_CrsW h
  obtain ⟨w0, hw0⟩ : ∃ w0, w0 = w.alloc (.cells #[.slice a C.length cap, .int .i64 loops] 35) := ⟨_, rfl⟩
  have HW0 : Hid (w0 = w.alloc (.cells #[.slice a C.length cap, .int .i64 loops] 35)) := hw0
  have hs0 : w0.heap.size = w.heap.size + 1 := by rw [hw0]; simp
  have HB0 : Hid (Below w.heap.size w w0) := (by rw [hw0]; exact (Below.refl _ _).alloc (Nat.le_refl _) _ : Below w.heap.size w w0)
  have HT0 : Hid (w0.heap[w.heap.size]? = some (.cells #[.slice a C.length cap, .int .i64 loops] 35 (0, 0))) := (by rw [hw0]; exact alloc_at rfl : w0.heap[w.heap.size]? = some (.cells #[.slice a C.length cap, .int .i64 loops] 35 (0, 0)))
  have HCW : Hid (∀ w', Below w0.heap.size w0 w' → CrsW w' w'.heap.size (.slice a C.length cap) C) := fun w' hb => (h.up HB0.out).up hb
  have HCC : Hid (∀ w', Below w0.heap.size w0 w' → Crs w' w'.heap.size (.slice a C.length cap) C) := fun w' hb => (HCW.out w' hb).crs (by have := HL.out; unfold maxLen; omega)
  have HF : Hid (∀ w', Below w0.heap.size w0 w' → w'.cell? ⟨w.heap.size, 0, none⟩ = some (.slice a C.length cap) ∧ w'.cell? ⟨w.heap.size, 1, none⟩ = some (.int .i64 loops) ∧ w.heap.size < w'.heap.size) := fun w' hw' => by
    have g0 := (hw'.block _ (by omega)).trans HT0.out
    exact ⟨block_cell g0 rfl, block_cell g0 rfl, (Array.getElem?_eq_some_iff.1 g0).1⟩
  clear hw0 h hl hFR
  go_enter Try.func14, Try.ntmps14
  go_wp2_with (go_at_call 33; rw [← HW0.out]; refine (diagramOf_any _ C loops _ HL.out (HCW.out _ (Below.refl _ _))).mono ?_; rintro e9 w1 ⟨v1, rfl, hc1, hb1⟩; refine Hid.out ?_)
  refine Lib.hid ?_
  obtain ⟨a1, c1, rfl⟩ := slice_Crs hc1
  have HB1 : Hid (Below w0.heap.size w0 w1) := hb1
  have HC1 : Hid (Crs w1 w1.heap.size (.slice a1 C.length c1) C) := hc1
  clear hb1 hc1
  go_wp2_with (go_at_call 51; refine (genus_some HFA.out _ C loops _ HN.out HC1.out).mono ?_; rw [HO.out, if_neg (by simp)]; rintro e9 w2 ⟨rfl, hb2⟩; refine Hid.out ?_)
  refine Lib.hid ?_
  have HB2 : Hid (Below w0.heap.size w0 w2) := HB1.out.trans (hb2.mono HB1.out.size)
  clear hb2
  obtain ⟨p0, p1, p2⟩ := HF.out w2 HB2.out
  go_wp2_with (go_at_call 52; refine (planarMay_any _ C loops _ (HCC.out _ HB2.out)).mono ?_; rw [HN.out]; rintro e9 w3 ⟨rfl, hb3⟩; refine Hid.out ?_)
  refine Lib.hid ?_
  have HB3 : Hid (Below w0.heap.size w0 w3) := HB2.out.trans (hb3.mono HB2.out.size)
  clear hb3 p0 p1 p2
  obtain ⟨p0, p1, p2⟩ := HF.out w3 HB3.out
  go_wp2_with (go_at_call 53; refine (onePiece_any _ C loops _ HM.out (HCC.out _ HB3.out)).mono ?_; rw [HO.out]; rintro e9 w4 ⟨rfl, hb4⟩; refine Hid.out ?_)
  refine Lib.hid ?_
  have HB4 : Hid (Below w0.heap.size w0 w4) := HB3.out.trans (hb4.mono HB3.out.size)
  clear hb4 p0 p1 p2
  obtain ⟨p0, p1, p2⟩ := HF.out w4 HB4.out
  go_wp2
  go_ret
  exact ⟨by first | rfl | simp, HB0.out.trans (HB4.out.mono HB0.out.size)⟩

set_option maxHeartbeats 4000000 in
set_option maxRecDepth 100000 in
theorem windGenus_yes (hFR : FaceRingsOk) (v : Value) (C : List Cr) (loops : Int) (w : World) (hl : C.length * 40 ≤ 140737488355328) (h : CrsW w w.heap.size v C) (hn : noN C loops = 0) (ho : oneB C loops = true) :
    Calls Try.prog 14 #[.agg #[v, .int .i64 loops]] w fun e w' => e = .returned (.bool true) ∧ Below w.heap.size w w' := by
  have HFA : Hid FaceRingsOk := hFR
  have HL : Hid (C.length * 40 ≤ 140737488355328) := hl
  have HN : Hid (noN C loops = 0) := hn
  have HM : Hid (mayD C loops = true) := (noN_zero hn).1
  have HO : Hid (oneB C loops = true) := ho
  clear hn ho
  obtain ⟨gn, hgn⟩ : ∃ gn, gN C = gn := ⟨_, rfl⟩
  have HGN : Hid (gN C = gn) := hgn
  have hgg : (gn == gn) = true := beq_self_eq_true gn
  clear hgn
  obtain ⟨a, cap, rfl⟩ := slice_CrsW h
  obtain ⟨w0, hw0⟩ : ∃ w0, w0 = w.alloc (.cells #[.slice a C.length cap, .int .i64 loops] 35) := ⟨_, rfl⟩
  have HW0 : Hid (w0 = w.alloc (.cells #[.slice a C.length cap, .int .i64 loops] 35)) := hw0
  have hs0 : w0.heap.size = w.heap.size + 1 := by rw [hw0]; simp
  have HB0 : Hid (Below w.heap.size w w0) := (by rw [hw0]; exact (Below.refl _ _).alloc (Nat.le_refl _) _ : Below w.heap.size w w0)
  have HT0 : Hid (w0.heap[w.heap.size]? = some (.cells #[.slice a C.length cap, .int .i64 loops] 35 (0, 0))) := (by rw [hw0]; exact alloc_at rfl : w0.heap[w.heap.size]? = some (.cells #[.slice a C.length cap, .int .i64 loops] 35 (0, 0)))
  have HCW : Hid (∀ w', Below w0.heap.size w0 w' → CrsW w' w'.heap.size (.slice a C.length cap) C) := fun w' hb => (h.up HB0.out).up hb
  have HCC : Hid (∀ w', Below w0.heap.size w0 w' → Crs w' w'.heap.size (.slice a C.length cap) C) := fun w' hb => (HCW.out w' hb).crs (by have := HL.out; unfold maxLen; omega)
  have HF : Hid (∀ w', Below w0.heap.size w0 w' → w'.cell? ⟨w.heap.size, 0, none⟩ = some (.slice a C.length cap) ∧ w'.cell? ⟨w.heap.size, 1, none⟩ = some (.int .i64 loops) ∧ w.heap.size < w'.heap.size) := fun w' hw' => by
    have g0 := (hw'.block _ (by omega)).trans HT0.out
    exact ⟨block_cell g0 rfl, block_cell g0 rfl, (Array.getElem?_eq_some_iff.1 g0).1⟩
  clear hw0 h hl hFR
  go_enter Try.func14, Try.ntmps14
  go_wp2_with (go_at_call 33; rw [← HW0.out]; refine (diagramOf_any _ C loops _ HL.out (HCW.out _ (Below.refl _ _))).mono ?_; rintro e9 w1 ⟨v1, rfl, hc1, hb1⟩; refine Hid.out ?_)
  refine Lib.hid ?_
  obtain ⟨a1, c1, rfl⟩ := slice_Crs hc1
  have HB1 : Hid (Below w0.heap.size w0 w1) := hb1
  have HC1 : Hid (Crs w1 w1.heap.size (.slice a1 C.length c1) C) := hc1
  clear hb1 hc1
  go_wp2_with (go_at_call 51; refine (genus_some HFA.out _ C loops _ HN.out HC1.out).mono ?_; rw [HO.out, if_pos rfl, HGN.out]; rintro e9 w2 ⟨rfl, hb2⟩; refine Hid.out ?_)
  refine Lib.hid ?_
  have HB2 : Hid (Below w0.heap.size w0 w2) := HB1.out.trans (hb2.mono HB1.out.size)
  clear hb2
  obtain ⟨p0, p1, p2⟩ := HF.out w2 HB2.out
  go_wp2_with (go_at_call 52; refine (planarMay_any _ C loops _ (HCC.out _ HB2.out)).mono ?_; rw [HN.out]; rintro e9 w3 ⟨rfl, hb3⟩; refine Hid.out ?_)
  refine Lib.hid ?_
  have HB3 : Hid (Below w0.heap.size w0 w3) := HB2.out.trans (hb3.mono HB2.out.size)
  clear hb3 p0 p1 p2
  obtain ⟨p0, p1, p2⟩ := HF.out w3 HB3.out
  go_wp2_with (go_at_call 53; refine (onePiece_any _ C loops _ HM.out (HCC.out _ HB3.out)).mono ?_; rw [HO.out]; rintro e9 w4 ⟨rfl, hb4⟩; refine Hid.out ?_)
  refine Lib.hid ?_
  have HB4 : Hid (Below w0.heap.size w0 w4) := HB3.out.trans (hb4.mono HB3.out.size)
  clear hb4 p0 p1 p2
  obtain ⟨p0, p1, p2⟩ := HF.out w4 HB4.out
  go_wp2_with (go_at_call 54; refine (genusOf_any _ C loops _ HM.out (HCC.out _ HB4.out)).mono ?_; rw [HGN.out]; rintro e9 w5 ⟨rfl, hb5⟩; refine Hid.out ?_)
  refine Lib.hid ?_
  have HB5 : Hid (Below w0.heap.size w0 w5) := HB4.out.trans (hb5.mono HB4.out.size)
  clear hb5 p0 p1 p2
  obtain ⟨p0, p1, p2⟩ := HF.out w5 HB5.out
  go_wp2
  go_ret
  exact ⟨by first | rfl | simp, HB0.out.trans (HB5.out.mono HB0.out.size)⟩

theorem windGenus_any (hFR : FaceRingsOk) (v : Value) (C : List Cr) (loops : Int) (w : World) (hl : C.length * 40 ≤ 140737488355328) (h : CrsW w w.heap.size v C) :
    Calls Try.prog 14 #[.agg #[v, .int .i64 loops]] w fun e w' => e = .returned (.bool true) ∧ Below w.heap.size w w' := by
  by_cases hn : noN C loops = 0
  · cases ho : oneB C loops with
    | false => exact windGenus_kind hFR v C loops w hl h hn ho
    | true => exact windGenus_yes hFR v C loops w hl h hn ho
  · exact windGenus_no hFR v C loops w hl h hn
end Go.Proofs.Ytdbpiggohncjiaa
