/- The law CanonTurns: its walk. -/
import Derived.Test.YtmggackacaobjaaK9
namespace Go.Proofs.Ytmggackacaobjaa
open Go.RowKit

theorem crs_nil (w : World) (B : Nat) : Crs w B (.slice none 0 0) [] := ⟨none, 0, rfl, by unfold maxLen; simp, fun hp => by simp at hp⟩
/-- canon.Reverse and ref.ReverseOf answer the same. -/
theorem rev_pair {C : List Cr} {loops : Int} (part : Int) (hm : mayD C loops = true) : ∃ (R : List Cr) (l2 ce : Int),
    (∀ (v : Value) (w : World), Crs w w.heap.size v C → Calls Try.prog 41 #[.agg #[v, .int .i64 loops], .int .i64 part] w fun e w' => ∃ r, e = .returned (.tuple #[.agg #[r, .int .i64 l2], .int .i64 ce]) ∧ Crs w' w'.heap.size r R ∧ Below w.heap.size w w') ∧
    (∀ (a : Option Addr) (cap : Nat) (w : World), Crs w w.heap.size (.slice a C.length cap) C → Calls Try.prog 42 #[.agg #[.slice a C.length cap, .int .i64 loops], .int .i64 part] w fun e w' => ∃ r, e = .returned (.tuple #[.agg #[r, .int .i64 l2], .int .i64 ce]) ∧ Crs w' w'.heap.size r R ∧ Below w.heap.size w w') := by
  by_cases hp : NoPart C part
  · refine ⟨[], 0, 3, fun v w h => ?_, fun a cap w h => ?_⟩
    · exact (reverse_none v C loops part w hm h hp).mono fun e w' ⟨he, hb⟩ => ⟨_, he, crs_nil _ _, hb⟩
    · exact (reverseOf_none a cap C loops part w hm h hp).mono fun e w' ⟨he, hb⟩ => ⟨_, he, crs_nil _ _, hb⟩
  · have h1 : 0 ≤ part ∧ part < ((walksM C).length : Int) := by
      unfold NoPart at hp
      omega
    obtain ⟨p, rfl⟩ : ∃ p : Nat, part = (p : Int) := ⟨part.toNat, by omega⟩
    refine ⟨revC ((walksM C).getD p []) C, loops, 0, fun v w h => ?_, fun a cap w h => ?_⟩
    · exact reverse_some v C loops p w hm h (by omega)
    · exact reverseOf_some a cap C loops p w hm h (by omega)

set_option maxHeartbeats 8000000 in
set_option maxRecDepth 100000 in
theorem canonTurns_no (v : Value) (C : List Cr) (loops part : Int) (w : World) (hl : C.length * 40 ≤ 140737488355328) (h : CrsW w w.heap.size v C) (hm : mayD C loops = false) :
    Calls Try.prog 9 #[.agg #[v, .int .i64 loops], .int .i64 part] w fun e w' => e = .returned (.bool true) ∧ Below w.heap.size w w' := by
  have HL : Hid (C.length * 40 ≤ 140737488355328) := hl
  have HM : Hid (mayD C loops = false) := hm
  obtain ⟨a, cap, rfl⟩ := slice_CrsW h
  obtain ⟨w0, hw0⟩ : ∃ w0, w0 = w.alloc (.cells #[.slice a C.length cap, .int .i64 loops] 24) := ⟨_, rfl⟩
  have HW0 : Hid (w0 = w.alloc (.cells #[.slice a C.length cap, .int .i64 loops] 24)) := hw0
  have hs0 : w0.heap.size = w.heap.size + 1 := by rw [hw0]; simp
  have HB0 : Hid (Below w.heap.size w w0) := (by rw [hw0]; exact (Below.refl _ _).alloc (Nat.le_refl _) _ : Below w.heap.size w w0)
  have HT0 : Hid (w0.heap[w.heap.size]? = some (.cells #[.slice a C.length cap, .int .i64 loops] 24 (0, 0))) := (by rw [hw0]; exact alloc_at rfl : w0.heap[w.heap.size]? = some (.cells #[.slice a C.length cap, .int .i64 loops] 24 (0, 0)))
  have HD0 : Hid (CrsW w0 w0.heap.size (.slice a C.length cap) C) := h.up HB0.out
  have HF : Hid (∀ w', Below w0.heap.size w0 w' → w'.cell? ⟨w.heap.size, 0, none⟩ = some (.slice a C.length cap) ∧ w'.cell? ⟨w.heap.size, 1, none⟩ = some (.int .i64 loops) ∧ w.heap.size < w'.heap.size) := fun w' hw' => by
    have g0 := (hw'.block _ (by omega)).trans HT0.out
    exact ⟨block_cell g0 rfl, block_cell g0 rfl, (Array.getElem?_eq_some_iff.1 g0).1⟩
  clear hw0 h hl hm
  go_enter Try.func9, Try.ntmps9
  go_wp2_with (go_at_call 20; rw [← HW0.out]; refine (diagramOf_any _ C loops _ HL.out HD0.out).mono ?_; rintro e9 w1 ⟨v1, rfl, hc1, hb1⟩; refine Hid.out ?_)
  refine Lib.hid ?_
  obtain ⟨a1, c1, rfl⟩ := slice_Crs hc1
  have HB1 : Hid (Below w0.heap.size w0 w1) := hb1
  have HC1 : Hid (Crs w1 w1.heap.size (.slice a1 C.length c1) C) := hc1
  clear hb1 hc1
  go_wp2_with (go_at_call 40; refine (mirror_no _ C loops _ HM.out HC1.out).mono ?_; rintro e9 w2 ⟨rfl, hb2⟩; refine Hid.out ?_)
  refine Lib.hid ?_
  have HB2 : Hid (Below w0.heap.size w0 w2) := HB1.out.trans (hb2.mono HB1.out.size)
  clear hb2
  obtain ⟨X, hX⟩ : ∃ X, X = w2.alloc (.cells #[.slice none 0 0, .int .i64 0] 24) := ⟨_, rfl⟩
  have HWX : Hid (X = w2.alloc (.cells #[.slice none 0 0, .int .i64 0] 24)) := hX
  have hsX : X.heap.size = w2.heap.size + 1 := by rw [hX]; simp
  have HBX : Hid (Below w0.heap.size w0 X) := (by rw [hX]; exact HB2.out.alloc HB2.out.size _ : Below w0.heap.size w0 X)
  have HTX : Hid (X.heap[w2.heap.size]? = some (.cells #[.slice none 0 0, .int .i64 0] 24 (0, 0))) := (by rw [hX]; exact alloc_at rfl : X.heap[w2.heap.size]? = some (.cells #[.slice none 0 0, .int .i64 0] 24 (0, 0)))
  have HDX : Hid (CrsW X X.heap.size (.slice a C.length cap) C) := HD0.out.up HBX.out
  clear hX
  obtain ⟨p0, p1, p2⟩ := HF.out w2 HB2.out
  go_wp2_with (go_at_call 20; rw [← HWX.out]; refine (diagramOf_any _ C loops _ HL.out HDX.out).mono ?_; rintro e9 w3 ⟨v3, rfl, hc3, hb3⟩; refine Hid.out ?_)
  refine Lib.hid ?_
  obtain ⟨a3, c3, rfl⟩ := slice_Crs hc3
  have HX3 : Hid (Below X.heap.size X w3) := hb3
  have HC3 : Hid (Crs w3 w3.heap.size (.slice a3 C.length c3) C) := hc3
  clear hb3 hc3 p0 p1 p2
  go_wp2_with (go_at_call 41; refine (reverse_no _ C loops part _ HM.out HC3.out).mono ?_; rintro e9 w4 ⟨rfl, hb4⟩; refine Hid.out ?_)
  refine Lib.hid ?_
  have HX4 : Hid (Below X.heap.size X w4) := HX3.out.trans (hb4.mono HX3.out.size)
  have HB4 : Hid (Below w0.heap.size w0 w4) := HBX.out.trans (HX4.out.mono HBX.out.size)
  clear hb4
  have HBY : Hid (Below w4.heap.size w4 (w4.alloc (.cells #[.slice none 0 0, .int .i64 0] 24))) := (Below.refl _ _).alloc (Nat.le_refl _) _
  have HD5 : Hid (Crs (w4.alloc (.cells #[.slice none 0 0, .int .i64 0] 24)) (w4.alloc (.cells #[.slice none 0 0, .int .i64 0] 24)).heap.size (.slice a C.length cap) C) := ((HD0.out.up HB4.out).crs (by have := HL.out; unfold maxLen; omega)).up HBY.out
  obtain ⟨p0, p1, p2⟩ := HF.out w4 HB4.out
  go_wp2_with (go_at_call 22; refine (may17_any _ C loops _ HD5.out).mono ?_; rw [HM.out]; rintro e9 w5 ⟨rfl, hb5⟩; refine Hid.out ?_)
  refine Lib.hid ?_
  have h45 := hb5.size
  simp only [World.size_alloc] at h45
  have hsx4 := HX4.out.size
  have g5 := (hb5.block w2.heap.size (by simp; omega)).trans (alloc_old ((HX4.out.block _ (by omega)).trans HTX.out))
  have g7 := (hb5.block w4.heap.size (by simp)).trans (alloc_at rfl)
  have HB5 : Hid (Below w0.heap.size w0 w5) := (HB4.out.trans (HBY.out.mono HB4.out.size)).trans (hb5.mono (by have := HB4.out.size; simp; omega))
  clear hb5 p0 p1 p2
  have q0 : w5.cell? ⟨w2.heap.size, 0, none⟩ = some (.slice none 0 0) := block_cell g5 rfl
  have q1 : w5.cell? ⟨w4.heap.size, 0, none⟩ = some (.slice none 0 0) := block_cell g7 rfl
  have q2 : w2.heap.size < w5.heap.size := by omega
  have q3 : w4.heap.size < w5.heap.size := by omega
  clear g5 g7
  go_wp2
  go_ret
  exact ⟨rfl, HB0.out.trans (HB5.out.mono HB0.out.size)⟩

set_option maxHeartbeats 8000000 in
set_option maxRecDepth 100000 in
theorem canonTurns_yes (v : Value) (C : List Cr) (loops part : Int) (w : World) (hl : C.length * 40 ≤ 140737488355328) (h : CrsW w w.heap.size v C) (hm : mayD C loops = true) :
    Calls Try.prog 9 #[.agg #[v, .int .i64 loops], .int .i64 part] w fun e w' => e = .returned (.bool true) ∧ Below w.heap.size w w' := by
  have HL : Hid (C.length * 40 ≤ 140737488355328) := hl
  have HM : Hid (mayD C loops = true) := hm
  obtain ⟨s16, -, -, -⟩ := sizeB_iff (may_size hm)
  obtain ⟨R, l2, ce, hrev, href⟩ := rev_pair part hm
  have HREV : Hid (∀ (v : Value) (w : World), Crs w w.heap.size v C → Calls Try.prog 41 #[.agg #[v, .int .i64 loops], .int .i64 part] w fun e w' => ∃ r, e = .returned (.tuple #[.agg #[r, .int .i64 l2], .int .i64 ce]) ∧ Crs w' w'.heap.size r R ∧ Below w.heap.size w w') := hrev
  have HREF : Hid (∀ (a : Option Addr) (cap : Nat) (w : World), Crs w w.heap.size (.slice a C.length cap) C → Calls Try.prog 42 #[.agg #[.slice a C.length cap, .int .i64 loops], .int .i64 part] w fun e w' => ∃ r, e = .returned (.tuple #[.agg #[r, .int .i64 l2], .int .i64 ce]) ∧ Crs w' w'.heap.size r R ∧ Below w.heap.size w w') := href
  obtain ⟨M, hM⟩ : ∃ M, C.map mirX = M := ⟨_, rfl⟩
  have HMM : Hid (C.map mirX = M) := hM
  obtain ⟨a, cap, rfl⟩ := slice_CrsW h
  obtain ⟨w0, hw0⟩ : ∃ w0, w0 = w.alloc (.cells #[.slice a C.length cap, .int .i64 loops] 24) := ⟨_, rfl⟩
  have HW0 : Hid (w0 = w.alloc (.cells #[.slice a C.length cap, .int .i64 loops] 24)) := hw0
  have hs0 : w0.heap.size = w.heap.size + 1 := by rw [hw0]; simp
  have HB0 : Hid (Below w.heap.size w w0) := (by rw [hw0]; exact (Below.refl _ _).alloc (Nat.le_refl _) _ : Below w.heap.size w w0)
  have HT0 : Hid (w0.heap[w.heap.size]? = some (.cells #[.slice a C.length cap, .int .i64 loops] 24 (0, 0))) := (by rw [hw0]; exact alloc_at rfl : w0.heap[w.heap.size]? = some (.cells #[.slice a C.length cap, .int .i64 loops] 24 (0, 0)))
  have HD0 : Hid (CrsW w0 w0.heap.size (.slice a C.length cap) C) := h.up HB0.out
  have HDC : Hid (∀ w', Below w0.heap.size w0 w' → Crs w' w'.heap.size (.slice a C.length cap) C) := fun w' hw' => (HD0.out.up hw').crs (by have := HL.out; unfold maxLen; omega)
  have HF : Hid (∀ w', Below w0.heap.size w0 w' → w'.cell? ⟨w.heap.size, 0, none⟩ = some (.slice a C.length cap) ∧ w'.cell? ⟨w.heap.size, 1, none⟩ = some (.int .i64 loops) ∧ w.heap.size < w'.heap.size) := fun w' hw' => by
    have g0 := (hw'.block _ (by omega)).trans HT0.out
    exact ⟨block_cell g0 rfl, block_cell g0 rfl, (Array.getElem?_eq_some_iff.1 g0).1⟩
  clear hw0 h hl hm hrev href hM
  go_enter Try.func9, Try.ntmps9
  go_wp2_with (go_at_call 20; rw [← HW0.out]; refine (diagramOf_any _ C loops _ HL.out HD0.out).mono ?_; rintro e9 w1 ⟨v1, rfl, hc1, hb1⟩; refine Hid.out ?_)
  refine Lib.hid ?_
  obtain ⟨a1, c1, rfl⟩ := slice_Crs hc1
  have HB1 : Hid (Below w0.heap.size w0 w1) := hb1
  have HC1 : Hid (Crs w1 w1.heap.size (.slice a1 C.length c1) C) := hc1
  clear hb1 hc1
  go_wp2_with (go_at_call 40; refine (mirror_yes _ C loops _ HM.out HC1.out).mono ?_; rw [HMM.out]; rintro e9 w2 ⟨rm, rfl, hrm, hb2⟩; refine Hid.out ?_)
  refine Lib.hid ?_
  obtain ⟨am, cm, rfl⟩ := slice_Crs hrm
  have HRM : Hid (Crs w2 w2.heap.size (.slice am M.length cm) M) := hrm
  have HB2 : Hid (Below w0.heap.size w0 w2) := HB1.out.trans (hb2.mono HB1.out.size)
  clear hb2 hrm
  obtain ⟨X, hX⟩ : ∃ X, X = w2.alloc (.cells #[.slice am M.length cm, .int .i64 loops] 24) := ⟨_, rfl⟩
  have HWX : Hid (X = w2.alloc (.cells #[.slice am M.length cm, .int .i64 loops] 24)) := hX
  have hsX : X.heap.size = w2.heap.size + 1 := by rw [hX]; simp
  have H2X : Hid (Below w2.heap.size w2 X) := (by rw [hX]; exact (Below.refl _ _).alloc (Nat.le_refl _) _ : Below w2.heap.size w2 X)
  have HBX : Hid (Below w0.heap.size w0 X) := HB2.out.trans (H2X.out.mono HB2.out.size)
  have HTX : Hid (X.heap[w2.heap.size]? = some (.cells #[.slice am M.length cm, .int .i64 loops] 24 (0, 0))) := (by rw [hX]; exact alloc_at rfl : X.heap[w2.heap.size]? = some (.cells #[.slice am M.length cm, .int .i64 loops] 24 (0, 0)))
  have HDX : Hid (CrsW X X.heap.size (.slice a C.length cap) C) := HD0.out.up HBX.out
  clear hX
  obtain ⟨p0, p1, p2⟩ := HF.out w2 HB2.out
  go_wp2_with (go_at_call 20; rw [← HWX.out]; refine (diagramOf_any _ C loops _ HL.out HDX.out).mono ?_; rintro e9 w3 ⟨v3, rfl, hc3, hb3⟩; refine Hid.out ?_)
  refine Lib.hid ?_
  obtain ⟨a3, c3, rfl⟩ := slice_Crs hc3
  have HX3 : Hid (Below X.heap.size X w3) := hb3
  have HC3 : Hid (Crs w3 w3.heap.size (.slice a3 C.length c3) C) := hc3
  clear hb3 hc3 p0 p1 p2
  go_wp2_with (go_at_call 41; refine (HREV.out _ _ HC3.out).mono ?_; rintro e9 w4 ⟨rr, rfl, hrr, hb4⟩; refine Hid.out ?_)
  refine Lib.hid ?_
  obtain ⟨ar, cr, rfl⟩ := slice_Crs hrr
  have HRR : Hid (Crs w4 w4.heap.size (.slice ar R.length cr) R) := hrr
  have HX4 : Hid (Below X.heap.size X w4) := HX3.out.trans (hb4.mono HX3.out.size)
  have HB4 : Hid (Below w0.heap.size w0 w4) := HBX.out.trans (HX4.out.mono HBX.out.size)
  clear hb4 hrr
  obtain ⟨Y, hY⟩ : ∃ Y, Y = w4.alloc (.cells #[.slice ar R.length cr, .int .i64 l2] 24) := ⟨_, rfl⟩
  have HWY : Hid (Y = w4.alloc (.cells #[.slice ar R.length cr, .int .i64 l2] 24)) := hY
  have hsY : Y.heap.size = w4.heap.size + 1 := by rw [hY]; simp
  have H4Y : Hid (Below w4.heap.size w4 Y) := (by rw [hY]; exact (Below.refl _ _).alloc (Nat.le_refl _) _ : Below w4.heap.size w4 Y)
  have HBY : Hid (Below w0.heap.size w0 Y) := HB4.out.trans (H4Y.out.mono HB4.out.size)
  have HTY : Hid (Y.heap[w4.heap.size]? = some (.cells #[.slice ar R.length cr, .int .i64 l2] 24 (0, 0))) := (by rw [hY]; exact alloc_at rfl : Y.heap[w4.heap.size]? = some (.cells #[.slice ar R.length cr, .int .i64 l2] 24 (0, 0)))
  clear hY
  obtain ⟨p0, p1, p2⟩ := HF.out w4 HB4.out
  go_wp2_with (go_at_call 22; rw [← HWY.out]; refine (may17_any _ C loops _ (HDC.out _ HBY.out)).mono ?_; rw [HM.out]; rintro e9 w5 ⟨rfl, hb5⟩; refine Hid.out ?_)
  refine Lib.hid ?_
  have HY5 : Hid (Below Y.heap.size Y w5) := hb5
  have HB5 : Hid (Below w0.heap.size w0 w5) := HBY.out.trans (hb5.mono HBY.out.size)
  clear hb5 p0 p1 p2
  obtain ⟨p0, p1, p2⟩ := HF.out w5 HB5.out
  go_wp2_with (go_at_call 42; refine (HREF.out a cap _ (HDC.out _ HB5.out)).mono ?_; rintro e9 w6 ⟨rs, rfl, hrs, hb6⟩; refine Hid.out ?_)
  refine Lib.hid ?_
  obtain ⟨asv, cs, rfl⟩ := slice_Crs hrs
  have HRS : Hid (Crs w6 w6.heap.size (.slice asv R.length cs) R) := hrs
  have HY6 : Hid (Below Y.heap.size Y w6) := HY5.out.trans (hb6.mono HY5.out.size)
  have HB6 : Hid (Below w0.heap.size w0 w6) := HB5.out.trans (hb6.mono HB5.out.size)
  clear hb6 hrs p0 p1 p2
  obtain ⟨Z, hZ⟩ : ∃ Z, Z = w6.alloc (.cells #[.slice asv R.length cs, .int .i64 l2] 24) := ⟨_, rfl⟩
  have HWZ : Hid (Z = w6.alloc (.cells #[.slice asv R.length cs, .int .i64 l2] 24)) := hZ
  have hsZ : Z.heap.size = w6.heap.size + 1 := by rw [hZ]; simp
  have H6Z : Hid (Below w6.heap.size w6 Z) := (by rw [hZ]; exact (Below.refl _ _).alloc (Nat.le_refl _) _ : Below w6.heap.size w6 Z)
  have HBZ : Hid (Below w0.heap.size w0 Z) := HB6.out.trans (H6Z.out.mono HB6.out.size)
  have HTZ : Hid (Z.heap[w6.heap.size]? = some (.cells #[.slice asv R.length cs, .int .i64 l2] 24 (0, 0))) := (by rw [hZ]; exact alloc_at rfl : Z.heap[w6.heap.size]? = some (.cells #[.slice asv R.length cs, .int .i64 l2] 24 (0, 0)))
  have HYZ : Hid (Below Y.heap.size Y Z) := HY6.out.trans (H6Z.out.mono HY6.out.size)
  have HXZ : Hid (Below X.heap.size X Z) := (HX4.out.trans (H4Y.out.mono HX4.out.size)).trans (HYZ.out.mono (by have := HX4.out.size; omega))
  have H2Z : Hid (Below w2.heap.size w2 Z) := H2X.out.trans (HXZ.out.mono (by omega))
  have H4Z : Hid (Below w4.heap.size w4 Z) := H4Y.out.trans (HYZ.out.mono (by omega))
  clear hZ
  have hz2 : w2.heap.size < Z.heap.size := by have := HXZ.out.size; omega
  have hz4 : w4.heap.size < Z.heap.size := by have := HYZ.out.size; omega
  have hz0 : w.heap.size < Z.heap.size := by have := HBZ.out.size; omega
  have HFZ : Hid (∀ w', Below Z.heap.size Z w' → w'.cell? ⟨w.heap.size, 0, none⟩ = some (.slice a C.length cap) ∧ w'.cell? ⟨w.heap.size, 1, none⟩ = some (.int .i64 loops) ∧ w'.cell? ⟨w2.heap.size, 0, none⟩ = some (.slice am M.length cm) ∧ w'.cell? ⟨w2.heap.size, 1, none⟩ = some (.int .i64 loops) ∧ w'.cell? ⟨w4.heap.size, 0, none⟩ = some (.slice ar R.length cr) ∧ w'.cell? ⟨w4.heap.size, 1, none⟩ = some (.int .i64 l2) ∧ w'.cell? ⟨w6.heap.size, 0, none⟩ = some (.slice asv R.length cs) ∧ w'.cell? ⟨w6.heap.size, 1, none⟩ = some (.int .i64 l2)) := fun w' hw' => by
    have hB := HBZ.out.trans (hw'.mono HBZ.out.size)
    obtain ⟨h1, h2, -⟩ := HF.out w' hB
    have g2 := (hw'.block _ hz2).trans ((HXZ.out.block _ (by omega)).trans HTX.out)
    have g4 := (hw'.block _ hz4).trans ((HYZ.out.block _ (by omega)).trans HTY.out)
    have g6 := (hw'.block _ (by omega)).trans HTZ.out
    exact ⟨h1, h2, block_cell g2 rfl, block_cell g2 rfl, block_cell g4 rfl, block_cell g4 rfl, block_cell g6 rfl, block_cell g6 rfl⟩
  have hce : (ce == ce) = true := by simp
  go_wp2
  rw [← HWZ.out]
  obtain ⟨t0, t1, t2, t3, t4, t5, t6, t7⟩ := HFZ.out Z (Below.refl _ _)
  have HDW : Hid (Below Z.heap.size Z Z.drew) := (Below.refl _ _).drew
  have hz6 : w6.heap.size < Z.heap.size := by omega
  have hszw := HBZ.out.size
  go_region_held3 (fun w' => w'.cell? ⟨w.heap.size, 0, none⟩ = some (.slice a C.length cap) ∧ w'.cell? ⟨w.heap.size, 1, none⟩ = some (.int .i64 loops) ∧ w'.cell? ⟨w2.heap.size, 0, none⟩ = some (.slice am M.length cm) ∧ w'.cell? ⟨w2.heap.size, 1, none⟩ = some (.int .i64 loops) ∧ w'.cell? ⟨w4.heap.size, 0, none⟩ = some (.slice ar R.length cr) ∧ w'.cell? ⟨w4.heap.size, 1, none⟩ = some (.int .i64 l2) ∧ w'.cell? ⟨w6.heap.size, 0, none⟩ = some (.slice asv R.length cs) ∧ w'.cell? ⟨w6.heap.size, 1, none⟩ = some (.int .i64 l2)) (first | exact HFZ.out _ HQ.out | exact HFZ.out _ HP.out | exact HFZ.out _ HA.out | exact HFZ.out _ HDW.out | exact HFZ.out _ (Below.refl _ _)) (first
    | (go_at_call 30; have hPP := HP; clear hPP; refine (sameDiagram_eq _ _ R l2 _ ((HRR.out.up (H4Z.out.trans (HP.out.mono (by omega))))) (HRS.out.up (H6Z.out.trans (HP.out.mono (by omega))))).mono ?_; rintro e9 wQ ⟨rfl, hbQ⟩
       have HQ : Hid (Below Z.heap.size Z wQ) := HP.out.trans (hbQ.mono HP.out.size)
       clear hbQ)
    | (go_at_call 30; refine (sameDiagram_eq _ _ M loops _ (HRM.out.up (H2Z.out.trans (HA.out.mono (by omega)))) HAM.out).mono ?_; rintro e9 wP ⟨rfl, hbP⟩
       have HP : Hid (Below Z.heap.size Z wP) := HA.out.trans (hbP.mono HA.out.size)
       clear hbP)
    | (go_at_call 43; refine (mirrorOf_any a cap C loops _ s16 (HDC.out _ (HBZ.out.trans (HDW.out.mono hszw)))).mono ?_; rw [HMM.out]; rintro e9 wA ⟨ra, rfl, hra, hbA⟩
       have HA : Hid (Below Z.heap.size Z wA) := HDW.out.trans hbA
       have HAM : Hid (Crs wA wA.heap.size ra M) := crs_own hra (by have : M.length = C.length := by rw [← HMM.out]; simp
                                                                    unfold maxLen; omega)
       clear hbA hra))
  all_goals
    go_wp2
    go_ret
    exact ⟨rfl, HB0.out.trans ((HBZ.out.trans (HQ.out.mono hszw)).mono HB0.out.size)⟩

theorem canonTurns_any (v : Value) (C : List Cr) (loops part : Int) (w : World) (hl : C.length * 40 ≤ 140737488355328) (h : CrsW w w.heap.size v C) :
    Calls Try.prog 9 #[.agg #[v, .int .i64 loops], .int .i64 part] w fun e w' => e = .returned (.bool true) ∧ Below w.heap.size w w' := by
  cases hm : mayD C loops with
  | false => exact canonTurns_no v C loops part w hl h hm
  | true => exact canonTurns_yes v C loops part w hl h hm
end Go.Proofs.Ytmggackacaobjaa
