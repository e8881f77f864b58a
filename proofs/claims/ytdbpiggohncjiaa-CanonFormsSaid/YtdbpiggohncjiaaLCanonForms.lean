/- The law CanonForms: its walk. -/
import Derived.Test.YtdbpiggohncjiaaC19
import Derived.Test.YtdbpiggohncjiaaC14
namespace Go.Proofs.Ytdbpiggohncjiaa
open Go.RowKit

theorem slice_CrsW {w : World} {B : Nat} {v : Value} {C : List Cr} (h : CrsW w B v C) : ∃ a cap, v = .slice a C.length cap := by
  rcases h with ⟨rfl, rfl⟩ | ⟨ad, cap, rfl, rfl⟩ | ⟨b, off, cap, rfl, -, -⟩
  · exact ⟨_, _, rfl⟩
  · exact ⟨_, _, rfl⟩
  · exact ⟨_, _, rfl⟩
theorem slice_Crs {w : World} {B : Nat} {v : Value} {C : List Cr} (h : Crs w B v C) : ∃ a cap, v = .slice a C.length cap := by
  obtain ⟨a, cap, rfl, -, -⟩ := h
  exact ⟨a, cap, rfl⟩
theorem formR_len {C K : List Cr} {loops : Int} (hm : mayD C loops = true) (h : IsFormR C K) : K.length ≤ 256 := by
  obtain ⟨V, τ, b1, b2, b3, rfl⟩ := h
  obtain ⟨s1, -, -, -⟩ := sizeB_iff (may_size hm)
  have h1 := flat_few hm (wI V) (fun i => (hdTo V C.length).getD i 0) τ
  have h2 : τ.length = (hdTo V C.length).length := by have := b2.length_eq; simpa using this
  have h3 := hdTo_len V C.length
  rw [canGo_len]
  omega
theorem canonForm_is (a : Option Addr) (cap : Nat) (C : List Cr) (loops : Int) (w : World) (hm : mayD C loops = true) (hD : Crs w w.heap.size (.slice a C.length cap) C) :
    Calls Try.prog 36 #[.agg #[.slice a C.length cap, .int .i64 loops]] w fun e w' => ∃ v K, e = .returned (.agg #[v, .int .i64 loops]) ∧ IsFormR C K ∧ K.length ≤ 256 ∧ w'.ownsRow w.heap.size 61 5 v K.length (crossCells K) ∧ Below w.heap.size w w' := by
  refine (canonForm_any a cap C loops w hm hD).mono fun e w' h => ?_
  obtain ⟨v, V, τ, he, h1, h2, h3, h4, h5⟩ := h
  have hf : IsFormR C _ := ⟨V, τ, h1, h2, h3, rfl⟩
  exact ⟨v, _, he, hf, formR_len hm hf, h4, h5⟩
theorem sameD_same (l : Int) (C D : List Cr) : sameD l l C D = sameD 0 0 C D := by unfold sameD; simp
theorem sameD_diff {l1 l2 : Int} (h : l1 ≠ l2) (C D : List Cr) : sameD l1 l2 C D = false := by unfold sameD; simp [h]

set_option maxHeartbeats 8000000 in
set_option maxRecDepth 100000 in
theorem canonForms_no (v v' : Value) (C D : List Cr) (l1 l2 : Int) (w : World) (hl : C.length * 40 ≤ 140737488355328) (hl' : D.length * 40 ≤ 140737488355328) (h : CrsW w w.heap.size v C) (h' : CrsW w w.heap.size v' D) (hm : mayD C l1 = false) :
    Calls Try.prog 6 #[.agg #[v, .int .i64 l1], .agg #[v', .int .i64 l2]] w fun e w' => e = .returned (.bool true) ∧ Below w.heap.size w w' := by
  have HL : Hid (C.length * 40 ≤ 140737488355328) := hl
  have HL' : Hid (D.length * 40 ≤ 140737488355328) := hl'
  obtain ⟨a, cap, rfl⟩ := slice_CrsW h
  obtain ⟨a', cap', rfl⟩ := slice_CrsW h'
  obtain ⟨w0, hw0⟩ : ∃ w0, w0 = (w.alloc (.cells #[.slice a C.length cap, .int .i64 l1] 35)).alloc (.cells #[.slice a' D.length cap', .int .i64 l2] 35) := ⟨_, rfl⟩
  have HW0 : Hid (w0 = (w.alloc (.cells #[.slice a C.length cap, .int .i64 l1] 35)).alloc (.cells #[.slice a' D.length cap', .int .i64 l2] 35)) := hw0
  have hs0 : w.heap.size + 2 ≤ w0.heap.size := by rw [hw0]; simp
  have HB0 : Hid (Below w.heap.size w w0) := (by rw [hw0]; exact below2 _ _ _ : Below w.heap.size w w0)
  have HT0 : Hid (w0.heap[w.heap.size]? = some (.cells #[.slice a C.length cap, .int .i64 l1] 35 (0, 0))) := (by rw [hw0]; exact alloc_old (alloc_at rfl) : w0.heap[w.heap.size]? = some (.cells #[.slice a C.length cap, .int .i64 l1] 35 (0, 0)))
  have HT1 : Hid (w0.heap[w.heap.size + 1]? = some (.cells #[.slice a' D.length cap', .int .i64 l2] 35 (0, 0))) := (by rw [hw0]; exact alloc_at (by simp) : w0.heap[w.heap.size + 1]? = some (.cells #[.slice a' D.length cap', .int .i64 l2] 35 (0, 0)))
  have HC0 : Hid (∀ w', Below w0.heap.size w0 w' → CrsW w' w'.heap.size (.slice a C.length cap) C) := fun w' hb => (h.up HB0.out).up hb
  have HC0' : Hid (∀ w', Below w0.heap.size w0 w' → CrsW w' w'.heap.size (.slice a' D.length cap') D) := fun w' hb => (h'.up HB0.out).up hb
  have HCC : Hid (∀ w', Below w0.heap.size w0 w' → Crs w' w'.heap.size (.slice a C.length cap) C) := fun w' hb => (HC0.out w' hb).crs (by have := HL.out; unfold maxLen; omega)
  have HCD : Hid (∀ w', Below w0.heap.size w0 w' → Crs w' w'.heap.size (.slice a' D.length cap') D) := fun w' hb => (HC0'.out w' hb).crs (by have := HL'.out; unfold maxLen; omega)
  have HF : Hid (∀ w', Below w0.heap.size w0 w' → w'.cell? ⟨w.heap.size, 0, none⟩ = some (.slice a C.length cap) ∧ w'.cell? ⟨w.heap.size, 1, none⟩ = some (.int .i64 l1) ∧ w'.cell? ⟨w.heap.size + 1, 0, none⟩ = some (.slice a' D.length cap') ∧ w'.cell? ⟨w.heap.size + 1, 1, none⟩ = some (.int .i64 l2)) := fun w' hb => by
    have g0 := (hb.block _ (by omega)).trans HT0.out
    have g1 := (hb.block _ (by omega)).trans HT1.out
    exact ⟨block_cell g0 rfl, block_cell g0 rfl, block_cell g1 rfl, block_cell g1 rfl⟩
  have HM : Hid (mayD C l1 = false) := hm
  have HMM : Hid ((mayD C l1 && mayD D l2) = false) := (by rw [hm]; rfl : (mayD C l1 && mayD D l2) = false)
  clear hm
  clear hw0 h h' hl hl'
  obtain ⟨p0, p1, p2, p3⟩ := HF.out w0 (Below.refl _ _)
  go_enter Try.func6, Try.ntmps6
  go_upto_region 1 with (fail)
  rw [← HW0.out]
  go_upto_region 2 with (first
    | (go_at_call 33; refine (diagramOf_any _ C l1 _ HL.out (HC0.out _ (Below.refl _ _))).mono ?_; rintro e9 w1 ⟨v1, rfl, hc1, hb1⟩; obtain ⟨a1, c1, rfl⟩ := slice_Crs hc1)
    | (go_at_call 32; refine (canon_no _ C l1 _ HM.out hc1).mono ?_; rintro e9 w2 ⟨rfl, hb2⟩))
  have HB2 : Hid (Below w0.heap.size w0 w2) := hb1.trans (hb2.mono hb1.size)
  obtain ⟨X, hX⟩ : ∃ X, X = w2.alloc (.cells #[.slice none 0 0, .int .i64 0] 35) := ⟨_, rfl⟩
  rw [← hX]
  have hsX : w2.heap.size < X.heap.size := by rw [hX]; simp
  have HBX : Hid (Below w0.heap.size w0 X) := (by rw [hX]; exact HB2.out.alloc HB2.out.size _ : Below w0.heap.size w0 X)
  have HTX : Hid (X.heap[w2.heap.size]? = some (.cells #[.slice none 0 0, .int .i64 0] 35 (0, 0))) := (by rw [hX]; exact alloc_at rfl : X.heap[w2.heap.size]? = some (.cells #[.slice none 0 0, .int .i64 0] 35 (0, 0)))
  clear hX hb1 hb2 hc1 p0 p1 p2 p3
  have HFX : Hid (∀ w', Below X.heap.size X w' → w'.cell? ⟨w.heap.size, 0, none⟩ = some (.slice a C.length cap) ∧ w'.cell? ⟨w.heap.size, 1, none⟩ = some (.int .i64 l1) ∧ w'.cell? ⟨w.heap.size + 1, 0, none⟩ = some (.slice a' D.length cap') ∧ w'.cell? ⟨w.heap.size + 1, 1, none⟩ = some (.int .i64 l2) ∧ w'.cell? ⟨w2.heap.size, 0, none⟩ = some (.slice none 0 0) ∧ w'.cell? ⟨w2.heap.size, 1, none⟩ = some (.int .i64 0)) := fun w' hb => by
    have g2 := (hb.block _ hsX).trans HTX.out
    obtain ⟨q0, q1, q2, q3⟩ := HF.out w' (HBX.out.trans (hb.mono HBX.out.size))
    exact ⟨q0, q1, q2, q3, block_cell g2 rfl, block_cell g2 rfl⟩
  have HUP : Hid (∀ w', Below X.heap.size X w' → Below w0.heap.size w0 w') := fun w' hb => HBX.out.trans (hb.mono HBX.out.size)
  have HXD : Hid (Below X.heap.size X X.drew) := (Below.refl _ _).drew
  have hl0 : w.heap.size < X.heap.size := by have := HBX.out.size; omega
  have hl1 : w.heap.size + 1 < X.heap.size := by have := HBX.out.size; omega
  obtain ⟨p0, p1, p2, p3, p4, p5⟩ := HFX.out X (Below.refl _ _)
  go_region_held3 (fun w' => w'.cell? ⟨w.heap.size, 0, none⟩ = some (.slice a C.length cap) ∧ w'.cell? ⟨w.heap.size, 1, none⟩ = some (.int .i64 l1) ∧ w'.cell? ⟨w.heap.size + 1, 0, none⟩ = some (.slice a' D.length cap') ∧ w'.cell? ⟨w.heap.size + 1, 1, none⟩ = some (.int .i64 l2) ∧ w'.cell? ⟨w2.heap.size, 0, none⟩ = some (.slice none 0 0) ∧ w'.cell? ⟨w2.heap.size, 1, none⟩ = some (.int .i64 0)) (first | exact HFX.out _ H5.out | exact HFX.out _ H4.out | exact HFX.out _ H3.out | exact HFX.out _ HXD.out) (first
    | (go_at_call 29; refine (same_no _ _ C D l1 l2 _ HMM.out HC34.out HC4.out).mono ?_; rintro e9 w5 ⟨rfl, hb5⟩
       have H5 : Hid (Below X.heap.size X w5) := H4.out.trans (hb5.mono H4.out.size)
       clear hb5)
    | (go_at_call 33; have hAA := H3; clear hAA; refine (diagramOf_any _ D l2 _ HL'.out (HC0'.out _ (HUP.out _ H3.out))).mono ?_; rintro e9 w4 ⟨v4, rfl, hc4, hb4⟩
       obtain ⟨a4, c4, rfl⟩ := slice_Crs hc4
       have H4 : Hid (Below X.heap.size X w4) := H3.out.trans (hb4.mono H3.out.size)
       have HC4 : Hid (Crs w4 w4.heap.size (.slice a4 D.length c4) D) := hc4
       have HC34 : Hid (Crs w4 w4.heap.size (.slice a3 C.length c3) C) := HC3.out.up hb4
       clear hb4 hc4)
    | (go_at_call 33; refine (diagramOf_any _ C l1 _ HL.out (HC0.out _ (HUP.out _ HXD.out))).mono ?_; rintro e9 w3 ⟨v3, rfl, hc3, hb3⟩
       obtain ⟨a3, c3, rfl⟩ := slice_Crs hc3
       have H3 : Hid (Below X.heap.size X w3) := HXD.out.trans (hb3.mono HXD.out.size)
       have HC3 : Hid (Crs w3 w3.heap.size (.slice a3 C.length c3) C) := hc3
       clear hb3 hc3))
  clear p0 p1 p2 p3 p4 p5
  obtain ⟨p0, p1, p2, p3, p4, p5⟩ := HFX.out w5 H5.out
  have k0 : w.heap.size < w5.heap.size := Nat.lt_of_lt_of_le hl0 H5.out.size
  have k1 : w.heap.size + 1 < w5.heap.size := Nat.lt_of_lt_of_le hl1 H5.out.size
  have k2 : w2.heap.size < w5.heap.size := Nat.lt_of_lt_of_le hsX H5.out.size
  go_wp2_with (go_at_call 34; refine (may17_any _ C l1 _ (HCC.out _ (HUP.out _ H5.out))).mono ?_; rw [HM.out]; rintro e9 w6 ⟨rfl, hb6⟩; refine Hid.out ?_)
  refine Lib.hid ?_
  have H6 : Hid (Below X.heap.size X w6) := H5.out.trans (hb6.mono H5.out.size)
  clear hb6 p0 p1 p2 p3 p4 p5
  obtain ⟨p0, p1, p2, p3, p4, p5⟩ := HFX.out w6 H6.out
  have k3 : w2.heap.size < w6.heap.size := Nat.lt_of_lt_of_le hsX H6.out.size
  go_wp2
  go_ret
  exact ⟨rfl, HB0.out.trans ((HUP.out _ H6.out).mono HB0.out.size)⟩

set_option maxHeartbeats 8000000 in
set_option maxRecDepth 100000 in
theorem canonForms_half (v v' : Value) (C D : List Cr) (l1 l2 : Int) (w : World) (hl : C.length * 40 ≤ 140737488355328) (hl' : D.length * 40 ≤ 140737488355328) (h : CrsW w w.heap.size v C) (h' : CrsW w w.heap.size v' D) (hm : mayD C l1 = true) (hm' : mayD D l2 = false) :
    Calls Try.prog 6 #[.agg #[v, .int .i64 l1], .agg #[v', .int .i64 l2]] w fun e w' => e = .returned (.bool true) ∧ Below w.heap.size w w' := by
  have HL : Hid (C.length * 40 ≤ 140737488355328) := hl
  have HL' : Hid (D.length * 40 ≤ 140737488355328) := hl'
  obtain ⟨a, cap, rfl⟩ := slice_CrsW h
  obtain ⟨a', cap', rfl⟩ := slice_CrsW h'
  obtain ⟨w0, hw0⟩ : ∃ w0, w0 = (w.alloc (.cells #[.slice a C.length cap, .int .i64 l1] 35)).alloc (.cells #[.slice a' D.length cap', .int .i64 l2] 35) := ⟨_, rfl⟩
  have HW0 : Hid (w0 = (w.alloc (.cells #[.slice a C.length cap, .int .i64 l1] 35)).alloc (.cells #[.slice a' D.length cap', .int .i64 l2] 35)) := hw0
  have hs0 : w.heap.size + 2 ≤ w0.heap.size := by rw [hw0]; simp
  have HB0 : Hid (Below w.heap.size w w0) := (by rw [hw0]; exact below2 _ _ _ : Below w.heap.size w w0)
  have HT0 : Hid (w0.heap[w.heap.size]? = some (.cells #[.slice a C.length cap, .int .i64 l1] 35 (0, 0))) := (by rw [hw0]; exact alloc_old (alloc_at rfl) : w0.heap[w.heap.size]? = some (.cells #[.slice a C.length cap, .int .i64 l1] 35 (0, 0)))
  have HT1 : Hid (w0.heap[w.heap.size + 1]? = some (.cells #[.slice a' D.length cap', .int .i64 l2] 35 (0, 0))) := (by rw [hw0]; exact alloc_at (by simp) : w0.heap[w.heap.size + 1]? = some (.cells #[.slice a' D.length cap', .int .i64 l2] 35 (0, 0)))
  have HC0 : Hid (∀ w', Below w0.heap.size w0 w' → CrsW w' w'.heap.size (.slice a C.length cap) C) := fun w' hb => (h.up HB0.out).up hb
  have HC0' : Hid (∀ w', Below w0.heap.size w0 w' → CrsW w' w'.heap.size (.slice a' D.length cap') D) := fun w' hb => (h'.up HB0.out).up hb
  have HCC : Hid (∀ w', Below w0.heap.size w0 w' → Crs w' w'.heap.size (.slice a C.length cap) C) := fun w' hb => (HC0.out w' hb).crs (by have := HL.out; unfold maxLen; omega)
  have HCD : Hid (∀ w', Below w0.heap.size w0 w' → Crs w' w'.heap.size (.slice a' D.length cap') D) := fun w' hb => (HC0'.out w' hb).crs (by have := HL'.out; unfold maxLen; omega)
  have HF : Hid (∀ w', Below w0.heap.size w0 w' → w'.cell? ⟨w.heap.size, 0, none⟩ = some (.slice a C.length cap) ∧ w'.cell? ⟨w.heap.size, 1, none⟩ = some (.int .i64 l1) ∧ w'.cell? ⟨w.heap.size + 1, 0, none⟩ = some (.slice a' D.length cap') ∧ w'.cell? ⟨w.heap.size + 1, 1, none⟩ = some (.int .i64 l2)) := fun w' hb => by
    have g0 := (hb.block _ (by omega)).trans HT0.out
    have g1 := (hb.block _ (by omega)).trans HT1.out
    exact ⟨block_cell g0 rfl, block_cell g0 rfl, block_cell g1 rfl, block_cell g1 rfl⟩
  have HM : Hid (mayD C l1 = true) := hm
  have HM' : Hid (mayD D l2 = false) := hm'
  have HMM : Hid ((mayD C l1 && mayD D l2) = false) := (by rw [hm, hm']; rfl : (mayD C l1 && mayD D l2) = false)
  clear hm hm'
  clear hw0 h h' hl hl'
  obtain ⟨p0, p1, p2, p3⟩ := HF.out w0 (Below.refl _ _)
  go_enter Try.func6, Try.ntmps6
  go_upto_region 1 with (fail)
  rw [← HW0.out]
  go_upto_region 2 with (first
    | (go_at_call 33; refine (diagramOf_any _ C l1 _ HL.out (HC0.out _ (Below.refl _ _))).mono ?_; rintro e9 w1 ⟨v1, rfl, hc1, hb1⟩; obtain ⟨a1, c1, rfl⟩ := slice_Crs hc1)
    | (go_at_call 32; refine (canon_yes _ C l1 _ HM.out hc1).mono ?_; rintro e9 w2 ⟨r, K, rfl, hKF, hKc, hb2⟩; obtain ⟨ar, cr, rfl⟩ := slice_Crs hKc))
  have HB2 : Hid (Below w0.heap.size w0 w2) := hb1.trans (hb2.mono hb1.size)
  obtain ⟨X, hX⟩ : ∃ X, X = w2.alloc (.cells #[.slice ar K.length cr, .int .i64 l1] 35) := ⟨_, rfl⟩
  rw [← hX]
  have hsX : w2.heap.size < X.heap.size := by rw [hX]; simp
  have HBX : Hid (Below w0.heap.size w0 X) := (by rw [hX]; exact HB2.out.alloc HB2.out.size _ : Below w0.heap.size w0 X)
  have HTX : Hid (X.heap[w2.heap.size]? = some (.cells #[.slice ar K.length cr, .int .i64 l1] 35 (0, 0))) := (by rw [hX]; exact alloc_at rfl : X.heap[w2.heap.size]? = some (.cells #[.slice ar K.length cr, .int .i64 l1] 35 (0, 0)))
  have HKF : Hid (IsForm C K) := hKF
  have HKX : Hid (∀ w', Below X.heap.size X w' → Crs w' w'.heap.size (.slice ar K.length cr) K) := fun w' hb => (hKc.up (by rw [hX]; exact (Below.refl _ _).alloc (Nat.le_refl _) _)).up hb
  clear hKF hKc
  clear hX hb1 hb2 hc1 p0 p1 p2 p3
  have HFX : Hid (∀ w', Below X.heap.size X w' → w'.cell? ⟨w.heap.size, 0, none⟩ = some (.slice a C.length cap) ∧ w'.cell? ⟨w.heap.size, 1, none⟩ = some (.int .i64 l1) ∧ w'.cell? ⟨w.heap.size + 1, 0, none⟩ = some (.slice a' D.length cap') ∧ w'.cell? ⟨w.heap.size + 1, 1, none⟩ = some (.int .i64 l2) ∧ w'.cell? ⟨w2.heap.size, 0, none⟩ = some (.slice ar K.length cr) ∧ w'.cell? ⟨w2.heap.size, 1, none⟩ = some (.int .i64 l1)) := fun w' hb => by
    have g2 := (hb.block _ hsX).trans HTX.out
    obtain ⟨q0, q1, q2, q3⟩ := HF.out w' (HBX.out.trans (hb.mono HBX.out.size))
    exact ⟨q0, q1, q2, q3, block_cell g2 rfl, block_cell g2 rfl⟩
  have HUP : Hid (∀ w', Below X.heap.size X w' → Below w0.heap.size w0 w') := fun w' hb => HBX.out.trans (hb.mono HBX.out.size)
  have HXD : Hid (Below X.heap.size X X.drew) := (Below.refl _ _).drew
  have hl0 : w.heap.size < X.heap.size := by have := HBX.out.size; omega
  have hl1 : w.heap.size + 1 < X.heap.size := by have := HBX.out.size; omega
  obtain ⟨p0, p1, p2, p3, p4, p5⟩ := HFX.out X (Below.refl _ _)
  go_region_held3 (fun w' => w'.cell? ⟨w.heap.size, 0, none⟩ = some (.slice a C.length cap) ∧ w'.cell? ⟨w.heap.size, 1, none⟩ = some (.int .i64 l1) ∧ w'.cell? ⟨w.heap.size + 1, 0, none⟩ = some (.slice a' D.length cap') ∧ w'.cell? ⟨w.heap.size + 1, 1, none⟩ = some (.int .i64 l2) ∧ w'.cell? ⟨w2.heap.size, 0, none⟩ = some (.slice ar K.length cr) ∧ w'.cell? ⟨w2.heap.size, 1, none⟩ = some (.int .i64 l1)) (first | exact HFX.out _ H5.out | exact HFX.out _ H4.out | exact HFX.out _ H3.out | exact HFX.out _ HXD.out) (first
    | (go_at_call 29; refine (same_no _ _ C D l1 l2 _ HMM.out HC34.out HC4.out).mono ?_; rintro e9 w5 ⟨rfl, hb5⟩
       have H5 : Hid (Below X.heap.size X w5) := H4.out.trans (hb5.mono H4.out.size)
       clear hb5)
    | (go_at_call 33; have hAA := H3; clear hAA; refine (diagramOf_any _ D l2 _ HL'.out (HC0'.out _ (HUP.out _ H3.out))).mono ?_; rintro e9 w4 ⟨v4, rfl, hc4, hb4⟩
       obtain ⟨a4, c4, rfl⟩ := slice_Crs hc4
       have H4 : Hid (Below X.heap.size X w4) := H3.out.trans (hb4.mono H3.out.size)
       have HC4 : Hid (Crs w4 w4.heap.size (.slice a4 D.length c4) D) := hc4
       have HC34 : Hid (Crs w4 w4.heap.size (.slice a3 C.length c3) C) := HC3.out.up hb4
       clear hb4 hc4)
    | (go_at_call 33; refine (diagramOf_any _ C l1 _ HL.out (HC0.out _ (HUP.out _ HXD.out))).mono ?_; rintro e9 w3 ⟨v3, rfl, hc3, hb3⟩
       obtain ⟨a3, c3, rfl⟩ := slice_Crs hc3
       have H3 : Hid (Below X.heap.size X w3) := HXD.out.trans (hb3.mono HXD.out.size)
       have HC3 : Hid (Crs w3 w3.heap.size (.slice a3 C.length c3) C) := hc3
       clear hb3 hc3))
  clear p0 p1 p2 p3 p4 p5
  obtain ⟨p0, p1, p2, p3, p4, p5⟩ := HFX.out w5 H5.out
  have k0 : w.heap.size < w5.heap.size := Nat.lt_of_lt_of_le hl0 H5.out.size
  have k1 : w.heap.size + 1 < w5.heap.size := Nat.lt_of_lt_of_le hl1 H5.out.size
  have k2 : w2.heap.size < w5.heap.size := Nat.lt_of_lt_of_le hsX H5.out.size
  have hez : ((0 : Int) != 0) = false := by simp
  go_upto_region 5 with (go_at_call 34; refine (may17_any _ C l1 _ (HCC.out _ (HUP.out _ H5.out))).mono ?_; rw [HM.out]; rintro e9 w6 ⟨rfl, hb6⟩)
  have H6 : Hid (Below X.heap.size X w6) := H5.out.trans (hb6.mono H5.out.size)
  have H6D : Hid (Below X.heap.size X w6.drew) := H6.out.drew
  clear hb6 p0 p1 p2 p3 p4 p5
  obtain ⟨p0, p1, p2, p3, p4, p5⟩ := HFX.out w6 H6.out
  have k3 : w.heap.size < w6.heap.size := Nat.lt_of_lt_of_le hl0 H6.out.size
  have k4 : w.heap.size + 1 < w6.heap.size := Nat.lt_of_lt_of_le hl1 H6.out.size
  have k5 : w2.heap.size < w6.heap.size := Nat.lt_of_lt_of_le hsX H6.out.size
  go_region_held3 (fun w' => w'.cell? ⟨w.heap.size, 0, none⟩ = some (.slice a C.length cap) ∧ w'.cell? ⟨w.heap.size, 1, none⟩ = some (.int .i64 l1) ∧ w'.cell? ⟨w.heap.size + 1, 0, none⟩ = some (.slice a' D.length cap') ∧ w'.cell? ⟨w.heap.size + 1, 1, none⟩ = some (.int .i64 l2) ∧ w'.cell? ⟨w2.heap.size, 0, none⟩ = some (.slice ar K.length cr) ∧ w'.cell? ⟨w2.heap.size, 1, none⟩ = some (.int .i64 l1)) (first | exact HFX.out _ H8.out | exact HFX.out _ H7.out | exact HFX.out _ H6D.out) (first
    | (go_at_call 35; refine (sameDiagram_eq _ _ K l1 _ (HKX.out _ H7.out) HK7.out).mono ?_; rintro e9 w8 ⟨rfl, hb8⟩
       have H8 : Hid (Below X.heap.size X w8) := H7.out.trans (hb8.mono H7.out.size)
       clear hb8)
    | (go_at_call 36; refine (canonForm_is a cap C l1 _ HM.out (HCC.out _ (HUP.out _ H6D.out))).mono ?_; rintro e9 w7 ⟨v7, K7, rfl, hf7, hl7, hr7, hb7⟩
       obtain rfl : K = K7 := form_one HM.out HKF.out hf7
       obtain ⟨a7, c7, e7⟩ := own_capS hr7
       subst e7
       have H7 : Hid (Below X.heap.size X w7) := H6D.out.trans (hb7.mono H6D.out.size)
       have HK7 : Hid (Crs w7 w7.heap.size (.slice a7 K.length c7) K) := crs_own hr7 (by unfold maxLen; omega)
       clear hb7 hr7 hf7))
  clear p0 p1 p2 p3 p4 p5
  obtain ⟨p0, p1, p2, p3, p4, p5⟩ := HFX.out w8 H8.out
  have m0 : w.heap.size < w8.heap.size := Nat.lt_of_lt_of_le hl0 H8.out.size
  have m1 : w.heap.size + 1 < w8.heap.size := Nat.lt_of_lt_of_le hl1 H8.out.size
  go_wp2_with (go_at_call 34; refine (may17_any _ D l2 _ (HCD.out _ (HUP.out _ H8.out))).mono ?_; rw [HM'.out]; rintro e9 w9 ⟨rfl, hb9⟩; refine Hid.out ?_)
  refine Lib.hid ?_
  have H9 : Hid (Below X.heap.size X w9) := H8.out.trans (hb9.mono H8.out.size)
  clear hb9
  go_wp2
  go_ret
  exact ⟨rfl, HB0.out.trans ((HUP.out _ H9.out).mono HB0.out.size)⟩

set_option maxHeartbeats 8000000 in
set_option maxRecDepth 100000 in
theorem canonForms_yes (v v' : Value) (C D : List Cr) (l1 l2 : Int) (w : World) (hl : C.length * 40 ≤ 140737488355328) (hl' : D.length * 40 ≤ 140737488355328) (h : CrsW w w.heap.size v C) (h' : CrsW w w.heap.size v' D) (hm : mayD C l1 = true) (hm' : mayD D l2 = true) :
    Calls Try.prog 6 #[.agg #[v, .int .i64 l1], .agg #[v', .int .i64 l2]] w fun e w' => e = .returned (.bool true) ∧ Below w.heap.size w w' := by
  have HL : Hid (C.length * 40 ≤ 140737488355328) := hl
  have HL' : Hid (D.length * 40 ≤ 140737488355328) := hl'
  obtain ⟨a, cap, rfl⟩ := slice_CrsW h
  obtain ⟨a', cap', rfl⟩ := slice_CrsW h'
  obtain ⟨w0, hw0⟩ : ∃ w0, w0 = (w.alloc (.cells #[.slice a C.length cap, .int .i64 l1] 35)).alloc (.cells #[.slice a' D.length cap', .int .i64 l2] 35) := ⟨_, rfl⟩
  have HW0 : Hid (w0 = (w.alloc (.cells #[.slice a C.length cap, .int .i64 l1] 35)).alloc (.cells #[.slice a' D.length cap', .int .i64 l2] 35)) := hw0
  have hs0 : w.heap.size + 2 ≤ w0.heap.size := by rw [hw0]; simp
  have HB0 : Hid (Below w.heap.size w w0) := (by rw [hw0]; exact below2 _ _ _ : Below w.heap.size w w0)
  have HT0 : Hid (w0.heap[w.heap.size]? = some (.cells #[.slice a C.length cap, .int .i64 l1] 35 (0, 0))) := (by rw [hw0]; exact alloc_old (alloc_at rfl) : w0.heap[w.heap.size]? = some (.cells #[.slice a C.length cap, .int .i64 l1] 35 (0, 0)))
  have HT1 : Hid (w0.heap[w.heap.size + 1]? = some (.cells #[.slice a' D.length cap', .int .i64 l2] 35 (0, 0))) := (by rw [hw0]; exact alloc_at (by simp) : w0.heap[w.heap.size + 1]? = some (.cells #[.slice a' D.length cap', .int .i64 l2] 35 (0, 0)))
  have HC0 : Hid (∀ w', Below w0.heap.size w0 w' → CrsW w' w'.heap.size (.slice a C.length cap) C) := fun w' hb => (h.up HB0.out).up hb
  have HC0' : Hid (∀ w', Below w0.heap.size w0 w' → CrsW w' w'.heap.size (.slice a' D.length cap') D) := fun w' hb => (h'.up HB0.out).up hb
  have HCC : Hid (∀ w', Below w0.heap.size w0 w' → Crs w' w'.heap.size (.slice a C.length cap) C) := fun w' hb => (HC0.out w' hb).crs (by have := HL.out; unfold maxLen; omega)
  have HCD : Hid (∀ w', Below w0.heap.size w0 w' → Crs w' w'.heap.size (.slice a' D.length cap') D) := fun w' hb => (HC0'.out w' hb).crs (by have := HL'.out; unfold maxLen; omega)
  have HF : Hid (∀ w', Below w0.heap.size w0 w' → w'.cell? ⟨w.heap.size, 0, none⟩ = some (.slice a C.length cap) ∧ w'.cell? ⟨w.heap.size, 1, none⟩ = some (.int .i64 l1) ∧ w'.cell? ⟨w.heap.size + 1, 0, none⟩ = some (.slice a' D.length cap') ∧ w'.cell? ⟨w.heap.size + 1, 1, none⟩ = some (.int .i64 l2)) := fun w' hb => by
    have g0 := (hb.block _ (by omega)).trans HT0.out
    have g1 := (hb.block _ (by omega)).trans HT1.out
    exact ⟨block_cell g0 rfl, block_cell g0 rfl, block_cell g1 rfl, block_cell g1 rfl⟩
  have HM : Hid (mayD C l1 = true) := hm
  have HM' : Hid (mayD D l2 = true) := hm'
  clear hm hm'
  clear hw0 h h' hl hl'
  obtain ⟨p0, p1, p2, p3⟩ := HF.out w0 (Below.refl _ _)
  go_enter Try.func6, Try.ntmps6
  go_upto_region 1 with (fail)
  rw [← HW0.out]
  go_upto_region 2 with (first
    | (go_at_call 33; refine (diagramOf_any _ C l1 _ HL.out (HC0.out _ (Below.refl _ _))).mono ?_; rintro e9 w1 ⟨v1, rfl, hc1, hb1⟩; obtain ⟨a1, c1, rfl⟩ := slice_Crs hc1)
    | (go_at_call 32; refine (canon_yes _ C l1 _ HM.out hc1).mono ?_; rintro e9 w2 ⟨r, K, rfl, hKF, hKc, hb2⟩; obtain ⟨ar, cr, rfl⟩ := slice_Crs hKc))
  have HB2 : Hid (Below w0.heap.size w0 w2) := hb1.trans (hb2.mono hb1.size)
  obtain ⟨X, hX⟩ : ∃ X, X = w2.alloc (.cells #[.slice ar K.length cr, .int .i64 l1] 35) := ⟨_, rfl⟩
  rw [← hX]
  have hsX : w2.heap.size < X.heap.size := by rw [hX]; simp
  have HBX : Hid (Below w0.heap.size w0 X) := (by rw [hX]; exact HB2.out.alloc HB2.out.size _ : Below w0.heap.size w0 X)
  have HTX : Hid (X.heap[w2.heap.size]? = some (.cells #[.slice ar K.length cr, .int .i64 l1] 35 (0, 0))) := (by rw [hX]; exact alloc_at rfl : X.heap[w2.heap.size]? = some (.cells #[.slice ar K.length cr, .int .i64 l1] 35 (0, 0)))
  have HKF : Hid (IsForm C K) := hKF
  have HKX : Hid (∀ w', Below X.heap.size X w' → Crs w' w'.heap.size (.slice ar K.length cr) K) := fun w' hb => (hKc.up (by rw [hX]; exact (Below.refl _ _).alloc (Nat.le_refl _) _)).up hb
  clear hKF hKc
  clear hX hb1 hb2 hc1 p0 p1 p2 p3
  have HFX : Hid (∀ w', Below X.heap.size X w' → w'.cell? ⟨w.heap.size, 0, none⟩ = some (.slice a C.length cap) ∧ w'.cell? ⟨w.heap.size, 1, none⟩ = some (.int .i64 l1) ∧ w'.cell? ⟨w.heap.size + 1, 0, none⟩ = some (.slice a' D.length cap') ∧ w'.cell? ⟨w.heap.size + 1, 1, none⟩ = some (.int .i64 l2) ∧ w'.cell? ⟨w2.heap.size, 0, none⟩ = some (.slice ar K.length cr) ∧ w'.cell? ⟨w2.heap.size, 1, none⟩ = some (.int .i64 l1)) := fun w' hb => by
    have g2 := (hb.block _ hsX).trans HTX.out
    obtain ⟨q0, q1, q2, q3⟩ := HF.out w' (HBX.out.trans (hb.mono HBX.out.size))
    exact ⟨q0, q1, q2, q3, block_cell g2 rfl, block_cell g2 rfl⟩
  have HUP : Hid (∀ w', Below X.heap.size X w' → Below w0.heap.size w0 w') := fun w' hb => HBX.out.trans (hb.mono HBX.out.size)
  have HXD : Hid (Below X.heap.size X X.drew) := (Below.refl _ _).drew
  have hl0 : w.heap.size < X.heap.size := by have := HBX.out.size; omega
  have hl1 : w.heap.size + 1 < X.heap.size := by have := HBX.out.size; omega
  obtain ⟨p0, p1, p2, p3, p4, p5⟩ := HFX.out X (Below.refl _ _)
  go_region_held3 (fun w' => w'.cell? ⟨w.heap.size, 0, none⟩ = some (.slice a C.length cap) ∧ w'.cell? ⟨w.heap.size, 1, none⟩ = some (.int .i64 l1) ∧ w'.cell? ⟨w.heap.size + 1, 0, none⟩ = some (.slice a' D.length cap') ∧ w'.cell? ⟨w.heap.size + 1, 1, none⟩ = some (.int .i64 l2) ∧ w'.cell? ⟨w2.heap.size, 0, none⟩ = some (.slice ar K.length cr) ∧ w'.cell? ⟨w2.heap.size, 1, none⟩ = some (.int .i64 l1)) (first | exact HFX.out _ H5.out | exact HFX.out _ H4.out | exact HFX.out _ H3.out | exact HFX.out _ HXD.out) (first
    | (go_at_call 29; refine (same_yes _ _ C D l1 l2 _ HM.out HM'.out HC34.out HC4.out).mono ?_; rintro e9 w5 ⟨⟨bb, rfl, hbn, hby⟩, hb5⟩
       have H5 : Hid (Below X.heap.size X w5) := H4.out.trans (hb5.mono H4.out.size)
       clear hb5)
    | (go_at_call 33; have hAA := H3; clear hAA; refine (diagramOf_any _ D l2 _ HL'.out (HC0'.out _ (HUP.out _ H3.out))).mono ?_; rintro e9 w4 ⟨v4, rfl, hc4, hb4⟩
       obtain ⟨a4, c4, rfl⟩ := slice_Crs hc4
       have H4 : Hid (Below X.heap.size X w4) := H3.out.trans (hb4.mono H3.out.size)
       have HC4 : Hid (Crs w4 w4.heap.size (.slice a4 D.length c4) D) := hc4
       have HC34 : Hid (Crs w4 w4.heap.size (.slice a3 C.length c3) C) := HC3.out.up hb4
       clear hb4 hc4)
    | (go_at_call 33; refine (diagramOf_any _ C l1 _ HL.out (HC0.out _ (HUP.out _ HXD.out))).mono ?_; rintro e9 w3 ⟨v3, rfl, hc3, hb3⟩
       obtain ⟨a3, c3, rfl⟩ := slice_Crs hc3
       have H3 : Hid (Below X.heap.size X w3) := HXD.out.trans (hb3.mono HXD.out.size)
       have HC3 : Hid (Crs w3 w3.heap.size (.slice a3 C.length c3) C) := hc3
       clear hb3 hc3))
  clear p0 p1 p2 p3 p4 p5
  obtain ⟨p0, p1, p2, p3, p4, p5⟩ := HFX.out w5 H5.out
  have k0 : w.heap.size < w5.heap.size := Nat.lt_of_lt_of_le hl0 H5.out.size
  have k1 : w.heap.size + 1 < w5.heap.size := Nat.lt_of_lt_of_le hl1 H5.out.size
  have k2 : w2.heap.size < w5.heap.size := Nat.lt_of_lt_of_le hsX H5.out.size
  have HBN : Hid (l1 ≠ l2 → bb = false) := hbn
  have HBY : Hid (l1 = l2 → ∃ K1 K2, IsForm C K1 ∧ IsForm D K2 ∧ bb = sameD 0 0 K1 K2) := hby
  clear hbn hby
  have hez : ((0 : Int) != 0) = false := by simp
  go_upto_region 5 with (go_at_call 34; refine (may17_any _ C l1 _ (HCC.out _ (HUP.out _ H5.out))).mono ?_; rw [HM.out]; rintro e9 w6 ⟨rfl, hb6⟩)
  have H6 : Hid (Below X.heap.size X w6) := H5.out.trans (hb6.mono H5.out.size)
  have H6D : Hid (Below X.heap.size X w6.drew) := H6.out.drew
  clear hb6 p0 p1 p2 p3 p4 p5
  obtain ⟨p0, p1, p2, p3, p4, p5⟩ := HFX.out w6 H6.out
  have k3 : w.heap.size < w6.heap.size := Nat.lt_of_lt_of_le hl0 H6.out.size
  have k4 : w.heap.size + 1 < w6.heap.size := Nat.lt_of_lt_of_le hl1 H6.out.size
  have k5 : w2.heap.size < w6.heap.size := Nat.lt_of_lt_of_le hsX H6.out.size
  go_region_held3 (fun w' => w'.cell? ⟨w.heap.size, 0, none⟩ = some (.slice a C.length cap) ∧ w'.cell? ⟨w.heap.size, 1, none⟩ = some (.int .i64 l1) ∧ w'.cell? ⟨w.heap.size + 1, 0, none⟩ = some (.slice a' D.length cap') ∧ w'.cell? ⟨w.heap.size + 1, 1, none⟩ = some (.int .i64 l2) ∧ w'.cell? ⟨w2.heap.size, 0, none⟩ = some (.slice ar K.length cr) ∧ w'.cell? ⟨w2.heap.size, 1, none⟩ = some (.int .i64 l1)) (first | exact HFX.out _ H8.out | exact HFX.out _ H7.out | exact HFX.out _ H6D.out) (first
    | (go_at_call 35; refine (sameDiagram_eq _ _ K l1 _ (HKX.out _ H7.out) HK7.out).mono ?_; rintro e9 w8 ⟨rfl, hb8⟩
       have H8 : Hid (Below X.heap.size X w8) := H7.out.trans (hb8.mono H7.out.size)
       clear hb8)
    | (go_at_call 36; refine (canonForm_is a cap C l1 _ HM.out (HCC.out _ (HUP.out _ H6D.out))).mono ?_; rintro e9 w7 ⟨v7, K7, rfl, hf7, hl7, hr7, hb7⟩
       obtain rfl : K = K7 := form_one HM.out HKF.out hf7
       obtain ⟨a7, c7, e7⟩ := own_capS hr7
       subst e7
       have H7 : Hid (Below X.heap.size X w7) := H6D.out.trans (hb7.mono H6D.out.size)
       have HK7 : Hid (Crs w7 w7.heap.size (.slice a7 K.length c7) K) := crs_own hr7 (by unfold maxLen; omega)
       clear hb7 hr7 hf7))
  clear p0 p1 p2 p3 p4 p5
  obtain ⟨p0, p1, p2, p3, p4, p5⟩ := HFX.out w8 H8.out
  have m0 : w.heap.size < w8.heap.size := Nat.lt_of_lt_of_le hl0 H8.out.size
  have m1 : w.heap.size + 1 < w8.heap.size := Nat.lt_of_lt_of_le hl1 H8.out.size
  go_upto_region 9 with (go_at_call 34; refine (may17_any _ D l2 _ (HCD.out _ (HUP.out _ H8.out))).mono ?_; rw [HM'.out]; rintro e9 w9 ⟨rfl, hb9⟩)
  have H9 : Hid (Below X.heap.size X w9) := H8.out.trans (hb9.mono H8.out.size)
  have H9D : Hid (Below X.heap.size X w9.drew) := H9.out.drew
  clear hb9 p0 p1 p2 p3 p4 p5
  obtain ⟨p0, p1, p2, p3, p4, p5⟩ := HFX.out w9 H9.out
  have n0 : w.heap.size < w9.heap.size := Nat.lt_of_lt_of_le hl0 H9.out.size
  have n1 : w.heap.size + 1 < w9.heap.size := Nat.lt_of_lt_of_le hl1 H9.out.size
  go_region_held3 (fun w' => w'.cell? ⟨w.heap.size, 0, none⟩ = some (.slice a C.length cap) ∧ w'.cell? ⟨w.heap.size, 1, none⟩ = some (.int .i64 l1) ∧ w'.cell? ⟨w.heap.size + 1, 0, none⟩ = some (.slice a' D.length cap') ∧ w'.cell? ⟨w.heap.size + 1, 1, none⟩ = some (.int .i64 l2) ∧ w'.cell? ⟨w2.heap.size, 0, none⟩ = some (.slice ar K.length cr) ∧ w'.cell? ⟨w2.heap.size, 1, none⟩ = some (.int .i64 l1)) (first | exact HFX.out _ H12.out | exact HFX.out _ H11.out | exact HFX.out _ H10.out | exact HFX.out _ H9D.out) (first
    | (go_at_call 35; refine (sameDiagram_any _ _ KA KB l1 l2 _ HKA.out HKB.out).mono ?_; rw [HEQ.out]; rintro e9 w12 ⟨rfl, hb12⟩
       have H12 : Hid (Below X.heap.size X w12) := H11.out.trans (hb12.mono H11.out.size)
       clear hb12)
    | (go_at_call 36; have hAA := H10; clear hAA; refine (canonForm_is a' cap' D l2 _ HM'.out (HCD.out _ (HUP.out _ H10.out))).mono ?_; rintro e9 w11 ⟨vB, KB, rfl, hfB, hlB, hrB, hb11⟩
       obtain ⟨aB, cB, eB⟩ := own_capS hrB
       subst eB
       have H11 : Hid (Below X.heap.size X w11) := H10.out.trans (hb11.mono H10.out.size)
       have HKB : Hid (Crs w11 w11.heap.size (.slice aB KB.length cB) KB) := crs_own hrB (by unfold maxLen; omega)
       have HKA : Hid (Crs w11 w11.heap.size (.slice aA KA.length cA) KA) := HKA0.out.up hb11
       have HEQ : Hid (sameD l1 l2 KA KB = bb) := (by
         by_cases hll : l1 = l2
         · obtain ⟨K1, K2, f1, f2, e⟩ := HBY.out hll
           rw [e, form_one HM.out f1 HFA.out, form_one HM'.out f2 hfB, hll, sameD_same]
         · rw [HBN.out hll, sameD_diff hll] : sameD l1 l2 KA KB = bb)
       clear hb11 hrB hfB)
    | (go_at_call 36; refine (canonForm_is a cap C l1 _ HM.out (HCC.out _ (HUP.out _ H9D.out))).mono ?_; rintro e9 w10 ⟨vA, KA, rfl, hfA, hlA, hrA, hb10⟩
       obtain ⟨aA, cA, eA⟩ := own_capS hrA
       subst eA
       have H10 : Hid (Below X.heap.size X w10) := H9D.out.trans (hb10.mono H9D.out.size)
       have HKA0 : Hid (Crs w10 w10.heap.size (.slice aA KA.length cA) KA) := crs_own hrA (by unfold maxLen; omega)
       have HFA : Hid (IsFormR C KA) := hfA
       clear hb10 hrA hfA))
  have hbb : (bb == bb) = true := by simp
  go_wp2
  go_ret
  exact ⟨by simp, HB0.out.trans ((HUP.out _ H12.out).mono HB0.out.size)⟩

theorem canonForms_any (v v' : Value) (C D : List Cr) (l1 l2 : Int) (w : World) (hl : C.length * 40 ≤ 140737488355328) (hl' : D.length * 40 ≤ 140737488355328) (h : CrsW w w.heap.size v C) (h' : CrsW w w.heap.size v' D) :
    Calls Try.prog 6 #[.agg #[v, .int .i64 l1], .agg #[v', .int .i64 l2]] w fun e w' => e = .returned (.bool true) ∧ Below w.heap.size w w' := by
  cases hm : mayD C l1 with
  | false => exact canonForms_no v v' C D l1 l2 w hl hl' h h' hm
  | true =>
    cases hm' : mayD D l2 with
    | false => exact canonForms_half v v' C D l1 l2 w hl hl' h h' hm hm'
    | true => exact canonForms_yes v v' C D l1 l2 w hl hl' h h' hm hm'
end Go.Proofs.Ytdbpiggohncjiaa
