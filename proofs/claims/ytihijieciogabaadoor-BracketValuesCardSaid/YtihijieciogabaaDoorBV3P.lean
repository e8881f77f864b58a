/- Several texts of the proof, one behind the other. -/
import Derived.Test.YtihijieciogabaaDoorBV2
/- The walk of bracket.At. -/
namespace Go.Proofs.YtihijieciogabaaDoor.Poly
open Go.RowKit Go.Maps

def VaP (k : Int) (l : List (Int × Int)) (x y : Nat) (r : Int) : Prop := (okV l = true ∧ r = 0 ∧ Fl x (reTo k l l.length) ∧ Fl y (imTo k l l.length)) ∨ (okV l = false ∧ r = 6 ∧ x = 0 ∧ y = 0)
theorem vaP {k : Int} {l : List (Int × Int)} {e : Ending} (h : VaOut k l e) : ∃ x y r, e = .returned (.tuple #[.complex .f64 x y, .int .i64 r]) ∧ VaP k l x y r := by
  rcases h with ⟨o1, x, y, rfl, f1, f2⟩ | ⟨o1, rfl⟩
  · exact ⟨x, y, 0, rfl, Or.inl ⟨o1, rfl, f1, f2⟩⟩
  · exact ⟨0, 0, 6, rfl, Or.inr ⟨o1, rfl, rfl, rfl⟩⟩
set_option maxHeartbeats 1000000 in
set_option maxRecDepth 100000 in
theorem at10_range (v : Value) (loops k : Int) (w : World) (hk : k < 0 ∨ 3 < k) :
    Calls Tryd.prog 12 #[.agg #[v, .int .i64 loops], .int .i64 k] w fun e w' => e = .returned (.tuple #[.complex .f64 0 0, .int .i64 3]) ∧ Below w.heap.size w w' := by
  have HB1 : Hid (Below w.heap.size w (w.alloc (.cells #[v, .int .i64 loops] 24))) := (Below.refl _ _).alloc (Nat.le_refl _) _
  by_cases h0 : k < 0
  · clear hk
    go_enter Tryd.func12, Tryd.ntmps12
    go_wp2
    go_ret2
    exact ⟨rfl, HB1.out⟩
  · have h3 : 3 < k := by omega
    clear hk
    go_enter Tryd.func12, Tryd.ntmps12
    go_wp2
    go_ret2
    exact ⟨rfl, HB1.out⟩

set_option maxHeartbeats 1000000 in
set_option maxRecDepth 100000 in
theorem at10_bad (hFR : FaceRingsOk) (v : Value) (C : List Cr) (loops r k : Int) (w : World) (hk0 : 0 ≤ k) (hk3 : k ≤ 3) (hr : r ≠ 0) (hF : fewM C loops = r) (h : Crs w w.heap.size v C) :
    Calls Tryd.prog 12 #[.agg #[v, .int .i64 loops], .int .i64 k] w fun e w' => e = .returned (.tuple #[.complex .f64 0 0, .int .i64 r]) ∧ Below w.heap.size w w' := by
  obtain ⟨a, cap, rfl, -, -⟩ := id h
  have HJN := hid_mkP (fun v W hW => jones_no hFR v C loops r W hr hF hW)
  have HC := hid_mkP h
  have HB1 : Hid (Below w.heap.size w (w.alloc (.cells #[.slice a C.length cap, .int .i64 loops] 24))) := (Below.refl _ _).alloc (Nat.le_refl _) _
  have hr0 : (r == 0) = false := beq_eq_false_iff_ne.2 hr
  clear h hr hF hFR
  go_enter Tryd.func12, Tryd.ntmps12
  go_wp2_with (go_at_call 7; refine (HJN.out _ _ (HC.out.up HB1.out)).mono ?_; rintro e9 w2 ⟨rfl, hb2⟩; have HB2 := hid_mkP (HB1.out.trans (hb2.mono HB1.out.size)); clear hb2)
  go_ret2
  exact ⟨rfl, HB2.out⟩

set_option maxHeartbeats 1000000 in
set_option maxRecDepth 100000 in
theorem at10_yes (hFR : FaceRingsOk) (v : Value) (C : List Cr) (loops k : Int) (lo : Nat) (w : World) (hk0 : 0 ≤ k) (hk3 : k ≤ 3) (hl : loops = (lo : Nat)) (hn : noN C loops = 0) (h12 : C.length ≤ 12) (h : Crs w w.heap.size v C) (hR : RingAt w) :
    Calls Tryd.prog 12 #[.agg #[v, .int .i64 loops], .int .i64 k] w fun e w' => ∃ l x y r, Canon l (jnF C lo) ∧ e = .returned (.tuple #[.complex .f64 x y, .int .i64 r]) ∧ VaP k l x y r ∧ Below w.heap.size w w' := by
  obtain ⟨a, cap, rfl, -, -⟩ := id h
  have hm2 : mayD C (lo : Nat) = true := by rw [← hl]; exact (noN_zero hn).1
  have HJY := hid_mkP (fun v W hW hRW => jones_yes hFR v C loops lo W hl hn h12 hW hRW)
  have HSM := hid_mkP (fun l hl => jn_sm (l := l) hm2 h12 hl)
  have HVA := hid_mkP (fun v l W hs hP => valueAt_poly v l k W hk0 hk3 hs hP)
  have HC := hid_mkP h
  have HR := hid_mkP hR
  have HB1 : Hid (Below w.heap.size w (w.alloc (.cells #[.slice a C.length cap, .int .i64 loops] 24))) := (Below.refl _ _).alloc (Nat.le_refl _) _
  clear h hn hFR hR hl hm2 h12
  go_enter Tryd.func12, Tryd.ntmps12
  go_wp2_with (go_at_call 7; refine (HJY.out _ _ (HC.out.up HB1.out) (HR.out.any HB1.out)).mono ?_; rintro e9 w2 ⟨v2, l, rfl, hP2, hC2, hb2⟩; refine Hid.out ?_)
  refine Lib.hid ?_
  have HB2 := hid_mkP (HB1.out.trans (hb2.mono HB1.out.size))
  have HV2 := hid_mkP (HVA.out v2 l w2 (HSM.out l hC2) hP2.1)
  have HC2 := hid_mkP hC2
  clear hb2 hP2 hC2
  go_wp2_with (go_at_call 25; refine HV2.out.mono ?_; rintro e9 w3 ⟨ho, hb3⟩; obtain ⟨x, y, r, rfl, hp⟩ := vaP ho; refine Hid.out ?_)
  refine Lib.hid ?_
  have HB3 := hid_mkP (HB2.out.trans (hb3.mono HB2.out.size))
  have HP := hid_mkP hp
  clear hb3 hp ho
  go_wp2
  go_ret2
  exact ⟨l, x, y, r, HC2.out, rfl, HP.out, HB3.out⟩
end Go.Proofs.YtihijieciogabaaDoor.Poly
/- The law BracketValues: its walk, the rings of FaceRings being given. -/
namespace Go.Proofs.YtihijieciogabaaDoor.Poly
open Go.RowKit Go.Maps

set_option maxHeartbeats 4000000 in
set_option maxRecDepth 100000 in
theorem bracketValues_range (v : Value) (C : List Cr) (loops k : Int) (w : World) (hk : k < 0 ∨ 3 < k) (hl : C.length * 40 ≤ 140737488355328) (h : CrsW w w.heap.size v C) :
    Calls Tryd.prog 4 #[.agg #[v, .int .i64 loops], .int .i64 k] w fun e w' => e = .returned (.bool true) ∧ Below w.heap.size w w' := by
  have HL : Hid (C.length * 40 ≤ 140737488355328) := hl
  have HAT := hid_mkP (fun v W => at10_range v loops k W hk)
  have h00 : FloatKind.f64.format.order 0 0 = some .eq := fl_same fl_zero fl_zero
  obtain ⟨a, cap, rfl⟩ := slB_CrsW h
  obtain ⟨w0, hw0⟩ : ∃ w0, w0 = w.alloc (.cells #[.slice a C.length cap, .int .i64 loops] 24) := ⟨_, rfl⟩
  have HW0 : Hid (w0 = w.alloc (.cells #[.slice a C.length cap, .int .i64 loops] 24)) := hw0
  have hs0 : w0.heap.size = w.heap.size + 1 := by rw [hw0]; simp
  have HB0 : Hid (Below w.heap.size w w0) := (by rw [hw0]; exact (Below.refl _ _).alloc (Nat.le_refl _) _ : Below w.heap.size w w0)
  have HT0 : Hid (w0.heap[w.heap.size]? = some (.cells #[.slice a C.length cap, .int .i64 loops] 24 (0, 0))) := (by rw [hw0]; exact alloc_at rfl : w0.heap[w.heap.size]? = some (.cells #[.slice a C.length cap, .int .i64 loops] 24 (0, 0)))
  have HCW : Hid (∀ w', Below w0.heap.size w0 w' → CrsW w' w'.heap.size (.slice a C.length cap) C) := fun w' hb => (h.up HB0.out).up hb
  have HCC : Hid (∀ w', Below w0.heap.size w0 w' → Crs w' w'.heap.size (.slice a C.length cap) C) := fun w' hb => (HCW.out w' hb).crs (by have := HL.out; unfold maxLen; omega)
  have HF : Hid (∀ w', Below w0.heap.size w0 w' → w'.cell? ⟨w.heap.size, 0, none⟩ = some (.slice a C.length cap) ∧ w'.cell? ⟨w.heap.size, 1, none⟩ = some (.int .i64 loops) ∧ w.heap.size < w'.heap.size) := fun w' hw' => by
    have g0 := (hw'.block _ (by omega)).trans HT0.out
    exact ⟨block_cell g0 rfl, block_cell g0 rfl, (Array.getElem?_eq_some_iff.1 g0).1⟩
  clear hw0 h hl
  by_cases h0 : k < 0
  · clear hk
    go_enter Tryd.func4, Tryd.ntmps4
    go_wp2_with (go_at_call 6; rw [← HW0.out]; refine (diagramOf_any _ C loops _ HL.out (HCW.out _ (Below.refl _ _))).mono ?_; rintro e9 w1 ⟨v1, rfl, hc1, hb1⟩; refine Hid.out ?_)
    refine Lib.hid ?_
    have HB1 : Hid (Below w0.heap.size w0 w1) := hb1
    clear hb1 hc1
    go_wp2_with (go_at_call 12; refine (HAT.out v1 _).mono ?_; rintro e9 w2 ⟨rfl, hb2⟩; refine Hid.out ?_)
    refine Lib.hid ?_
    have HB2 : Hid (Below w0.heap.size w0 w2) := HB1.out.trans (hb2.mono HB1.out.size)
    clear hb2
    go_wp2
    go_ret
    exact ⟨by first | rfl | simp, HB0.out.trans (HB2.out.mono HB0.out.size)⟩
  · have h3 : 3 < k := by omega
    clear hk
    go_enter Tryd.func4, Tryd.ntmps4
    go_wp2_with (go_at_call 6; rw [← HW0.out]; refine (diagramOf_any _ C loops _ HL.out (HCW.out _ (Below.refl _ _))).mono ?_; rintro e9 w1 ⟨v1, rfl, hc1, hb1⟩; refine Hid.out ?_)
    refine Lib.hid ?_
    have HB1 : Hid (Below w0.heap.size w0 w1) := hb1
    clear hb1 hc1
    go_wp2_with (go_at_call 12; refine (HAT.out v1 _).mono ?_; rintro e9 w2 ⟨rfl, hb2⟩; refine Hid.out ?_)
    refine Lib.hid ?_
    have HB2 : Hid (Below w0.heap.size w0 w2) := HB1.out.trans (hb2.mono HB1.out.size)
    clear hb2
    go_wp2
    go_ret
    exact ⟨by first | rfl | simp, HB0.out.trans (HB2.out.mono HB0.out.size)⟩

set_option maxHeartbeats 4000000 in
set_option maxRecDepth 100000 in
theorem bracketValues_bad (hFR : FaceRingsOk) (v : Value) (C : List Cr) (loops r k : Int) (w : World) (hk0 : 0 ≤ k) (hk3 : k ≤ 3) (hl : C.length * 40 ≤ 140737488355328) (h : CrsW w w.heap.size v C) (hr : r ≠ 0) (hFW : fewM C loops = r) :
    Calls Tryd.prog 4 #[.agg #[v, .int .i64 loops], .int .i64 k] w fun e w' => e = .returned (.bool true) ∧ Below w.heap.size w w' := by
  have HL : Hid (C.length * 40 ≤ 140737488355328) := hl
  have HFW : Hid (fewM C loops = r) := hFW
  have HAT := hid_mkP (fun v W hW => at10_bad hFR v C loops r k W hk0 hk3 hr hFW hW)
  have h00 : FloatKind.f64.format.order 0 0 = some .eq := fl_same fl_zero fl_zero
  have hr0 : (r == 0) = false := beq_eq_false_iff_ne.2 hr
  have hrr : (r == r) = true := beq_self_eq_true r
  obtain ⟨a, cap, rfl⟩ := slB_CrsW h
  obtain ⟨w0, hw0⟩ : ∃ w0, w0 = w.alloc (.cells #[.slice a C.length cap, .int .i64 loops] 24) := ⟨_, rfl⟩
  have HW0 : Hid (w0 = w.alloc (.cells #[.slice a C.length cap, .int .i64 loops] 24)) := hw0
  have hs0 : w0.heap.size = w.heap.size + 1 := by rw [hw0]; simp
  have HB0 : Hid (Below w.heap.size w w0) := (by rw [hw0]; exact (Below.refl _ _).alloc (Nat.le_refl _) _ : Below w.heap.size w w0)
  have HT0 : Hid (w0.heap[w.heap.size]? = some (.cells #[.slice a C.length cap, .int .i64 loops] 24 (0, 0))) := (by rw [hw0]; exact alloc_at rfl : w0.heap[w.heap.size]? = some (.cells #[.slice a C.length cap, .int .i64 loops] 24 (0, 0)))
  have HCW : Hid (∀ w', Below w0.heap.size w0 w' → CrsW w' w'.heap.size (.slice a C.length cap) C) := fun w' hb => (h.up HB0.out).up hb
  have HCC : Hid (∀ w', Below w0.heap.size w0 w' → Crs w' w'.heap.size (.slice a C.length cap) C) := fun w' hb => (HCW.out w' hb).crs (by have := HL.out; unfold maxLen; omega)
  have HF : Hid (∀ w', Below w0.heap.size w0 w' → w'.cell? ⟨w.heap.size, 0, none⟩ = some (.slice a C.length cap) ∧ w'.cell? ⟨w.heap.size, 1, none⟩ = some (.int .i64 loops) ∧ w.heap.size < w'.heap.size) := fun w' hw' => by
    have g0 := (hw'.block _ (by omega)).trans HT0.out
    exact ⟨block_cell g0 rfl, block_cell g0 rfl, (Array.getElem?_eq_some_iff.1 g0).1⟩
  clear hw0 h hl hFW hr hFR
  go_enter Tryd.func4, Tryd.ntmps4
  go_wp2_with (go_at_call 6; rw [← HW0.out]; refine (diagramOf_any _ C loops _ HL.out (HCW.out _ (Below.refl _ _))).mono ?_; rintro e9 w1 ⟨v1, rfl, hc1, hb1⟩; refine Hid.out ?_)
  refine Lib.hid ?_
  have HB1 : Hid (Below w0.heap.size w0 w1) := hb1
  have HC1 : Hid (Crs w1 w1.heap.size v1 C) := hc1
  clear hb1 hc1
  go_wp2_with (go_at_call 12; refine (HAT.out v1 _ HC1.out).mono ?_; rintro e9 w2 ⟨rfl, hb2⟩; refine Hid.out ?_)
  refine Lib.hid ?_
  have HB2 : Hid (Below w0.heap.size w0 w2) := HB1.out.trans (hb2.mono HB1.out.size)
  clear hb2
  obtain ⟨p0, p1, p2⟩ := HF.out w2 HB2.out
  go_wp2_with (go_at_call 8; refine (few12_any a cap C loops _ (HCC.out _ HB2.out)).mono ?_; rw [HFW.out]; rintro e9 w5 ⟨rfl, hb5⟩; refine Hid.out ?_)
  refine Lib.hid ?_
  have HB5 : Hid (Below w0.heap.size w0 w5) := HB2.out.trans (hb5.mono HB2.out.size)
  clear hb5 p0 p1 p2
  go_wp2
  go_ret
  exact ⟨by first | rfl | simp, HB0.out.trans (HB5.out.mono HB0.out.size)⟩

theorem apP {k : Int} {l : List (Int × Int)} {e : Ending} (h : (okV l = true ∧ e = .returned (.tuple #[.int .i64 (reTo k l l.length), .int .i64 (imTo k l l.length), .bool true])) ∨ (okV l = false ∧ e = .returned (.tuple #[.int .i64 0, .int .i64 0, .bool false]))) :
    ∃ x y b, e = .returned (.tuple #[.int .i64 x, .int .i64 y, .bool b]) ∧ okV l = b ∧ (b = true → x = reTo k l l.length ∧ y = imTo k l l.length) := by
  rcases h with ⟨o1, rfl⟩ | ⟨o1, rfl⟩
  · exact ⟨_, _, true, rfl, o1, fun _ => ⟨rfl, rfl⟩⟩
  · exact ⟨_, _, false, rfl, o1, fun h => by cases h⟩
set_option maxHeartbeats 8000000 in
set_option maxRecDepth 100000 in
theorem bracketValues_yes (hFR : FaceRingsOk) (v : Value) (C : List Cr) (loops k : Int) (lo : Nat) (w : World) (hk0 : 0 ≤ k) (hk3 : k ≤ 3) (hlo : loops = (lo : Nat)) (hl : C.length * 40 ≤ 140737488355328) (h : CrsW w w.heap.size v C) (hn : noN C loops = 0) (h12 : C.length ≤ 12) (hR : RingAt w) :
    Calls Tryd.prog 4 #[.agg #[v, .int .i64 loops], .int .i64 k] w fun e w' => e = .returned (.bool true) ∧ Below w.heap.size w w' := by
  have HL : Hid (C.length * 40 ≤ 140737488355328) := hl
  have hm : mayD C (lo : Nat) = true := by rw [← hlo]; exact (noN_zero hn).1
  have HFW : Hid (fewM C loops = 0) := (by unfold fewM; rw [if_neg (by omega)]; exact hn : fewM C loops = 0)
  have HAT := hid_mkP (fun v W hW hRW => at10_yes hFR v C loops k lo W hk0 hk3 hlo hn h12 hW hRW)
  have HSM := hid_mkP (fun l hl => jn_sm (l := l) hm h12 hl)
  have HAP := hid_mkP (fun v l W hs hP => atPower_poly v l k W hk0 hk3 hs hP)
  obtain ⟨a, cap, rfl⟩ := slB_CrsW h
  obtain ⟨w0, hw0⟩ : ∃ w0, w0 = w.alloc (.cells #[.slice a C.length cap, .int .i64 loops] 24) := ⟨_, rfl⟩
  have HW0 : Hid (w0 = w.alloc (.cells #[.slice a C.length cap, .int .i64 loops] 24)) := hw0
  have hs0 : w0.heap.size = w.heap.size + 1 := by rw [hw0]; simp
  have HB0 : Hid (Below w.heap.size w w0) := (by rw [hw0]; exact (Below.refl _ _).alloc (Nat.le_refl _) _ : Below w.heap.size w w0)
  have HT0 : Hid (w0.heap[w.heap.size]? = some (.cells #[.slice a C.length cap, .int .i64 loops] 24 (0, 0))) := (by rw [hw0]; exact alloc_at rfl : w0.heap[w.heap.size]? = some (.cells #[.slice a C.length cap, .int .i64 loops] 24 (0, 0)))
  have HCW : Hid (∀ w', Below w0.heap.size w0 w' → CrsW w' w'.heap.size (.slice a C.length cap) C) := fun w' hb => (h.up HB0.out).up hb
  have HCC : Hid (∀ w', Below w0.heap.size w0 w' → Crs w' w'.heap.size (.slice a C.length cap) C) := fun w' hb => (HCW.out w' hb).crs (by have := HL.out; unfold maxLen; omega)
  have HF : Hid (∀ w', Below w0.heap.size w0 w' → w'.cell? ⟨w.heap.size, 0, none⟩ = some (.slice a C.length cap) ∧ w'.cell? ⟨w.heap.size, 1, none⟩ = some (.int .i64 loops) ∧ w.heap.size < w'.heap.size) := fun w' hw' => by
    have g0 := (hw'.block _ (by omega)).trans HT0.out
    exact ⟨block_cell g0 rfl, block_cell g0 rfl, (Array.getElem?_eq_some_iff.1 g0).1⟩
  have HRW : Hid (∀ W, Below w0.heap.size w0 W → RingAt W) := fun W hW => hR.any (HB0.out.trans (hW.mono HB0.out.size))
  have HJR := hid_mkP (fun W hW => jonesOf_any a cap C lo W hm h12 hW)
  rw [← hlo] at HJR
  clear hw0 h hl hn hFR hR hm hlo
  go_enter Tryd.func4, Tryd.ntmps4
  go_wp2_with (go_at_call 6; rw [← HW0.out]; refine (diagramOf_any _ C loops _ HL.out (HCW.out _ (Below.refl _ _))).mono ?_; rintro e9 w1 ⟨v1, rfl, hc1, hb1⟩; refine Hid.out ?_)
  refine Lib.hid ?_
  have HB1 : Hid (Below w0.heap.size w0 w1) := hb1
  have HC1 : Hid (Crs w1 w1.heap.size v1 C) := hc1
  clear hb1 hc1
  go_wp2_with (go_at_call 12; refine (HAT.out v1 _ HC1.out (HRW.out _ HB1.out)).mono ?_; rintro e9 w2 ⟨la, x, y, r, hCa, rfl, hpa, hb2⟩; refine Hid.out ?_)
  refine Lib.hid ?_
  have HB2 : Hid (Below w0.heap.size w0 w2) := HB1.out.trans (hb2.mono HB1.out.size)
  have HCa := hid_mkP hCa
  have HPa := hid_mkP hpa
  clear hb2 hCa hpa
  obtain ⟨p0, p1, p2⟩ := HF.out w2 HB2.out
  go_wp2_with (go_at_call 8; refine (few12_any a cap C loops _ (HCC.out _ HB2.out)).mono ?_; rw [HFW.out]; rintro e9 w5 ⟨rfl, hb5⟩; refine Hid.out ?_)
  refine Lib.hid ?_
  have HB5 : Hid (Below w0.heap.size w0 w5) := HB2.out.trans (hb5.mono HB2.out.size)
  clear hb5 p0 p1 p2
  obtain ⟨p0, p1, p2⟩ := HF.out w5 HB5.out
  go_wp2_with (go_at_call 11; refine (HJR.out _ (HCC.out _ HB5.out)).mono ?_; rintro e9 w6 ⟨v6, l6, rfl, hP6, hC6, hb6⟩; refine Hid.out ?_)
  refine Lib.hid ?_
  have HB6 : Hid (Below w0.heap.size w0 w6) := HB5.out.trans (hb6.mono HB5.out.size)
  have HAQ := hid_mkP (HAP.out v6 l6 w6 (HSM.out l6 hC6) hP6.1)
  have HE := hid_mkP (canon_unique HCa.out hC6)
  have HS6 := hid_mkP (HSM.out l6 hC6)
  clear hb6 hP6 hC6 p0 p1 p2
  go_wp2_with (go_at_call 13; refine HAQ.out.mono ?_; rintro e9 w7 ⟨ho, hb7⟩; obtain ⟨X, Y, bb, rfl, hp1, hp2⟩ := apP ho; refine Hid.out ?_)
  refine Lib.hid ?_
  have HB7 : Hid (Below w0.heap.size w0 w7) := HB6.out.trans (hb7.mono HB6.out.size)
  clear hb7 ho
  have hpa := HPa.out
  rw [HE.out] at hpa
  cases bb
  · obtain ⟨o, -, -, -⟩ | ⟨-, rfl, rfl, rfl⟩ := hpa
    · rw [hp1] at o; cases o
    have h00 : FloatKind.f64.format.order 0 0 = some .eq := fl_same fl_zero fl_zero
    clear hp1 hp2
    go_wp2
    go_ret
    exact ⟨by first | rfl | simp, HB0.out.trans (HB7.out.mono HB0.out.size)⟩
  · obtain ⟨o, -, -, -⟩ | ⟨-, rfl, f1, f2⟩ := hpa.symm
    · rw [hp1] at o; cases o
    obtain ⟨eX, eY⟩ := hp2 rfl
    rw [← eX] at f1
    rw [← eY] at f2
    have g1 := HS6.out.re k l6.length (Nat.le_refl _)
    have g2 := HS6.out.im k l6.length (Nat.le_refl _)
    rw [← eX] at g1
    rw [← eY] at g2
    have h01 : FloatKind.f64.format.order x (floatOfInt .f64 X) = some .eq := fl_same f1 (fl_int X (by omega))
    have h02 : FloatKind.f64.format.order y (floatOfInt .f64 Y) = some .eq := fl_same f2 (fl_int Y (by omega))
    clear hp1 hp2 eX eY f1 f2 g1 g2
    go_wp2
    go_ret
    exact ⟨by first | rfl | simp, HB0.out.trans (HB7.out.mono HB0.out.size)⟩

theorem bracketValues_any (hFR : FaceRingsOk) (v : Value) (C : List Cr) (loops k : Int) (w : World) (hl : C.length * 40 ≤ 140737488355328) (h : CrsW w w.heap.size v C) (hR : RingAt w) :
    Calls Tryd.prog 4 #[.agg #[v, .int .i64 loops], .int .i64 k] w fun e w' => e = .returned (.bool true) ∧ Below w.heap.size w w' := by
  by_cases hk : k < 0 ∨ 3 < k
  · exact bracketValues_range v C loops k w hk hl h
  by_cases hn : noN C loops = 0
  · by_cases h12 : C.length ≤ 12
    · obtain ⟨s1, s2, s3, s4⟩ := sizeB_iff (may_size (noN_zero hn).1)
      exact bracketValues_yes hFR v C loops k loops.toNat w (by omega) (by omega) (by omega) hl h hn h12 hR
    · exact bracketValues_bad hFR v C loops 2 k w (by omega) (by omega) hl h (by decide) (if_pos ⟨hn, by omega⟩)
  · exact bracketValues_bad hFR v C loops (noN C loops) k w (by omega) (by omega) hl h hn (if_neg (fun q => hn q.1))
end Go.Proofs.YtihijieciogabaaDoor.Poly
