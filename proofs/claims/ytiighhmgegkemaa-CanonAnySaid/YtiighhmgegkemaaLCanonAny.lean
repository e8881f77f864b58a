/- The statement CanonAny: its walk. -/
import Derived.Test.YtiighhmgegkemaaA0
import Derived.Test.YtiighhmgegkemaaI5r
import Derived.Test.YtiighhmgegkemaaI5P
namespace Go.Proofs.Ytiighhmgegkemaa
open Go.RowKit

/-- What renamed makes of a diagram that may be. -/
theorem renamed_any (v : Value) (C : List Cr) (loops : Int) (va vo : Value) (A O : List Int) (w : World) (hm : mayD C loops = true) (hD : Crs w w.heap.size v C) (hA : RdAt w w.heap.size 1 va A.length (intsV A)) (hO : RdAt w w.heap.size 1 vo O.length (intsV O)) (hAl : A.length ≤ 140737488355328) (hOl : O.length ≤ 140737488355328) (hAr : ∀ x ∈ A, -9223372036854775808 ≤ x ∧ x ≤ 9223372036854775807) (hOr : ∀ x ∈ O, -9223372036854775808 ≤ x ∧ x ≤ 9223372036854775807) :
    Calls Try.prog 37 #[.agg #[v, .int .i64 loops], va, vo] w fun e w' => ∃ r D, e = .returned (.agg #[r, .int .i64 loops]) ∧ Ren C D ∧ Crs w' w'.heap.size r D ∧ Below w.heap.size w w' := by
  obtain ⟨s1, -, -, -⟩ := sizeB_iff (may_size hm)
  obtain ⟨a, cap, rfl⟩ : ∃ a cap, v = .slice a C.length cap := by obtain ⟨a, cap, e, -, -⟩ := hD; exact ⟨a, cap, e⟩
  by_cases h0 : 0 < C.length
  · refine (renamed_some a cap C loops va vo A O w h0 hm hD hA hO hAl hOl hAr hOr).mono ?_
    rintro e w' ⟨r, D, rfl, hr, ho, hb⟩
    have hl : D.length = C.length := by obtain ⟨f, g, q, I, -⟩ := hr; exact I.len
    exact ⟨r, D, rfl, hr, crs_own ho (by unfold maxLen; omega), hb⟩
  · obtain rfl : C = [] := List.length_eq_zero_iff.1 (by omega)
    obtain ⟨aa, ca, rfl, -⟩ := hA
    obtain ⟨ao, co, rfl, -⟩ := hO
    refine (renamed_nil a cap loops aa ao A.length O.length ca co w hAl hOl).mono ?_
    rintro e w' ⟨rfl, hb⟩
    exact ⟨_, [], rfl, ren_first hm (Nm.range 0), ⟨none, 0, rfl, by simp, fun h => by simp at h⟩, hb⟩

set_option maxHeartbeats 4000000 in
set_option maxRecDepth 100000 in
theorem canonAny_no (v : Value) (C : List Cr) (loops : Int) (va vo : Value) (w : World) (hm : mayD C loops = false) (h : Crs w w.heap.size v C) :
    Calls Try.prog 7 #[.agg #[v, .int .i64 loops], va, vo] w fun e w' => e = .returned (.bool true) ∧ Below w.heap.size w w' := by
  have HM : Hid (mayD C loops = false) := hm
  obtain ⟨a, cap, rfl⟩ : ∃ a cap, v = .slice a C.length cap := by obtain ⟨a, cap, e, -, -⟩ := h; exact ⟨a, cap, e⟩
  obtain ⟨X, hX⟩ : ∃ X, X = w.alloc (.cells #[.slice a C.length cap, .int .i64 loops] 35) := ⟨_, rfl⟩
  have HX : Hid (X = w.alloc (.cells #[.slice a C.length cap, .int .i64 loops] 35)) := hX
  have hsX : w.heap.size < X.heap.size := by rw [hX]; simp
  have HBW : Hid (Below w.heap.size w X) := (by rw [hX]; exact (Below.refl _ _).alloc (Nat.le_refl _) _ : Below w.heap.size w X)
  have HT : Hid (X.heap[w.heap.size]? = some (.cells #[.slice a C.length cap, .int .i64 loops] 35 (0, 0))) := (by rw [hX]; exact alloc_at rfl : X.heap[w.heap.size]? = some (.cells #[.slice a C.length cap, .int .i64 loops] 35 (0, 0)))
  have HC : Hid (∀ w', Below X.heap.size X w' → Crs w' w'.heap.size (.slice a C.length cap) C) := fun w' hb => (h.up HBW.out).up hb
  have HF : Hid (∀ w', Below X.heap.size X w' → w'.cell? ⟨w.heap.size, 0, none⟩ = some (.slice a C.length cap) ∧ w'.cell? ⟨w.heap.size, 1, none⟩ = some (.int .i64 loops) ∧ w.heap.size < w'.heap.size) := fun w' hb => by
    have g := (hb.block _ hsX).trans HT.out
    exact ⟨block_cell g rfl, block_cell g rfl, (Array.getElem?_eq_some_iff.1 g).1⟩
  clear hX hm h
  go_enter Try.func7, Try.ntmps7
  go_upto_region 3 with (go_at_call 24; rw [← HX.out]; refine (awake_any _).mono ?_; rintro e9 w1 ⟨rfl, hb1⟩)
  have H1 : Hid (Below X.heap.size X w1) := hb1
  clear hb1
  obtain ⟨p0, p1, p2⟩ := HF.out w1 H1.out
  go_upto_region 4 with (go_at_call 26; refine (codeMay_any _ C loops _ (HC.out _ H1.out)).mono ?_; rw [HM.out]; rintro e9 w2 ⟨rfl, hb2⟩)
  have H2 : Hid (Below X.heap.size X w2) := H1.out.trans (hb2.mono H1.out.size)
  clear hb2 p0 p1 p2
  obtain ⟨p0, p1, p2⟩ := HF.out w2 H2.out
  go_upto_region 5 with (go_at_call 32; refine (canon_no _ C loops _ HM.out (HC.out _ H2.out)).mono ?_; rintro e9 w3 ⟨rfl, hb3⟩)
  have H3 : Hid (Below w.heap.size w w3) := HBW.out.trans ((H2.out.trans (hb3.mono H2.out.size)).mono HBW.out.size)
  clear hb3 p0 p1 p2
  go_wp2
  go_ret
  exact ⟨rfl, H3.out.alloc H3.out.size _⟩

set_option maxHeartbeats 8000000 in
set_option maxRecDepth 100000 in
theorem canonAny_yes (v : Value) (C : List Cr) (loops : Int) (va vo : Value) (A O : List Int) (w : World) (hm : mayD C loops = true) (h : Crs w w.heap.size v C) (hA : RdAt w w.heap.size 1 va A.length (intsV A)) (hO : RdAt w w.heap.size 1 vo O.length (intsV O)) (hAl : A.length ≤ 140737488355328) (hOl : O.length ≤ 140737488355328) (hAr : ∀ x ∈ A, -9223372036854775808 ≤ x ∧ x ≤ 9223372036854775807) (hOr : ∀ x ∈ O, -9223372036854775808 ≤ x ∧ x ≤ 9223372036854775807) :
    Calls Try.prog 7 #[.agg #[v, .int .i64 loops], va, vo] w fun e w' => e = .returned (.bool true) ∧ Below w.heap.size w w' := by
  have HM : Hid (mayD C loops = true) := hm
  obtain ⟨a, cap, rfl⟩ : ∃ a cap, v = .slice a C.length cap := by obtain ⟨a, cap, e, -, -⟩ := h; exact ⟨a, cap, e⟩
  obtain ⟨X, hX⟩ : ∃ X, X = w.alloc (.cells #[.slice a C.length cap, .int .i64 loops] 35) := ⟨_, rfl⟩
  have HX : Hid (X = w.alloc (.cells #[.slice a C.length cap, .int .i64 loops] 35)) := hX
  have hsX : w.heap.size < X.heap.size := by rw [hX]; simp
  have HBW : Hid (Below w.heap.size w X) := (by rw [hX]; exact (Below.refl _ _).alloc (Nat.le_refl _) _ : Below w.heap.size w X)
  have HT : Hid (X.heap[w.heap.size]? = some (.cells #[.slice a C.length cap, .int .i64 loops] 35 (0, 0))) := (by rw [hX]; exact alloc_at rfl : X.heap[w.heap.size]? = some (.cells #[.slice a C.length cap, .int .i64 loops] 35 (0, 0)))
  have HC : Hid (∀ w', Below X.heap.size X w' → Crs w' w'.heap.size (.slice a C.length cap) C) := fun w' hb => (h.up HBW.out).up hb
  have HF : Hid (∀ w', Below X.heap.size X w' → w'.cell? ⟨w.heap.size, 0, none⟩ = some (.slice a C.length cap) ∧ w'.cell? ⟨w.heap.size, 1, none⟩ = some (.int .i64 loops) ∧ w.heap.size < w'.heap.size) := fun w' hb => by
    have g := (hb.block _ hsX).trans HT.out
    exact ⟨block_cell g rfl, block_cell g rfl, (Array.getElem?_eq_some_iff.1 g).1⟩
  have HRN : Hid (∀ w', Below X.heap.size X w' → Calls Try.prog 37 #[.agg #[.slice a C.length cap, .int .i64 loops], va, vo] w' fun e w2 => ∃ r D, e = .returned (.agg #[r, .int .i64 loops]) ∧ Ren C D ∧ Crs w2 w2.heap.size r D ∧ Below w'.heap.size w' w2) := fun w' hb => by
    have hb' : Below w.heap.size w w' := HBW.out.trans (hb.mono HBW.out.size)
    exact renamed_any _ C loops va vo A O w' hm (h.up hb') ((hA.on hb').mono hb'.size) ((hO.on hb').mono hb'.size) hAl hOl hAr hOr
  clear hX hm h hA hO hAr hOr
  go_enter Try.func7, Try.ntmps7
  go_upto_region 3 with (go_at_call 24; rw [← HX.out]; refine (awake_any _).mono ?_; rintro e9 w1 ⟨rfl, hb1⟩)
  have H1 : Hid (Below X.heap.size X w1) := hb1
  clear hb1
  obtain ⟨p0, p1, p2⟩ := HF.out w1 H1.out
  go_upto_region 6 with (go_at_call 26; refine (codeMay_any _ C loops _ (HC.out _ H1.out)).mono ?_; rw [HM.out]; rintro e9 w2 ⟨rfl, hb2⟩)
  have H2 : Hid (Below X.heap.size X w2) := H1.out.trans (hb2.mono H1.out.size)
  clear hb2 p0 p1 p2
  obtain ⟨p0, p1, p2⟩ := HF.out w2 H2.out
  go_upto_region 7 with (go_at_call 37; refine (HRN.out _ H2.out).mono ?_; rintro e9 w3 ⟨r, D, rfl, hr, hc3, hb3⟩; obtain ⟨a3, cap3, e3⟩ : ∃ a3 cap3, r = .slice a3 D.length cap3 := (by obtain ⟨a, cap, e, -, -⟩ := hc3; exact ⟨a, cap, e⟩); subst e3)
  have HRE : Hid (Ren C D) := hr
  have HMD : Hid (mayD D loops = true) := hr.may HM.out
  obtain ⟨Y, hY⟩ : ∃ Y, Y = w3.alloc (.cells #[.slice a3 D.length cap3, .int .i64 loops] 35) := ⟨_, rfl⟩
  rw [← hY]
  have hb3Y : Below w3.heap.size w3 Y := by rw [hY]; exact (Below.refl _ _).alloc (Nat.le_refl _) _
  have HTY : Hid (Y.heap[w3.heap.size]? = some (.cells #[.slice a3 D.length cap3, .int .i64 loops] 35 (0, 0))) := (by rw [hY]; exact alloc_at rfl : Y.heap[w3.heap.size]? = some (.cells #[.slice a3 D.length cap3, .int .i64 loops] 35 (0, 0)))
  have H3 : Hid (Below X.heap.size X Y) := (H2.out.trans (hb3.mono H2.out.size)).trans (hb3Y.mono (Nat.le_trans H2.out.size hb3.size))
  have HCD : Hid (∀ w', Below Y.heap.size Y w' → Crs w' w'.heap.size (.slice a3 D.length cap3) D) := fun w' hb => (hc3.up hb3Y).up hb
  have hsY : w3.heap.size < Y.heap.size := (Array.getElem?_eq_some_iff.1 HTY.out).1
  have HFD : Hid (∀ w', Below Y.heap.size Y w' → w'.cell? ⟨w3.heap.size, 0, none⟩ = some (.slice a3 D.length cap3) ∧ w'.cell? ⟨w3.heap.size, 1, none⟩ = some (.int .i64 loops) ∧ w3.heap.size < w'.heap.size) := fun w' hb => by
    have g := (hb.block _ hsY).trans HTY.out
    exact ⟨block_cell g rfl, block_cell g rfl, (Array.getElem?_eq_some_iff.1 g).1⟩
  clear hY hb3 hc3 hr hb3Y p0 p1 p2
  obtain ⟨p0, p1, p2⟩ := HF.out Y H3.out
  obtain ⟨d0, d1, d2⟩ := HFD.out Y (Below.refl _ _)
  go_upto_region 8 with (go_at_call 29; refine (same_yes _ _ C D loops loops _ HM.out HMD.out (HC.out _ H3.out) (HCD.out _ (Below.refl _ _))).mono ?_; rintro e9 w4 ⟨⟨b, rfl, -, hsame⟩, hb4⟩; obtain ⟨K1, K2, f1, f2, rfl⟩ := hsame rfl; rw [HRE.out.form HM.out f1 f2, (sameD_iff 0 0 K2 K2).2 ⟨rfl, rfl, fun j _ => crEq_refl _⟩])
  have H4 : Hid (Below Y.heap.size Y w4) := hb4
  clear hb4 hsame f1 f2 p0 p1 p2 d0 d1 d2
  obtain ⟨d0, d1, d2⟩ := HFD.out w4 H4.out
  go_upto_region 9 with (go_at_call 32; refine (canon_yes _ D loops _ HMD.out (HCD.out _ H4.out)).mono ?_; rintro e9 w5 ⟨r5, K, rfl, hK, hc5, hb5⟩; obtain ⟨a5, cap5, e5⟩ : ∃ a5 cap5, r5 = .slice a5 K.length cap5 := (by obtain ⟨a, cap, e, -, -⟩ := hc5; exact ⟨a, cap, e⟩); subst e5)
  have HMK : Hid (mayD K loops = true) := (by obtain ⟨f, g, q, I, hmk⟩ := form_iso_self HMD.out hK; exact hmk : mayD K loops = true)
  have HKF : Hid (IsForm D K) := hK
  obtain ⟨Z, hZ⟩ : ∃ Z, Z = w5.alloc (.cells #[.slice a5 K.length cap5, .int .i64 loops] 35) := ⟨_, rfl⟩
  rw [← hZ]
  have hb5Z : Below w5.heap.size w5 Z := by rw [hZ]; exact (Below.refl _ _).alloc (Nat.le_refl _) _
  have HTZ : Hid (Z.heap[w5.heap.size]? = some (.cells #[.slice a5 K.length cap5, .int .i64 loops] 35 (0, 0))) := (by rw [hZ]; exact alloc_at rfl : Z.heap[w5.heap.size]? = some (.cells #[.slice a5 K.length cap5, .int .i64 loops] 35 (0, 0)))
  have H5 : Hid (Below Y.heap.size Y Z) := (H4.out.trans (hb5.mono H4.out.size)).trans (hb5Z.mono (Nat.le_trans H4.out.size hb5.size))
  have HCK : Hid (∀ w', Below Z.heap.size Z w' → Crs w' w'.heap.size (.slice a5 K.length cap5) K) := fun w' hb => (hc5.up hb5Z).up hb
  have hsZ : w5.heap.size < Z.heap.size := (Array.getElem?_eq_some_iff.1 HTZ.out).1
  have HFK : Hid (∀ w', Below Z.heap.size Z w' → w'.cell? ⟨w5.heap.size, 0, none⟩ = some (.slice a5 K.length cap5) ∧ w'.cell? ⟨w5.heap.size, 1, none⟩ = some (.int .i64 loops) ∧ w5.heap.size < w'.heap.size) := fun w' hb => by
    have g := (hb.block _ hsZ).trans HTZ.out
    exact ⟨block_cell g rfl, block_cell g rfl, (Array.getElem?_eq_some_iff.1 g).1⟩
  clear hZ hb5 hc5 hK hb5Z d0 d1 d2
  obtain ⟨k0, k1, k2⟩ := HFK.out Z (Below.refl _ _)
  go_upto_region 10 with (go_at_call 32; refine (canon_yes _ K loops _ HMK.out (HCK.out _ (Below.refl _ _))).mono ?_; rintro e9 w6 ⟨r6, K', rfl, hK', hc6, hb6⟩; obtain rfl := form_self HMD.out HKF.out hK'; obtain ⟨a6, cap6, e6⟩ : ∃ a6 cap6, r6 = .slice a6 K'.length cap6 := (by obtain ⟨a, cap, e, -, -⟩ := hc6; exact ⟨a, cap, e⟩); subst e6)
  obtain ⟨U, hU⟩ : ∃ U, U = w6.alloc (.cells #[.slice a6 K'.length cap6, .int .i64 loops] 35) := ⟨_, rfl⟩
  rw [← hU]
  have hb6U : Below w6.heap.size w6 U := by rw [hU]; exact (Below.refl _ _).alloc (Nat.le_refl _) _
  have HTU : Hid (U.heap[w6.heap.size]? = some (.cells #[.slice a6 K'.length cap6, .int .i64 loops] 35 (0, 0))) := (by rw [hU]; exact alloc_at rfl : U.heap[w6.heap.size]? = some (.cells #[.slice a6 K'.length cap6, .int .i64 loops] 35 (0, 0)))
  have H6 : Hid (Below Z.heap.size Z U) := hb6.trans (hb6U.mono hb6.size)
  have HCU : Hid (∀ w', Below U.heap.size U w' → Crs w' w'.heap.size (.slice a6 K'.length cap6) K') := fun w' hb => (hc6.up hb6U).up hb
  have hsU : w6.heap.size < U.heap.size := (Array.getElem?_eq_some_iff.1 HTU.out).1
  have HFU : Hid (∀ w', Below U.heap.size U w' → w'.cell? ⟨w6.heap.size, 0, none⟩ = some (.slice a6 K'.length cap6) ∧ w'.cell? ⟨w6.heap.size, 1, none⟩ = some (.int .i64 loops) ∧ w6.heap.size < w'.heap.size) := fun w' hb => by
    have g := (hb.block _ hsU).trans HTU.out
    exact ⟨block_cell g rfl, block_cell g rfl, (Array.getElem?_eq_some_iff.1 g).1⟩
  clear hU hb6 hc6 hK' hb6U k0 k1 k2
  obtain ⟨k0, k1, k2⟩ := HFK.out U H6.out
  obtain ⟨u0, u1, u2⟩ := HFU.out U (Below.refl _ _)
  have hq : ((K'.length : Int) != (K'.length : Int)) = false := by simp
  go_upto_region 12 with (go_at_call 26; refine (codeMay_any _ K' loops _ (HCK.out _ H6.out)).mono ?_; rw [HMK.out]; rintro e9 w7 ⟨rfl, hb7⟩; obtain ⟨k0, k1, k2⟩ := HFK.out w7 (H6.out.trans (hb7.mono H6.out.size)); obtain ⟨u0, u1, u2⟩ := HFU.out w7 hb7)
  have H7 : Hid (Below U.heap.size U w7) := hb7
  have HBW7 : Hid (Below w.heap.size w w7) := HBW.out.trans ((H3.out.trans ((H5.out.trans ((H6.out.trans (hb7.mono H6.out.size)).mono H5.out.size)).mono H3.out.size)).mono HBW.out.size)
  have HCK7 : Hid (Crs w7 w7.heap.size (.slice a5 K'.length cap5) K') := HCK.out w7 (H6.out.trans (hb7.mono H6.out.size))
  have HCU7 : Hid (Crs w7 w7.heap.size (.slice a6 K'.length cap6) K') := HCU.out w7 hb7
  obtain ⟨s1, -, -, -⟩ := sizeB_iff (may_size HMK.out)
  clear hb7 HRN HX HT HC HF HTY HFD HCD HTZ HFK HTU HFU HCK HCU
  go_wp2
  go_loopw [16] (fun v16 wr => ∃ i : Nat, i ≤ K'.length ∧ v16 = .int .i64 (i : Nat) ∧ Hid (Below w7.heap.size w7 wr)) (fun v16 _ => K'.length - (intOf v16).toNat)
  case atStart => exact ⟨0, Nat.zero_le _, rfl, Below.refl _ _⟩
  case round =>
    rename World => W8
    obtain ⟨i, hin, rfl, hb8⟩ := hrel
    have hs8 := hb8.out.size
    replace k0 := bcell hb8.out k2 k0
    replace u0 := bcell hb8.out u2 u0
    have k3 : w5.heap.size < W8.heap.size := by omega
    have u3 : w6.heap.size < W8.heap.size := by omega
    by_cases hil : i < K'.length
    · have hdi : decide ((i : Int) < (K'.length : Int)) = true := by simp; omega
      have hdi2 : decide (i < K'.length) = true := by simp; omega
      obtain ⟨b1, o1, ea1, hb1, hC1⟩ := crs_some HCK7.out (by omega)
      subst ea1
      obtain ⟨x0, x1, x2, x3, x4⟩ := (hC1.on hb8.out hb1) i hil
      obtain ⟨b2, o2, ea2, hb2, hC2⟩ := crs_some HCU7.out (by omega)
      subst ea2
      obtain ⟨y0, y1, y2, y3, y4⟩ := (hC2.on hb8.out hb2) i hil
      clear hC1 hC2
      obtain ⟨x, hx⟩ : ∃ x, K'.getD i Cr.none = x := ⟨_, rfl⟩
      rw [hx] at x0 x1 x2 x3 x4 y0 y1 y2 y3 y4
      clear hx
      have hb1w : b1 < W8.heap.size := by omega
      have hb2w : b2 < W8.heap.size := by omega
      have n0 : (0 : Int) ≤ (i : Int) := by omega
      have n1 : (i : Int) < (K'.length : Int) := by omega
      have hcmp := neqCross x x
      rw [crEq_refl] at hcmp
      simp only [Bool.not_true] at hcmp
      go_wp2
      go_quiet (fail)
      go_wp2
      go_roundw
      case rel => exact ⟨i + 1, by omega, by go_num, below_drewN hb8.out _⟩
      case measure => simp only [intOf]; omega
    · obtain rfl : i = K'.length := by omega
      have hdi : decide ((K'.length : Int) < (K'.length : Int)) = false := by simp
      go_wp2
      go_ret
      exact ⟨rfl, HBW7.out.trans (hb8.out.mono HBW7.out.size)⟩

theorem canonAny_any (v : Value) (C : List Cr) (loops : Int) (va vo : Value) (A O : List Int) (w : World) (h : Crs w w.heap.size v C) (hA : RdAt w w.heap.size 1 va A.length (intsV A)) (hO : RdAt w w.heap.size 1 vo O.length (intsV O)) (hAl : A.length ≤ 140737488355328) (hOl : O.length ≤ 140737488355328) (hAr : ∀ x ∈ A, -9223372036854775808 ≤ x ∧ x ≤ 9223372036854775807) (hOr : ∀ x ∈ O, -9223372036854775808 ≤ x ∧ x ≤ 9223372036854775807) :
    Calls Try.prog 7 #[.agg #[v, .int .i64 loops], va, vo] w fun e w' => e = .returned (.bool true) ∧ Below w.heap.size w w' := by
  cases hm : mayD C loops with
  | false => exact canonAny_no v C loops va vo w hm h
  | true => exact canonAny_yes v C loops va vo A O w hm h hA hO hAl hOl hAr hOr
end Go.Proofs.Ytiighhmgegkemaa
