/- The walks of sign.Arf, and of sign.Signature where there is no drawing of one piece. -/
import Derived.Test.YtlcogbcpmneknaaSYf
namespace Go.Proofs.Ytlcogbcpmneknaa
open Go.RowKit Go.Maps

theorem sqC_small {w : Nat → Int} {U : Nat → Nat → Int} {n m : Nat} (hw : ∀ c, w c = 1 ∨ w c = -1) (hU : ∀ c, ((List.range n).map fun x => (U c x).natAbs).sum ≤ 2) (hm : m ≤ 16) (hn : n ≤ 100) : (sqC (tU w U m) n n).natAbs ≤ 9223372036854775807 := by
  obtain ⟨f, W, h0, hz, w0, w1, w2, fb, -⟩ := char_ex n (tU w U m)
  have hB := bd_small (n := n) hw hU hm hn
  have hb : ∀ k, -9223372036854775807 ≤ ((k + 1 : Nat) : Int) * f (k + 1) ∧ ((k + 1 : Nat) : Int) * f (k + 1) ≤ 9223372036854775807 := fun k => by
    rcases Nat.lt_or_ge n (k + 1) with q | q
    · rw [hz _ q]; omega
    · have b1 : (k + 1) * (f (k + 1)).natAbs ≤ n * bdC n (tU w U m) := Nat.mul_le_mul q (fb _)
      have b2 : (((k + 1 : Nat) : Int) * f (k + 1)).natAbs = (k + 1) * (f (k + 1)).natAbs := by rw [Int.natAbs_mul, Int.natAbs_natCast]
      omega
  rw [(sqC_is h0 w0 w1 w2 hb n).1]
  rcases Nat.eq_zero_or_pos n with q | q
  · rw [q, h0]; decide
  · have h1 := fb n
    have h2 : 1 * bdC n (tU w U m) ≤ n * bdC n (tU w U m) := Nat.mul_le_mul_right _ q
    omega
set_option maxHeartbeats 4000000 in
set_option maxRecDepth 100000 in
theorem signature_no (v : Value) (C : List Cr) (loops : Int) (w : World) (hr : oneN C loops ≠ 0) (h : Crs w w.heap.size v C) :
    Calls Try.prog 4 #[.agg #[v, .int .i64 loops]] w fun e w' => e = .returned (.tuple #[.int .i64 0, .int .i64 (oneN C loops)]) ∧ Below w.heap.size w w' := by
  obtain ⟨a, cap, rfl, hn, hx⟩ := h
  have HC : Hid (Crs w w.heap.size (.slice a C.length cap) C) := ⟨a, cap, rfl, hn, hx⟩
  have hK := fun W (hW : Crs W W.heap.size (.slice a C.length cap) C) => chart_bad (.slice a C.length cap) C loops W hr hW
  unfold noChart at hK
  have HK := hidS hK
  have hr0 : (oneN C loops != 0) = true := bne_iff_ne.2 hr
  generalize oneN C loops = r at HK hr0 ⊢
  have HB1 := hidS ((Below.refl w.heap.size w).alloc (Nat.le_refl _) (.cells #[.slice a C.length cap, .int .i64 loops] 24))
  clear hK hx hr
  go_enter Try.func4, Try.ntmps4
  go_wp2_with (go_at_call 11; refine (HK.out _ (HC.out.up HB1.out)).mono ?_; rintro e9 w2 ⟨rfl, hb2⟩; have HB2 := hidS (HB1.out.trans (hb2.mono (by simp))); clear hb2)
  go_ret2
  exact ⟨rfl, HB2.out.alloc HB2.out.size _⟩
set_option maxHeartbeats 4000000 in
set_option maxRecDepth 100000 in
theorem arf_no (v : Value) (C : List Cr) (loops : Int) (w : World) (hr : oneN C loops ≠ 0) (h : Crs w w.heap.size v C) :
    Calls Try.prog 6 #[.agg #[v, .int .i64 loops]] w fun e w' => e = .returned (.tuple #[.int .i64 0, .int .i64 (oneN C loops)]) ∧ Below w.heap.size w w' := by
  obtain ⟨a, cap, rfl, hn, hx⟩ := h
  have HC : Hid (Crs w w.heap.size (.slice a C.length cap) C) := ⟨a, cap, rfl, hn, hx⟩
  have hK := fun W (hW : Crs W W.heap.size (.slice a C.length cap) C) => chart_bad (.slice a C.length cap) C loops W hr hW
  unfold noChart at hK
  have HK := hidS hK
  have hr0 : (oneN C loops != 0) = true := bne_iff_ne.2 hr
  generalize oneN C loops = r at HK hr0 ⊢
  have HB1 := hidS ((Below.refl w.heap.size w).alloc (Nat.le_refl _) (.cells #[.slice a C.length cap, .int .i64 loops] 24))
  clear hK hx hr
  go_enter Try.func6, Try.ntmps6
  go_wp2_with (go_at_call 11; refine (HK.out _ (HC.out.up HB1.out)).mono ?_; rintro e9 w2 ⟨rfl, hb2⟩; have HB2 := hidS (HB1.out.trans (hb2.mono (by simp))); clear hb2)
  go_ret2
  exact ⟨rfl, HB2.out.alloc HB2.out.size _⟩
set_option maxHeartbeats 4000000 in
set_option maxRecDepth 100000 in
theorem detSize_any (a : Option Addr) (cap m : Nat) (f : Nat → Int) (w : World) (hm : m ≤ 1000) (hf : (f m).natAbs ≤ 9223372036854775807) (h : RdAt w w.heap.size 1 (.slice a (m + 1) cap) (m + 1) (intsV (mapI (m + 1) f))) :
    Calls Try.prog 17 #[.slice a (m + 1) cap] w fun e w' => e = .returned (.int .i64 (max (f m) (-(f m)))) ∧ Below w.heap.size w w' := by
  obtain ⟨a', c', e, hc⟩ := h
  injection e with e1 e2 e3
  subst e1 e3
  obtain ⟨g, off, ea, hl, hx⟩ := hc (by omega)
  subst ea
  have hcell : w.cell? ⟨g, off + m, none⟩ = some (.int .i64 (f m)) := by
    rw [hx m (by omega), intsV_get _ m (by rw [mapI_len]; omega), mapI_at _ _ _ (by omega)]
  obtain ⟨x, hxx⟩ : ∃ x, f m = x := ⟨_, rfl⟩
  rw [hxx] at hcell hf ⊢
  obtain ⟨M, hM⟩ : ∃ M, m + 1 = M := ⟨_, rfl⟩
  have eM : IntKind.i64.wrap ((M : Int) - 1) = (m : Int) := (IntWalk.i64_in _ (by omega)).trans (by omega)
  have m0 : (0 : Int) ≤ (m : Int) := by omega
  have m1 : (m : Int) < (M : Int) := by omega
  have ex : IntKind.i64.wrap (-x) = -x := IntWalk.i64_in _ (by omega)
  rw [hM]
  clear hc hx hM hxx
  have HB := hidS (Below.refl w.heap.size w)
  go_enter Try.func17, Try.ntmps17
  go_wp2
  all_goals
    go_ret
    refine ⟨?_, HB.out⟩
    first
      | exact congrArg (fun z => Ending.returned (Value.int .i64 z)) (show -x = max x (-x) by omega)
      | exact congrArg (fun z => Ending.returned (Value.int .i64 z)) (show x = max x (-x) by omega)
/-- Arf's number, by the size of the determinant. -/
def arN (x : Int) : Int := if (max x (-x)).tmod 8 = 1 ∨ (max x (-x)).tmod 8 = 7 then 0 else 1
set_option maxHeartbeats 4000000 in
set_option maxRecDepth 100000 in
theorem arf_yes (v : Value) (C : List Cr) (loops : Int) (s : Nat → Nat) (n : Nat) (w : World) (hm : mayD C loops = true) (hp : planarB C = true) (ho : oneB C loops = true) (hs : Shd C s) (hc : cnS s 0 (facesM C).length = n + 1) (hn : n ≤ 100) (hf : (sqC (fun i j => goT C s 0 C.length (i + 1) (j + 1)) n n).natAbs ≤ 9223372036854775807) (h : Crs w w.heap.size v C) :
    Calls Try.prog 6 #[.agg #[v, .int .i64 loops]] w fun e w' => e = .returned (.tuple (if 1 < (walksM C).length then #[.int .i64 0, .int .i64 9] else #[.int .i64 (arN (sqC (fun i j => goT C s 0 C.length (i + 1) (j + 1)) n n)), .int .i64 0])) ∧ Below w.heap.size w w' := by
  obtain ⟨a0, cap0, rfl, hn0, hx⟩ := h
  have HC : Hid (Crs w w.heap.size (.slice a0 C.length cap0) C) := ⟨a0, cap0, rfl, hn0, hx⟩
  have hK := fun W (hW : Crs W W.heap.size (.slice a0 C.length cap0) C) => chart_yes (.slice a0 C.length cap0) C loops s W hm hp ho hs hW
  have hG := fun a cap gF cF gT cT gM gS W (hW : Ch W a cap C gF gT gM gS (shL s (facesM C).length)) => goeritz_any a cap C loops gF cF gT cT gM gS s 0 W hm hp ho hs (by omega) hW
  have hWK := fun a cap gF cF gT cT W (hW : Dr W a cap C gF gT) => walks_any a cap C loops gF cF gT cT W hm hW
  unfold chV at hK hG
  unfold drV at hWK
  rw [hc] at hG
  obtain ⟨F, hF⟩ : ∃ F, (facesM C).length = F := ⟨_, rfl⟩
  rw [hF] at hK hG
  have hWF := fun B gt gs W h => withoutFirst_any B gt n gs (goT C s 0 C.length) W hn h
  have hCH := fun v W h => char_any v n (fun i j => goT C s 0 C.length (i + 1) (j + 1)) W hn h
  have hDS := fun a c W h => detSize_any a c n (sqC (fun i j => goT C s 0 C.length (i + 1) (j + 1)) n) W (by omega) hf h
  obtain ⟨f, hff⟩ : ∃ f, sqC (fun i j => goT C s 0 C.length (i + 1) (j + 1)) n = f := ⟨_, rfl⟩
  rw [hff] at hCH hDS hf ⊢
  obtain ⟨x, hxx⟩ : ∃ x, f n = x := ⟨_, rfl⟩
  rw [hxx] at hDS hf ⊢
  obtain ⟨nw, hnw⟩ : ∃ nw, (walksM C).length = nw := ⟨_, rfl⟩
  have HNW := hidS hnw
  rw [hnw]
  obtain ⟨m, hmn⟩ : ∃ m, n + 1 = m := ⟨_, rfl⟩
  rw [hmn] at hG hWF hCH hDS
  obtain ⟨y, hy⟩ : ∃ y, (max x (-x)).tmod 8 = y := ⟨_, rfl⟩
  have HAR : Hid (arN x = if y = 1 ∨ y = 7 then 0 else 1) := (by unfold arN; rw [hy] : arN x = if y = 1 ∨ y = 7 then 0 else 1)
  obtain ⟨mx, hmx⟩ : ∃ mx, max x (-x) = mx := ⟨_, rfl⟩
  rw [hmx] at hDS hy
  obtain ⟨ar, har⟩ : ∃ ar, arN x = ar := ⟨_, rfl⟩
  rw [har] at HAR ⊢
  obtain ⟨R, hR⟩ : ∃ R : Array Value, (if 1 < nw then #[.int .i64 0, .int .i64 9] else #[.int .i64 ar, .int .i64 0]) = R := ⟨_, rfl⟩
  have HRV := hidS hR
  rw [hR]
  have HK := hidS hK
  have HG := hidS hG
  have HWF := hidS hWF
  have HCH := hidS hCH
  have HDS := hidS hDS
  have HWK := hidS hWK
  have HB1 := hidS ((Below.refl w.heap.size w).alloc (Nat.le_refl _) (.cells #[.slice a0 C.length cap0, .int .i64 loops] 24))
  clear hK hG hx hF hmn hff hxx hWF hCH hDS hWK hc hs hp ho hm hn0 hn hf hnw hmx har hR
  go_enter Try.func6, Try.ntmps6
  go_upto_region 4 with (go_at_call 11; refine (HK.out _ (HC.out.up HB1.out)).mono ?_; rintro e9 w2 ⟨a, cap, gF, cF, gT, cT, gM, gS, rfl, hch, -, -, hb2⟩
                         have HB2 := hidS (HB1.out.trans (hb2.mono (by simp)))
                         have HCH2 := hidS hch
                         clear hb2 hch)
  obtain ⟨X, hX⟩ : ∃ X, w2.alloc (.cells #[.slice a C.length cap, .int .i64 loops, .slice (some ⟨gF, 0, none⟩) (2 * C.length + 1) cF, .slice (some ⟨gT, 0, none⟩) (2 * C.length + 1) cT, .map (some gM), .slice (some ⟨gS, 0, none⟩) F F] 43) = X := ⟨_, rfl⟩
  have hbX : Below w2.heap.size w2 X := by rw [← hX]; exact (Below.refl _ _).alloc (Nat.le_refl _) _
  have kX : X.heap[w2.heap.size]? = some (.cells #[.slice a C.length cap, .int .i64 loops, .slice (some ⟨gF, 0, none⟩) (2 * C.length + 1) cF, .slice (some ⟨gT, 0, none⟩) (2 * C.length + 1) cT, .map (some gM), .slice (some ⟨gS, 0, none⟩) F F] 43 (0, 0)) := by rw [← hX]; exact alloc_at rfl
  have x0 : X.cell? ⟨w2.heap.size, 0, none⟩ = some (.slice a C.length cap) := block_cell kX rfl
  have x1 : X.cell? ⟨w2.heap.size, 1, none⟩ = some (.int .i64 loops) := block_cell kX rfl
  have x2 : X.cell? ⟨w2.heap.size, 2, none⟩ = some (.slice (some ⟨gF, 0, none⟩) (2 * C.length + 1) cF) := block_cell kX rfl
  have x3 : X.cell? ⟨w2.heap.size, 3, none⟩ = some (.slice (some ⟨gT, 0, none⟩) (2 * C.length + 1) cT) := block_cell kX rfl
  have x4 : X.cell? ⟨w2.heap.size, 4, none⟩ = some (.map (some gM)) := block_cell kX rfl
  have x5 : X.cell? ⟨w2.heap.size, 5, none⟩ = some (.slice (some ⟨gS, 0, none⟩) F F) := block_cell kX rfl
  have lX : w2.heap.size < X.heap.size := (Array.getElem?_eq_some_iff.1 kX).1
  have HBX := hidS (HB2.out.trans (hbX.mono HB2.out.size))
  have HCX := hidS (HCH2.out.on hbX)
  have sX := HBX.out.size
  rw [hX]
  clear hX hbX kX
  have HXC : Hid (∀ W, Below X.heap.size X W → W.cell? ⟨w2.heap.size, 0, none⟩ = some (.slice a C.length cap) ∧ W.cell? ⟨w2.heap.size, 1, none⟩ = some (.int .i64 loops) ∧ W.cell? ⟨w2.heap.size, 2, none⟩ = some (.slice (some ⟨gF, 0, none⟩) (2 * C.length + 1) cF) ∧ W.cell? ⟨w2.heap.size, 3, none⟩ = some (.slice (some ⟨gT, 0, none⟩) (2 * C.length + 1) cT) ∧ W.cell? ⟨w2.heap.size, 4, none⟩ = some (.map (some gM)) ∧ W.cell? ⟨w2.heap.size, 5, none⟩ = some (.slice (some ⟨gS, 0, none⟩) F F) ∧ w2.heap.size < W.heap.size) := fun W hW => ⟨bcell hW lX x0, bcell hW lX x1, bcell hW lX x2, bcell hW lX x3, bcell hW lX x4, bcell hW lX x5, Nat.lt_of_lt_of_le lX hW.size⟩
  go_wp2_with (first
    | (go_at_call 16; refine (HWK.out _ _ _ _ _ _ _ HCX.out.dr).mono ?_; rintro e9 w3 ⟨v3, rfl, hn3, hb3⟩; refine Hid.out ?_))
  refine Lib.hid ?_
  obtain ⟨a3, c3, e3⟩ : ∃ a3 c3, v3 = .slice a3 nw c3 := by
    obtain ⟨ys, y1, y2, -⟩ := hn3
    obtain ⟨a3, c3, e3⟩ := own_capS y2
    exact ⟨a3, c3, by rw [e3, y1, HNW.out]⟩
  subst e3
  have HB3 := hidS (HBX.out.trans (hb3.mono sX))
  have HCX3 := hidS (HCX.out.on hb3)
  obtain ⟨y0, y1, y2, y3, y4, y5, lY⟩ := HXC.out w3 hb3
  clear hn3 hb3 x0 x1 x2 x3 x4 x5
  by_cases hw1 : 1 < nw
  · have hwI : (1 : Int) < (nw : Int) := by omega
    have HW1 := hidS hw1
    clear hw1
    go_wp2
    go_ret2
    exact ⟨by rw [← HRV.out, if_pos HW1.out]; rfl, HB3.out⟩
  · have hwI : ¬ (1 : Int) < (nw : Int) := by omega
    have HW1 := hidS hw1
    clear hw1
    go_wp2_with (first
      | (go_at_call 12; refine (HG.out _ _ _ _ _ _ _ _ _ HCX3.out).mono ?_; rintro e9 w4 ⟨gt, gs, rfl, ht4, hb4⟩; refine Hid.out ?_))
    refine Lib.hid ?_
    have HT4 := hidS ht4
    have HB4 := hidS (HB3.out.trans (hb4.mono HB3.out.size))
    clear ht4 hb4 y0 y1 y2 y3 y4 y5
    go_wp2_with (go_at_call 15; refine (HWF.out _ _ _ _ HT4.out).mono ?_; rintro e9 w5 ⟨v5, rfl, hq5, hb5⟩; refine Hid.out ?_)
    refine Lib.hid ?_
    have HQ5 := hidS hq5
    have HB5 := hidS (HB4.out.trans (hb5.mono HB4.out.size))
    clear hq5 hb5
    go_wp2_with (go_at_call 14; refine (HCH.out _ _ HQ5.out).mono ?_; rintro e9 w6 ⟨v6, rfl, hq6, hb6⟩; obtain ⟨a6, c6, e6⟩ := own_capS hq6; subst e6; refine Hid.out ?_)
    refine Lib.hid ?_
    have HQ6 := hidS (own_rd hq6)
    have HB6 := hidS (HB5.out.trans (hb6.mono HB5.out.size))
    clear hq6 hb6
    go_wp2_with (go_at_call 17; refine (HDS.out _ _ _ HQ6.out).mono ?_; rintro e9 w7 ⟨rfl, hb7⟩; refine Hid.out ?_)
    refine Lib.hid ?_
    have HB7 := hidS (HB6.out.trans (hb7.mono HB6.out.size))
    clear hb7
    have hyb : -8 < y ∧ y < 8 := by
      have h1 := Int.tmod_lt_of_pos mx (show (0 : Int) < 8 by decide)
      have h2 := Int.lt_tmod_of_pos mx (show (0 : Int) < 8 by decide)
      omega
    have ewy : IntKind.i64.wrap y = y := IntWalk.i64_in _ (by omega)
    by_cases y1 : y = 1
    · have e1 : (y == 1) = true := beq_iff_eq.2 y1
      have E : Hid (ar = 0) := (by rw [HAR.out, if_pos (Or.inl y1)] : ar = 0)
      clear y1
      go_wp2
      go_ret2
      exact ⟨by rw [← HRV.out, if_neg HW1.out, E.out]; rfl, HB7.out⟩
    · have e1 : (y == 1) = false := beq_eq_false_iff_ne.2 y1
      by_cases y7 : y = 7
      · have e7 : (y == 7) = true := beq_iff_eq.2 y7
        have E : Hid (ar = 0) := (by rw [HAR.out, if_pos (Or.inr y7)] : ar = 0)
        clear y1 y7
        go_wp2
        go_ret2
        exact ⟨by rw [← HRV.out, if_neg HW1.out, E.out]; rfl, HB7.out⟩
      · have e7 : (y == 7) = false := beq_eq_false_iff_ne.2 y7
        have E : Hid (ar = 1) := (by rw [HAR.out, if_neg (by omega)] : ar = 1)
        clear y1 y7
        go_wp2
        go_ret2
        exact ⟨by rw [← HRV.out, if_neg HW1.out, E.out]; rfl, HB7.out⟩
end Go.Proofs.Ytlcogbcpmneknaa
