/- The law HomflyTurns: its walk, the rings of FaceRings being given. -/
import Derived.Test.YtajmogojekichaaJ6
import Derived.Test.YtajmogojekichaaJ7
import Derived.Test.YtajmogojekichaaJ8
namespace Go.Proofs.Ytajmogojekichaa
open Go.RowKit

theorem slh_crs {w : World} {B : Nat} {v : Value} {C : List Cr} (h : Crs w B v C) : ∃ a c, v = .slice a C.length c := by
  obtain ⟨a, c, e, _⟩ := h
  exact ⟨a, c, e⟩
theorem slw_crs {w : World} {B : Nat} {v : Value} {C : List Cr} (h : CrsW w B v C) : ∃ a c, v = .slice a C.length c := by
  rcases h with ⟨rfl, rfl⟩ | ⟨ad, cap, rfl, rfl⟩ | ⟨b, off, cap, rfl, -, -⟩
  · exact ⟨_, _, rfl⟩
  · exact ⟨_, _, rfl⟩
  · exact ⟨_, _, rfl⟩

set_option maxHeartbeats 8000000 in
set_option maxRecDepth 100000 in
theorem homflyTurns_no (hFR : FaceRingsOk) (v : Value) (C : List Cr) (loops k : Int) (w : World) (hl : C.length * 40 ≤ 140737488355328) (h : CrsW w w.heap.size v C) (hn : dN C loops k ≠ 0) :
    Calls Try.prog 12 #[.agg #[v, .int .i64 loops], .int .i64 k] w fun e w' => e = .returned (.bool true) ∧ Below w.heap.size w w' := by
  have HFA : Hid FaceRingsOk := hFR
  have HL : Hid (C.length * 40 ≤ 140737488355328) := hl
  have HN : Hid (dN C loops k ≠ 0) := hn
  obtain ⟨r, hr⟩ : ∃ r, dN C loops k = r := ⟨_, rfl⟩
  have HR : Hid (dN C loops k = r) := hr
  rw [hr] at hn
  have hr0 : (r == 0) = false := beq_eq_false_iff_ne.2 hn
  have hrr : (r == r) = true := beq_self_eq_true r
  clear hr
  obtain ⟨a, cap, rfl⟩ := slw_crs h
  obtain ⟨w0, hw0⟩ : ∃ w0, w0 = w.alloc (.cells #[.slice a C.length cap, .int .i64 loops] 24) := ⟨_, rfl⟩
  have HW0 : Hid (w0 = w.alloc (.cells #[.slice a C.length cap, .int .i64 loops] 24)) := hw0
  have hs0 : w.heap.size < w0.heap.size := by rw [hw0]; simp
  have HB0 : Hid (Below w.heap.size w w0) := (by rw [hw0]; exact (Below.refl _ _).alloc (Nat.le_refl _) _ : Below w.heap.size w w0)
  have HT0 : Hid (w0.heap[w.heap.size]? = some (.cells #[.slice a C.length cap, .int .i64 loops] 24 (0, 0))) := (by rw [hw0]; exact alloc_at rfl : w0.heap[w.heap.size]? = some (.cells #[.slice a C.length cap, .int .i64 loops] 24 (0, 0)))
  have HCW : Hid (∀ w', Below w0.heap.size w0 w' → CrsW w' w'.heap.size (.slice a C.length cap) C) := fun w' hb => (h.up HB0.out).up hb
  have HCC : Hid (∀ w', Below w0.heap.size w0 w' → Crs w' w'.heap.size (.slice a C.length cap) C) := fun w' hb => (HCW.out w' hb).crs (by have := HL.out; unfold maxLen; omega)
  have HF : Hid (∀ w', Below w0.heap.size w0 w' → w'.cell? ⟨w.heap.size, 0, none⟩ = some (.slice a C.length cap) ∧ w'.cell? ⟨w.heap.size, 1, none⟩ = some (.int .i64 loops) ∧ w.heap.size < w'.heap.size) := fun w' hw' => by
    have g0 := (hw'.block _ hs0).trans HT0.out
    exact ⟨block_cell g0 rfl, block_cell g0 rfl, (Array.getElem?_eq_some_iff.1 g0).1⟩
  clear hw0 h hl hFR
  go_enter Try.func12, Try.ntmps12
  go_wp2_with (go_at_call 27; rw [← HW0.out]; refine (diagramOf_any _ C loops _ HL.out (HCW.out _ (Below.refl _ _))).mono ?_; rintro e9 w1 ⟨v1, rfl, hc1, hb1⟩; refine Hid.out ?_)
  refine Lib.hid ?_
  obtain ⟨a1, c1, rfl⟩ := slh_crs hc1
  have HB1 : Hid (Below w0.heap.size w0 w1) := hb1
  have HC1 : Hid (Crs w1 w1.heap.size (.slice a1 C.length c1) C) := hc1
  clear hb1 hc1
  go_wp2_with (go_at_call 48; refine (change_no HFA.out a1 c1 C loops k _ HN.out HC1.out).mono ?_; rw [HR.out]; rintro e9 w2 ⟨rfl, hb2⟩; refine Hid.out ?_)
  refine Lib.hid ?_
  have HB2 : Hid (Below w0.heap.size w0 w2) := HB1.out.trans (hb2.mono HB1.out.size)
  clear hb2
  obtain ⟨X, hX0⟩ : ∃ X, X = w2.alloc (.cells #[.slice none 0 0, .int .i64 0] 24) := ⟨_, rfl⟩
  have HX : Hid (X = w2.alloc (.cells #[.slice none 0 0, .int .i64 0] 24)) := hX0
  have HBX : Hid (Below w2.heap.size w2 X) := (by rw [hX0]; exact (Below.refl _ _).alloc (Nat.le_refl _) _ : Below w2.heap.size w2 X)
  have HTX : Hid (X.heap[w2.heap.size]? = some (.cells #[.slice none 0 0, .int .i64 0] 24 (0, 0))) := (by rw [hX0]; exact alloc_at rfl : X.heap[w2.heap.size]? = some (.cells #[.slice none 0 0, .int .i64 0] 24 (0, 0)))
  have hsX : w2.heap.size < X.heap.size := by rw [hX0]; simp
  clear hX0
  have HX0 : Hid (Below w0.heap.size w0 X) := HB2.out.trans (HBX.out.mono HB2.out.size)
  have HGX : Hid (∀ w', Below X.heap.size X w' → w'.cell? ⟨w2.heap.size, 0, none⟩ = some (.slice none 0 0) ∧ w'.cell? ⟨w2.heap.size, 1, none⟩ = some (.int .i64 0) ∧ w2.heap.size < w'.heap.size) := fun w' hw' => by
    have g0 := (hw'.block _ hsX).trans HTX.out
    exact ⟨block_cell g0 rfl, block_cell g0 rfl, (Array.getElem?_eq_some_iff.1 g0).1⟩
  go_upto_region 2 with (fail)
  rw [← HX.out]
  obtain ⟨p0, p1, p2⟩ := HF.out X HX0.out
  go_wp2_with (go_at_call 27; refine (diagramOf_any _ C loops _ HL.out (HCW.out _ HX0.out)).mono ?_; rintro e9 w3 ⟨v3, rfl, hc3, hb3⟩; refine Hid.out ?_)
  refine Lib.hid ?_
  obtain ⟨a3, c3, rfl⟩ := slh_crs hc3
  have HB3 : Hid (Below X.heap.size X w3) := hb3
  have HC3 : Hid (Crs w3 w3.heap.size (.slice a3 C.length c3) C) := hc3
  clear hb3 hc3 p0 p1 p2
  go_wp2_with (go_at_call 49; refine (smooth_no HFA.out a3 c3 C loops k _ HN.out HC3.out).mono ?_; rw [HR.out]; rintro e9 w4 ⟨rfl, hb4⟩; refine Hid.out ?_)
  refine Lib.hid ?_
  have HB4 : Hid (Below X.heap.size X w4) := HB3.out.trans (hb4.mono HB3.out.size)
  clear hb4
  obtain ⟨Y, hY0⟩ : ∃ Y, Y = w4.alloc (.cells #[.slice none 0 0, .int .i64 0] 24) := ⟨_, rfl⟩
  have HY : Hid (Y = w4.alloc (.cells #[.slice none 0 0, .int .i64 0] 24)) := hY0
  have HBY : Hid (Below w4.heap.size w4 Y) := (by rw [hY0]; exact (Below.refl _ _).alloc (Nat.le_refl _) _ : Below w4.heap.size w4 Y)
  have HTY : Hid (Y.heap[w4.heap.size]? = some (.cells #[.slice none 0 0, .int .i64 0] 24 (0, 0))) := (by rw [hY0]; exact alloc_at rfl : Y.heap[w4.heap.size]? = some (.cells #[.slice none 0 0, .int .i64 0] 24 (0, 0)))
  have hsY : w4.heap.size < Y.heap.size := by rw [hY0]; simp
  clear hY0
  have HXY : Hid (Below X.heap.size X Y) := HB4.out.trans (HBY.out.mono HB4.out.size)
  have HY0 : Hid (Below w0.heap.size w0 Y) := HX0.out.trans (HXY.out.mono HX0.out.size)
  have HGY : Hid (∀ w', Below Y.heap.size Y w' → w'.cell? ⟨w4.heap.size, 0, none⟩ = some (.slice none 0 0) ∧ w'.cell? ⟨w4.heap.size, 1, none⟩ = some (.int .i64 0) ∧ w4.heap.size < w'.heap.size) := fun w' hw' => by
    have g0 := (hw'.block _ hsY).trans HTY.out
    exact ⟨block_cell g0 rfl, block_cell g0 rfl, (Array.getElem?_eq_some_iff.1 g0).1⟩
  obtain ⟨qn, hqn⟩ : ∃ q, noN C loops = q := ⟨_, rfl⟩
  have HQR : Hid (noN C loops = qn) := hqn
  clear hqn
  go_upto_region 3 with (fail)
  rw [← HY.out]
  obtain ⟨p0, p1, p2⟩ := HF.out Y HY0.out
  go_wp2_with (go_at_call 50; refine (planarMay_any _ C loops _ (HCC.out _ HY0.out)).mono ?_; rw [HQR.out]; rintro e9 w5 ⟨rfl, hb5⟩; refine Hid.out ?_)
  refine Lib.hid ?_
  have HB5 : Hid (Below Y.heap.size Y w5) := hb5
  have HX5 : Hid (Below X.heap.size X w5) := HXY.out.trans (HB5.out.mono HXY.out.size)
  have HB05 : Hid (Below w0.heap.size w0 w5) := HY0.out.trans (HB5.out.mono HY0.out.size)
  clear hb5 p0 p1 p2
  obtain ⟨p0, p1, p2⟩ := HF.out w5 HB05.out
  obtain ⟨x0, x1, x2⟩ := HGX.out w5 HX5.out
  obtain ⟨y0, y1, y2⟩ := HGY.out w5 HB5.out
  by_cases hq0 : qn = 0
  · subst hq0
    have HRE : Hid (r = if k < 0 ∨ (C.length : Int) ≤ k then 3 else if 8 < C.length then 2 else 0) := (by rw [← HR.out]; unfold dN; rw [if_neg (fun q => q HQR.out)] : r = if k < 0 ∨ (C.length : Int) ≤ k then 3 else if 8 < C.length then 2 else 0)
    by_cases h1 : k < 0
    · have d1 : decide (k < 0) = true := by simpa using h1
      obtain rfl : r = 3 := by rw [HRE.out, if_pos (Or.inl h1)]
      clear h1
      go_wp2
      go_ret
      exact ⟨by first | rfl | simp, HB0.out.trans (HB05.out.mono (by omega))⟩
    · have d1 : decide (k < 0) = false := by simpa using h1
      by_cases h2 : (C.length : Int) ≤ k
      · have d2 : decide ((C.length : Int) ≤ k) = true := by simpa using h2
        obtain rfl : r = 3 := by rw [HRE.out, if_pos (Or.inr h2)]
        clear h1 h2
        go_wp2
        go_ret
        exact ⟨by first | rfl | simp, HB0.out.trans (HB05.out.mono (by omega))⟩
      · have d2 : decide ((C.length : Int) ≤ k) = false := by simpa using h2
        by_cases h8 : 8 < C.length
        · have d8 : decide ((8 : Int) < (C.length : Int)) = true := by simp; omega
          have d9 : decide (8 < C.length) = true := by simp; omega
          obtain rfl : r = 2 := by rw [HRE.out, if_neg (by omega), if_pos h8]
          clear h1 h2 h8
          go_wp2
          go_ret
          exact ⟨by first | rfl | simp, HB0.out.trans (HB05.out.mono (by omega))⟩
        · exact absurd (by rw [HRE.out, if_neg (by omega), if_neg h8]) hn
  · obtain rfl : qn = r := by rw [← HR.out]; unfold dN; rw [HQR.out, if_pos hq0]
    clear hq0
    go_wp2
    go_ret
    exact ⟨by first | rfl | simp, HB0.out.trans (HB05.out.mono (by omega))⟩

set_option maxHeartbeats 8000000 in
set_option maxRecDepth 100000 in
theorem homflyTurns_big (hFR : FaceRingsOk) (v : Value) (C : List Cr) (loops k : Int) (w : World) (hl : C.length * 40 ≤ 140737488355328) (h : CrsW w w.heap.size v C) (hn : dN C loops k = 0) (hbig0 : ∀ n : Nat, k = (n : Int) → 16 < loops + (smL C n : Nat)) :
    Calls Try.prog 12 #[.agg #[v, .int .i64 loops], .int .i64 k] w fun e w' => e = .returned (.bool true) ∧ Below w.heap.size w w' := by
  have HFA : Hid FaceRingsOk := hFR
  have HL : Hid (C.length * 40 ≤ 140737488355328) := hl
  have HN : Hid (dN C loops k = 0) := hn
  obtain ⟨hz, k0, k1, k8⟩ := dN_zero hn
  obtain ⟨kn, rfl⟩ : ∃ n : Nat, k = (n : Int) := ⟨k.toNat, by omega⟩
  have hk : kn < C.length := by omega
  have HZ : Hid (noN C loops = 0) := hz
  have HM : Hid (mayD C loops = true) := (noN_zero hz).1
  obtain ⟨s1, l0, l16, -⟩ := sizeB_iff (may_size HM.out)
  have HSS : Hid (reTo C [kn] (numM (uniM C (sx C) [kn]) (thB C kn (uniM C (sx C) [kn]) C.length 0)) C.length = smD C kn ∧ cntB (nfB (uniM C (sx C) [kn]) (thB C kn (uniM C (sx C) [kn]) C.length 0)) (2 * C.length + 1) = smL C kn) := smooth_same HM.out kn _ rfl
  have HSO : Hid (∀ W a cap, Crs W W.heap.size (.slice a C.length cap) C → Calls Try.prog 51 #[.agg #[.slice a C.length cap, .int .i64 loops], .int .i64 (kn : Nat)] W fun e w' => ∃ v, e = .returned (.agg #[v, .int .i64 (loops + (smL C kn : Nat))]) ∧ w'.ownsRow W.heap.size 99 5 v (smD C kn).length (crossCells (smD C kn)) ∧ Below W.heap.size W w') := fun W a cap hW => by
    have h := smoothOf_any a cap C loops kn W HM.out hk hW
    rw [HSS.out.1, HSS.out.2] at h
    exact h
  have hsl : smL C kn ≤ 33 := Nat.le_trans (cntB_le _ _) (by omega)
  have HDL : Hid ((smD C kn).length ≤ 16) := Nat.le_trans (reTo_len _ _ _ _) s1
  have HSM : Hid (∀ W a cap, Crs W W.heap.size (.slice a C.length cap) C → Calls Try.prog 49 #[.agg #[.slice a C.length cap, .int .i64 loops], .int .i64 (kn : Nat)] W fun e w' => (e = .returned (.tuple #[.agg #[.slice none 0 0, .int .i64 0], .int .i64 2])) ∧ Below W.heap.size W w') := fun W a cap hW => (smooth_yes HFA.out a cap C loops kn W HN.out hW).mono fun e w' ho => ⟨by rcases ho.1 with q | q; exact q.2; exact absurd q.1 (by have := hbig0 kn rfl; omega), ho.2⟩
  have HLM : Hid ((C.set kn (mirX (C.getD kn Cr.none))).length = C.length) := (by simp : (C.set kn (mirX (C.getD kn Cr.none))).length = C.length)
  have HCH : Hid (∀ W a cap, Crs W W.heap.size (.slice a C.length cap) C → Calls Try.prog 48 #[.agg #[.slice a C.length cap, .int .i64 loops], .int .i64 (kn : Nat)] W fun e w' => ∃ v, e = .returned (.tuple #[.agg #[v, .int .i64 loops], .int .i64 0]) ∧ Crs w' w'.heap.size v (C.set kn (mirX (C.getD kn Cr.none))) ∧ Below W.heap.size W w') := fun W a cap hW => (change_yes HFA.out a cap C loops kn W HN.out hW).mono fun e w' ⟨v, h1, h2, h3⟩ => ⟨v, h1, crs_own (by rw [HLM.out]; exact h2) (by rw [HLM.out]; unfold maxLen; omega), h3⟩
  have HCO : Hid (∀ W a cap, Crs W W.heap.size (.slice a C.length cap) C → Calls Try.prog 52 #[.agg #[.slice a C.length cap, .int .i64 loops], .int .i64 (kn : Nat)] W fun e w' => ∃ v, e = .returned (.agg #[v, .int .i64 loops]) ∧ Crs w' w'.heap.size v (C.set kn (mirX (C.getD kn Cr.none))) ∧ Below W.heap.size W w') := fun W a cap hW => (changeOf_any a cap C loops kn W s1 hk hW).mono fun e w' ⟨v, h1, h2, h3⟩ => ⟨v, h1, crs_own (by rw [HLM.out]; exact h2) (by rw [HLM.out]; unfold maxLen; omega), h3⟩
  have d1 : decide ((kn : Int) < 0) = false := by simp
  have d2 : decide ((C.length : Int) ≤ (kn : Int)) = false := by simp; omega
  have d3 : decide (C.length ≤ kn) = false := by simp; omega
  have d8 : decide ((8 : Int) < (C.length : Int)) = false := by simp; omega
  have d9 : decide (8 < C.length) = false := by simp; omega
  obtain ⟨E, hE⟩ : ∃ E, C.set kn (mirX (C.getD kn Cr.none)) = E := ⟨_, rfl⟩
  obtain ⟨D, hD⟩ : ∃ D, smD C kn = D := ⟨_, rfl⟩
  obtain ⟨q, hq⟩ : ∃ q, smL C kn = q := ⟨_, rfl⟩
  rw [hE] at HCH HCO
  rw [hD, hq] at HSO
  rw [hD] at HDL
  have hbig := hbig0 kn rfl
  rw [hq] at hsl hbig
  clear hn hz hE hD hq HSS HLM hbig0
  have dq : decide (16 < loops + (q : Int)) = true := by simpa using hbig
  clear hbig
  obtain ⟨a, cap, rfl⟩ := slw_crs h
  obtain ⟨w0, hw0⟩ : ∃ w0, w0 = w.alloc (.cells #[.slice a C.length cap, .int .i64 loops] 24) := ⟨_, rfl⟩
  have HW0 : Hid (w0 = w.alloc (.cells #[.slice a C.length cap, .int .i64 loops] 24)) := hw0
  have hs0 : w.heap.size < w0.heap.size := by rw [hw0]; simp
  have HB0 : Hid (Below w.heap.size w w0) := (by rw [hw0]; exact (Below.refl _ _).alloc (Nat.le_refl _) _ : Below w.heap.size w w0)
  have HT0 : Hid (w0.heap[w.heap.size]? = some (.cells #[.slice a C.length cap, .int .i64 loops] 24 (0, 0))) := (by rw [hw0]; exact alloc_at rfl : w0.heap[w.heap.size]? = some (.cells #[.slice a C.length cap, .int .i64 loops] 24 (0, 0)))
  have HCW : Hid (∀ w', Below w0.heap.size w0 w' → CrsW w' w'.heap.size (.slice a C.length cap) C) := fun w' hb => (h.up HB0.out).up hb
  have HCC : Hid (∀ w', Below w0.heap.size w0 w' → Crs w' w'.heap.size (.slice a C.length cap) C) := fun w' hb => (HCW.out w' hb).crs (by have := HL.out; unfold maxLen; omega)
  have HF : Hid (∀ w', Below w0.heap.size w0 w' → w'.cell? ⟨w.heap.size, 0, none⟩ = some (.slice a C.length cap) ∧ w'.cell? ⟨w.heap.size, 1, none⟩ = some (.int .i64 loops) ∧ w.heap.size < w'.heap.size) := fun w' hw' => by
    have g0 := (hw'.block _ hs0).trans HT0.out
    exact ⟨block_cell g0 rfl, block_cell g0 rfl, (Array.getElem?_eq_some_iff.1 g0).1⟩
  clear hw0 h hl hFR
  go_enter Try.func12, Try.ntmps12
  go_wp2_with (go_at_call 27; rw [← HW0.out]; refine (diagramOf_any _ C loops _ HL.out (HCW.out _ (Below.refl _ _))).mono ?_; rintro e9 w1 ⟨v1, rfl, hc1, hb1⟩; refine Hid.out ?_)
  refine Lib.hid ?_
  obtain ⟨a1, c1, rfl⟩ := slh_crs hc1
  have HB1 : Hid (Below w0.heap.size w0 w1) := hb1
  have HC1 : Hid (Crs w1 w1.heap.size (.slice a1 C.length c1) C) := hc1
  clear hb1 hc1
  go_wp2_with (go_at_call 48; refine (HCH.out _ a1 c1 HC1.out).mono ?_; rintro e9 w2 ⟨v2, rfl, hr2, hb2⟩; refine Hid.out ?_)
  refine Lib.hid ?_
  have HB2 : Hid (Below w0.heap.size w0 w2) := HB1.out.trans (hb2.mono HB1.out.size)
  clear hb2
  obtain ⟨a2, c2, rfl⟩ := slh_crs hr2
  have HR2 : Hid (Crs w2 w2.heap.size (.slice a2 E.length c2) E) := hr2
  clear hr2
  obtain ⟨X, hX0⟩ : ∃ X, X = w2.alloc (.cells #[.slice a2 E.length c2, .int .i64 loops] 24) := ⟨_, rfl⟩
  have HX : Hid (X = w2.alloc (.cells #[.slice a2 E.length c2, .int .i64 loops] 24)) := hX0
  have HBX : Hid (Below w2.heap.size w2 X) := (by rw [hX0]; exact (Below.refl _ _).alloc (Nat.le_refl _) _ : Below w2.heap.size w2 X)
  have HTX : Hid (X.heap[w2.heap.size]? = some (.cells #[.slice a2 E.length c2, .int .i64 loops] 24 (0, 0))) := (by rw [hX0]; exact alloc_at rfl : X.heap[w2.heap.size]? = some (.cells #[.slice a2 E.length c2, .int .i64 loops] 24 (0, 0)))
  have hsX : w2.heap.size < X.heap.size := by rw [hX0]; simp
  clear hX0
  have HX0 : Hid (Below w0.heap.size w0 X) := HB2.out.trans (HBX.out.mono HB2.out.size)
  have HGX : Hid (∀ w', Below X.heap.size X w' → w'.cell? ⟨w2.heap.size, 0, none⟩ = some (.slice a2 E.length c2) ∧ w'.cell? ⟨w2.heap.size, 1, none⟩ = some (.int .i64 loops) ∧ w2.heap.size < w'.heap.size) := fun w' hw' => by
    have g0 := (hw'.block _ hsX).trans HTX.out
    exact ⟨block_cell g0 rfl, block_cell g0 rfl, (Array.getElem?_eq_some_iff.1 g0).1⟩
  go_upto_region 2 with (fail)
  rw [← HX.out]
  obtain ⟨p0, p1, p2⟩ := HF.out X HX0.out
  go_wp2_with (go_at_call 27; refine (diagramOf_any _ C loops _ HL.out (HCW.out _ HX0.out)).mono ?_; rintro e9 w3 ⟨v3, rfl, hc3, hb3⟩; refine Hid.out ?_)
  refine Lib.hid ?_
  obtain ⟨a3, c3, rfl⟩ := slh_crs hc3
  have HB3 : Hid (Below X.heap.size X w3) := hb3
  have HC3 : Hid (Crs w3 w3.heap.size (.slice a3 C.length c3) C) := hc3
  clear hb3 hc3 p0 p1 p2
  go_wp2_with (go_at_call 49; refine (HSM.out _ a3 c3 HC3.out).mono ?_; rintro e9 w4 ⟨rfl, hb4⟩; refine Hid.out ?_)
  refine Lib.hid ?_
  have HB4 : Hid (Below X.heap.size X w4) := HB3.out.trans (hb4.mono HB3.out.size)
  clear hb4
  obtain ⟨Y, hY0⟩ : ∃ Y, Y = w4.alloc (.cells #[.slice none 0 0, .int .i64 0] 24) := ⟨_, rfl⟩
  have HY : Hid (Y = w4.alloc (.cells #[.slice none 0 0, .int .i64 0] 24)) := hY0
  have HBY : Hid (Below w4.heap.size w4 Y) := (by rw [hY0]; exact (Below.refl _ _).alloc (Nat.le_refl _) _ : Below w4.heap.size w4 Y)
  have HTY : Hid (Y.heap[w4.heap.size]? = some (.cells #[.slice none 0 0, .int .i64 0] 24 (0, 0))) := (by rw [hY0]; exact alloc_at rfl : Y.heap[w4.heap.size]? = some (.cells #[.slice none 0 0, .int .i64 0] 24 (0, 0)))
  have hsY : w4.heap.size < Y.heap.size := by rw [hY0]; simp
  clear hY0
  have HXY : Hid (Below X.heap.size X Y) := HB4.out.trans (HBY.out.mono HB4.out.size)
  have HY0 : Hid (Below w0.heap.size w0 Y) := HX0.out.trans (HXY.out.mono HX0.out.size)
  have HGY : Hid (∀ w', Below Y.heap.size Y w' → w'.cell? ⟨w4.heap.size, 0, none⟩ = some (.slice none 0 0) ∧ w'.cell? ⟨w4.heap.size, 1, none⟩ = some (.int .i64 0) ∧ w4.heap.size < w'.heap.size) := fun w' hw' => by
    have g0 := (hw'.block _ hsY).trans HTY.out
    exact ⟨block_cell g0 rfl, block_cell g0 rfl, (Array.getElem?_eq_some_iff.1 g0).1⟩
  go_upto_region 3 with (fail)
  rw [← HY.out]
  obtain ⟨p0, p1, p2⟩ := HF.out Y HY0.out
  go_wp2_with (go_at_call 50; refine (planarMay_any _ C loops _ (HCC.out _ HY0.out)).mono ?_; rw [HZ.out]; rintro e9 w5 ⟨rfl, hb5⟩; refine Hid.out ?_)
  refine Lib.hid ?_
  have HB5 : Hid (Below Y.heap.size Y w5) := hb5
  have HX5 : Hid (Below X.heap.size X w5) := HXY.out.trans (HB5.out.mono HXY.out.size)
  have HB05 : Hid (Below w0.heap.size w0 w5) := HY0.out.trans (HB5.out.mono HY0.out.size)
  clear hb5 p0 p1 p2
  obtain ⟨p0, p1, p2⟩ := HF.out w5 HB05.out
  obtain ⟨x0, x1, x2⟩ := HGX.out w5 HX5.out
  obtain ⟨y0, y1, y2⟩ := HGY.out w5 HB5.out
  go_upto_region 10 with (fail)
  go_wp2_with (go_at_call 51; refine (HSO.out _ a cap (HCC.out _ HB05.out)).mono ?_; rintro e9 w6 ⟨v6, rfl, hr6, hb6⟩; refine Hid.out ?_)
  refine Lib.hid ?_
  obtain ⟨a6, c6, ev6⟩ := own_capS hr6
  subst ev6
  have HB6 : Hid (Below w5.heap.size w5 w6) := hb6
  have HR6 : Hid (Crs w6 w6.heap.size (.slice a6 D.length c6) D) := crs_own hr6 (by have := HDL.out; unfold maxLen; omega)
  clear hr6 hb6 p0 p1 p2 x0 x1 x2 y0 y1 y2
  obtain ⟨V, hV0⟩ : ∃ V, V = w6.alloc (.cells #[.slice a6 D.length c6, .int .i64 (loops + (q : Nat))] 24) := ⟨_, rfl⟩
  have HV : Hid (V = w6.alloc (.cells #[.slice a6 D.length c6, .int .i64 (loops + (q : Nat))] 24)) := hV0
  have HBV : Hid (Below w6.heap.size w6 V) := (by rw [hV0]; exact (Below.refl _ _).alloc (Nat.le_refl _) _ : Below w6.heap.size w6 V)
  have HTV : Hid (V.heap[w6.heap.size]? = some (.cells #[.slice a6 D.length c6, .int .i64 (loops + (q : Nat))] 24 (0, 0))) := (by rw [hV0]; exact alloc_at rfl : V.heap[w6.heap.size]? = some (.cells #[.slice a6 D.length c6, .int .i64 (loops + (q : Nat))] 24 (0, 0)))
  have hsV : w6.heap.size < V.heap.size := by rw [hV0]; simp
  clear hV0
  have HRV : Hid (Crs V V.heap.size (.slice a6 D.length c6) D) := HR6.out.up HBV.out
  have H5V : Hid (Below w5.heap.size w5 V) := HB6.out.trans (HBV.out.mono HB6.out.size)
  have HXV : Hid (Below X.heap.size X V) := HX5.out.trans (H5V.out.mono HX5.out.size)
  have HYV : Hid (Below Y.heap.size Y V) := HB5.out.trans (H5V.out.mono HB5.out.size)
  have H0V : Hid (Below w0.heap.size w0 V) := HB05.out.trans (H5V.out.mono HB05.out.size)
  have HR2V : Hid (Crs V V.heap.size (.slice a2 E.length c2) E) := (HR2.out.up HBX.out).up HXV.out
  have HKP : Hid (∀ W, Below V.heap.size V W → W.cell? ⟨w2.heap.size, 0, none⟩ = some (.slice a2 E.length c2) ∧ W.cell? ⟨w2.heap.size, 1, none⟩ = some (.int .i64 loops) ∧ W.cell? ⟨w.heap.size, 0, none⟩ = some (.slice a C.length cap) ∧ W.cell? ⟨w.heap.size, 1, none⟩ = some (.int .i64 loops)) := fun W hW => by
    have h1 := HGX.out W (HXV.out.trans (hW.mono HXV.out.size))
    have h2 := HF.out W (H0V.out.trans (hW.mono H0V.out.size))
    exact ⟨h1.1, h1.2.1, h2.1, h2.2.1⟩
  have HGV : Hid (∀ w', Below V.heap.size V w' → w'.cell? ⟨w6.heap.size, 0, none⟩ = some (.slice a6 D.length c6) ∧ w'.cell? ⟨w6.heap.size, 1, none⟩ = some (.int .i64 (loops + (q : Int))) ∧ w6.heap.size < w'.heap.size) := fun w' hw' => by
    have g0 := (hw'.block _ hsV).trans HTV.out
    exact ⟨block_cell g0 rfl, block_cell g0 rfl, (Array.getElem?_eq_some_iff.1 g0).1⟩
  have HD1 : Hid (Below V.heap.size V V.drew) := (Below.refl _ _).drew
  go_upto_region 11 with (fail)
  rw [← HV.out]
  go_region_held3 (fun w' => w'.cell? ⟨w2.heap.size, 0, none⟩ = some (.slice a2 E.length c2) ∧ w'.cell? ⟨w2.heap.size, 1, none⟩ = some (.int .i64 loops) ∧ w'.cell? ⟨w.heap.size, 0, none⟩ = some (.slice a C.length cap) ∧ w'.cell? ⟨w.heap.size, 1, none⟩ = some (.int .i64 loops)) (first | exact HKP.out _ HS8.out | exact HKP.out _ HS7.out | exact HKP.out _ HD1.out | exact HKP.out _ (Below.refl _ _)) (first
    | (go_at_call 29; refine (sameDiagram_eq _ _ E loops _ (HR2V.out.up HS7.out) HR7.out).mono ?_; rintro e9 w8 ⟨rfl, hb8⟩; have HS8 : Hid (Below V.heap.size V w8) := HS7.out.trans (hb8.mono HS7.out.size); clear hb8)
    | (go_at_call 52; refine (HCO.out _ a cap (HCC.out _ (H0V.out.trans (HD1.out.mono H0V.out.size)))).mono ?_; rintro e9 w7 ⟨v7, rfl, hr7, hb7⟩; have HS7 : Hid (Below V.heap.size V w7) := HD1.out.trans (hb7.mono HD1.out.size); have HR7 : Hid (Crs w7 w7.heap.size v7 E) := hr7; obtain ⟨a7, c7, rfl⟩ := slh_crs hr7; clear hr7 hb7))
  obtain ⟨z0, z1, z2⟩ := HGV.out w8 HS8.out
  obtain ⟨y0, y1, y2⟩ := HGY.out w8 (HYV.out.trans (HS8.out.mono HYV.out.size))
  go_wp2
  go_ret
  exact ⟨by first | rfl | simp, HB0.out.trans ((H0V.out.trans (HS8.out.mono H0V.out.size)).mono (by omega))⟩

set_option maxHeartbeats 8000000 in
set_option maxRecDepth 100000 in
theorem homflyTurns_yes (hFR : FaceRingsOk) (v : Value) (C : List Cr) (loops k : Int) (w : World) (hl : C.length * 40 ≤ 140737488355328) (h : CrsW w w.heap.size v C) (hn : dN C loops k = 0) (hsm0 : ∀ n : Nat, k = (n : Int) → loops + (smL C n : Nat) ≤ 16) :
    Calls Try.prog 12 #[.agg #[v, .int .i64 loops], .int .i64 k] w fun e w' => e = .returned (.bool true) ∧ Below w.heap.size w w' := by
  have HFA : Hid FaceRingsOk := hFR
  have HL : Hid (C.length * 40 ≤ 140737488355328) := hl
  have HN : Hid (dN C loops k = 0) := hn
  obtain ⟨hz, k0, k1, k8⟩ := dN_zero hn
  obtain ⟨kn, rfl⟩ : ∃ n : Nat, k = (n : Int) := ⟨k.toNat, by omega⟩
  have hk : kn < C.length := by omega
  have HZ : Hid (noN C loops = 0) := hz
  have HM : Hid (mayD C loops = true) := (noN_zero hz).1
  obtain ⟨s1, l0, l16, -⟩ := sizeB_iff (may_size HM.out)
  have HSS : Hid (reTo C [kn] (numM (uniM C (sx C) [kn]) (thB C kn (uniM C (sx C) [kn]) C.length 0)) C.length = smD C kn ∧ cntB (nfB (uniM C (sx C) [kn]) (thB C kn (uniM C (sx C) [kn]) C.length 0)) (2 * C.length + 1) = smL C kn) := smooth_same HM.out kn _ rfl
  have HSO : Hid (∀ W a cap, Crs W W.heap.size (.slice a C.length cap) C → Calls Try.prog 51 #[.agg #[.slice a C.length cap, .int .i64 loops], .int .i64 (kn : Nat)] W fun e w' => ∃ v, e = .returned (.agg #[v, .int .i64 (loops + (smL C kn : Nat))]) ∧ w'.ownsRow W.heap.size 99 5 v (smD C kn).length (crossCells (smD C kn)) ∧ Below W.heap.size W w') := fun W a cap hW => by
    have h := smoothOf_any a cap C loops kn W HM.out hk hW
    rw [HSS.out.1, HSS.out.2] at h
    exact h
  have hsl : smL C kn ≤ 33 := Nat.le_trans (cntB_le _ _) (by omega)
  have HDL : Hid ((smD C kn).length ≤ 16) := Nat.le_trans (reTo_len _ _ _ _) s1
  have HSM : Hid (∀ W a cap, Crs W W.heap.size (.slice a C.length cap) C → Calls Try.prog 49 #[.agg #[.slice a C.length cap, .int .i64 loops], .int .i64 (kn : Nat)] W fun e w' => ∃ v, e = .returned (.tuple #[.agg #[v, .int .i64 (loops + (smL C kn : Nat))], .int .i64 0]) ∧ Crs w' w'.heap.size v (smD C kn) ∧ Below W.heap.size W w') := fun W a cap hW => (smooth_yes HFA.out a cap C loops kn W HN.out hW).mono fun e w' ho => by rcases ho.1 with q | q; exact absurd q.1 (by have := hsm0 kn rfl; omega); obtain ⟨-, v, h1, h2⟩ := q; exact ⟨v, h1, crs_own h2 (by have := HDL.out; unfold maxLen; omega), ho.2⟩
  have HLM : Hid ((C.set kn (mirX (C.getD kn Cr.none))).length = C.length) := (by simp : (C.set kn (mirX (C.getD kn Cr.none))).length = C.length)
  have HCH : Hid (∀ W a cap, Crs W W.heap.size (.slice a C.length cap) C → Calls Try.prog 48 #[.agg #[.slice a C.length cap, .int .i64 loops], .int .i64 (kn : Nat)] W fun e w' => ∃ v, e = .returned (.tuple #[.agg #[v, .int .i64 loops], .int .i64 0]) ∧ Crs w' w'.heap.size v (C.set kn (mirX (C.getD kn Cr.none))) ∧ Below W.heap.size W w') := fun W a cap hW => (change_yes HFA.out a cap C loops kn W HN.out hW).mono fun e w' ⟨v, h1, h2, h3⟩ => ⟨v, h1, crs_own (by rw [HLM.out]; exact h2) (by rw [HLM.out]; unfold maxLen; omega), h3⟩
  have HCO : Hid (∀ W a cap, Crs W W.heap.size (.slice a C.length cap) C → Calls Try.prog 52 #[.agg #[.slice a C.length cap, .int .i64 loops], .int .i64 (kn : Nat)] W fun e w' => ∃ v, e = .returned (.agg #[v, .int .i64 loops]) ∧ Crs w' w'.heap.size v (C.set kn (mirX (C.getD kn Cr.none))) ∧ Below W.heap.size W w') := fun W a cap hW => (changeOf_any a cap C loops kn W s1 hk hW).mono fun e w' ⟨v, h1, h2, h3⟩ => ⟨v, h1, crs_own (by rw [HLM.out]; exact h2) (by rw [HLM.out]; unfold maxLen; omega), h3⟩
  have d1 : decide ((kn : Int) < 0) = false := by simp
  have d2 : decide ((C.length : Int) ≤ (kn : Int)) = false := by simp; omega
  have d3 : decide (C.length ≤ kn) = false := by simp; omega
  have d8 : decide ((8 : Int) < (C.length : Int)) = false := by simp; omega
  have d9 : decide (8 < C.length) = false := by simp; omega
  obtain ⟨E, hE⟩ : ∃ E, C.set kn (mirX (C.getD kn Cr.none)) = E := ⟨_, rfl⟩
  obtain ⟨D, hD⟩ : ∃ D, smD C kn = D := ⟨_, rfl⟩
  obtain ⟨q, hq⟩ : ∃ q, smL C kn = q := ⟨_, rfl⟩
  rw [hE] at HCH HCO
  rw [hD, hq] at HSO HSM
  rw [hD] at HDL
  have hsm := hsm0 kn rfl
  rw [hq] at hsl hsm
  clear hn hz hE hD hq HSS HLM hsm0
  have dq : decide (16 < loops + (q : Int)) = false := by simp; omega
  clear hsm
  obtain ⟨a, cap, rfl⟩ := slw_crs h
  obtain ⟨w0, hw0⟩ : ∃ w0, w0 = w.alloc (.cells #[.slice a C.length cap, .int .i64 loops] 24) := ⟨_, rfl⟩
  have HW0 : Hid (w0 = w.alloc (.cells #[.slice a C.length cap, .int .i64 loops] 24)) := hw0
  have hs0 : w.heap.size < w0.heap.size := by rw [hw0]; simp
  have HB0 : Hid (Below w.heap.size w w0) := (by rw [hw0]; exact (Below.refl _ _).alloc (Nat.le_refl _) _ : Below w.heap.size w w0)
  have HT0 : Hid (w0.heap[w.heap.size]? = some (.cells #[.slice a C.length cap, .int .i64 loops] 24 (0, 0))) := (by rw [hw0]; exact alloc_at rfl : w0.heap[w.heap.size]? = some (.cells #[.slice a C.length cap, .int .i64 loops] 24 (0, 0)))
  have HCW : Hid (∀ w', Below w0.heap.size w0 w' → CrsW w' w'.heap.size (.slice a C.length cap) C) := fun w' hb => (h.up HB0.out).up hb
  have HCC : Hid (∀ w', Below w0.heap.size w0 w' → Crs w' w'.heap.size (.slice a C.length cap) C) := fun w' hb => (HCW.out w' hb).crs (by have := HL.out; unfold maxLen; omega)
  have HF : Hid (∀ w', Below w0.heap.size w0 w' → w'.cell? ⟨w.heap.size, 0, none⟩ = some (.slice a C.length cap) ∧ w'.cell? ⟨w.heap.size, 1, none⟩ = some (.int .i64 loops) ∧ w.heap.size < w'.heap.size) := fun w' hw' => by
    have g0 := (hw'.block _ hs0).trans HT0.out
    exact ⟨block_cell g0 rfl, block_cell g0 rfl, (Array.getElem?_eq_some_iff.1 g0).1⟩
  clear hw0 h hl hFR
  go_enter Try.func12, Try.ntmps12
  go_wp2_with (go_at_call 27; rw [← HW0.out]; refine (diagramOf_any _ C loops _ HL.out (HCW.out _ (Below.refl _ _))).mono ?_; rintro e9 w1 ⟨v1, rfl, hc1, hb1⟩; refine Hid.out ?_)
  refine Lib.hid ?_
  obtain ⟨a1, c1, rfl⟩ := slh_crs hc1
  have HB1 : Hid (Below w0.heap.size w0 w1) := hb1
  have HC1 : Hid (Crs w1 w1.heap.size (.slice a1 C.length c1) C) := hc1
  clear hb1 hc1
  go_wp2_with (go_at_call 48; refine (HCH.out _ a1 c1 HC1.out).mono ?_; rintro e9 w2 ⟨v2, rfl, hr2, hb2⟩; refine Hid.out ?_)
  refine Lib.hid ?_
  have HB2 : Hid (Below w0.heap.size w0 w2) := HB1.out.trans (hb2.mono HB1.out.size)
  clear hb2
  obtain ⟨a2, c2, rfl⟩ := slh_crs hr2
  have HR2 : Hid (Crs w2 w2.heap.size (.slice a2 E.length c2) E) := hr2
  clear hr2
  obtain ⟨X, hX0⟩ : ∃ X, X = w2.alloc (.cells #[.slice a2 E.length c2, .int .i64 loops] 24) := ⟨_, rfl⟩
  have HX : Hid (X = w2.alloc (.cells #[.slice a2 E.length c2, .int .i64 loops] 24)) := hX0
  have HBX : Hid (Below w2.heap.size w2 X) := (by rw [hX0]; exact (Below.refl _ _).alloc (Nat.le_refl _) _ : Below w2.heap.size w2 X)
  have HTX : Hid (X.heap[w2.heap.size]? = some (.cells #[.slice a2 E.length c2, .int .i64 loops] 24 (0, 0))) := (by rw [hX0]; exact alloc_at rfl : X.heap[w2.heap.size]? = some (.cells #[.slice a2 E.length c2, .int .i64 loops] 24 (0, 0)))
  have hsX : w2.heap.size < X.heap.size := by rw [hX0]; simp
  clear hX0
  have HX0 : Hid (Below w0.heap.size w0 X) := HB2.out.trans (HBX.out.mono HB2.out.size)
  have HGX : Hid (∀ w', Below X.heap.size X w' → w'.cell? ⟨w2.heap.size, 0, none⟩ = some (.slice a2 E.length c2) ∧ w'.cell? ⟨w2.heap.size, 1, none⟩ = some (.int .i64 loops) ∧ w2.heap.size < w'.heap.size) := fun w' hw' => by
    have g0 := (hw'.block _ hsX).trans HTX.out
    exact ⟨block_cell g0 rfl, block_cell g0 rfl, (Array.getElem?_eq_some_iff.1 g0).1⟩
  go_upto_region 2 with (fail)
  rw [← HX.out]
  obtain ⟨p0, p1, p2⟩ := HF.out X HX0.out
  go_wp2_with (go_at_call 27; refine (diagramOf_any _ C loops _ HL.out (HCW.out _ HX0.out)).mono ?_; rintro e9 w3 ⟨v3, rfl, hc3, hb3⟩; refine Hid.out ?_)
  refine Lib.hid ?_
  obtain ⟨a3, c3, rfl⟩ := slh_crs hc3
  have HB3 : Hid (Below X.heap.size X w3) := hb3
  have HC3 : Hid (Crs w3 w3.heap.size (.slice a3 C.length c3) C) := hc3
  clear hb3 hc3 p0 p1 p2
  go_wp2_with (go_at_call 49; refine (HSM.out _ a3 c3 HC3.out).mono ?_; rintro e9 w4 ⟨v4, rfl, hr4, hb4⟩; refine Hid.out ?_)
  refine Lib.hid ?_
  have HB4 : Hid (Below X.heap.size X w4) := HB3.out.trans (hb4.mono HB3.out.size)
  clear hb4
  obtain ⟨a4, c4, rfl⟩ := slh_crs hr4
  have HR4 : Hid (Crs w4 w4.heap.size (.slice a4 D.length c4) D) := hr4
  clear hr4
  obtain ⟨Y, hY0⟩ : ∃ Y, Y = w4.alloc (.cells #[.slice a4 D.length c4, .int .i64 (loops + (q : Nat))] 24) := ⟨_, rfl⟩
  have HY : Hid (Y = w4.alloc (.cells #[.slice a4 D.length c4, .int .i64 (loops + (q : Nat))] 24)) := hY0
  have HBY : Hid (Below w4.heap.size w4 Y) := (by rw [hY0]; exact (Below.refl _ _).alloc (Nat.le_refl _) _ : Below w4.heap.size w4 Y)
  have HTY : Hid (Y.heap[w4.heap.size]? = some (.cells #[.slice a4 D.length c4, .int .i64 (loops + (q : Nat))] 24 (0, 0))) := (by rw [hY0]; exact alloc_at rfl : Y.heap[w4.heap.size]? = some (.cells #[.slice a4 D.length c4, .int .i64 (loops + (q : Nat))] 24 (0, 0)))
  have hsY : w4.heap.size < Y.heap.size := by rw [hY0]; simp
  clear hY0
  have HXY : Hid (Below X.heap.size X Y) := HB4.out.trans (HBY.out.mono HB4.out.size)
  have HY0 : Hid (Below w0.heap.size w0 Y) := HX0.out.trans (HXY.out.mono HX0.out.size)
  have HGY : Hid (∀ w', Below Y.heap.size Y w' → w'.cell? ⟨w4.heap.size, 0, none⟩ = some (.slice a4 D.length c4) ∧ w'.cell? ⟨w4.heap.size, 1, none⟩ = some (.int .i64 (loops + (q : Nat))) ∧ w4.heap.size < w'.heap.size) := fun w' hw' => by
    have g0 := (hw'.block _ hsY).trans HTY.out
    exact ⟨block_cell g0 rfl, block_cell g0 rfl, (Array.getElem?_eq_some_iff.1 g0).1⟩
  go_upto_region 3 with (fail)
  rw [← HY.out]
  obtain ⟨p0, p1, p2⟩ := HF.out Y HY0.out
  go_wp2_with (go_at_call 50; refine (planarMay_any _ C loops _ (HCC.out _ HY0.out)).mono ?_; rw [HZ.out]; rintro e9 w5 ⟨rfl, hb5⟩; refine Hid.out ?_)
  refine Lib.hid ?_
  have HB5 : Hid (Below Y.heap.size Y w5) := hb5
  have HX5 : Hid (Below X.heap.size X w5) := HXY.out.trans (HB5.out.mono HXY.out.size)
  have HB05 : Hid (Below w0.heap.size w0 w5) := HY0.out.trans (HB5.out.mono HY0.out.size)
  clear hb5 p0 p1 p2
  obtain ⟨p0, p1, p2⟩ := HF.out w5 HB05.out
  obtain ⟨x0, x1, x2⟩ := HGX.out w5 HX5.out
  obtain ⟨y0, y1, y2⟩ := HGY.out w5 HB5.out
  go_upto_region 10 with (fail)
  go_wp2_with (go_at_call 51; refine (HSO.out _ a cap (HCC.out _ HB05.out)).mono ?_; rintro e9 w6 ⟨v6, rfl, hr6, hb6⟩; refine Hid.out ?_)
  refine Lib.hid ?_
  obtain ⟨a6, c6, ev6⟩ := own_capS hr6
  subst ev6
  have HB6 : Hid (Below w5.heap.size w5 w6) := hb6
  have HR6 : Hid (Crs w6 w6.heap.size (.slice a6 D.length c6) D) := crs_own hr6 (by have := HDL.out; unfold maxLen; omega)
  clear hr6 hb6 p0 p1 p2 x0 x1 x2 y0 y1 y2
  obtain ⟨V, hV0⟩ : ∃ V, V = w6.alloc (.cells #[.slice a6 D.length c6, .int .i64 (loops + (q : Nat))] 24) := ⟨_, rfl⟩
  have HV : Hid (V = w6.alloc (.cells #[.slice a6 D.length c6, .int .i64 (loops + (q : Nat))] 24)) := hV0
  have HBV : Hid (Below w6.heap.size w6 V) := (by rw [hV0]; exact (Below.refl _ _).alloc (Nat.le_refl _) _ : Below w6.heap.size w6 V)
  have HTV : Hid (V.heap[w6.heap.size]? = some (.cells #[.slice a6 D.length c6, .int .i64 (loops + (q : Nat))] 24 (0, 0))) := (by rw [hV0]; exact alloc_at rfl : V.heap[w6.heap.size]? = some (.cells #[.slice a6 D.length c6, .int .i64 (loops + (q : Nat))] 24 (0, 0)))
  have hsV : w6.heap.size < V.heap.size := by rw [hV0]; simp
  clear hV0
  have HRV : Hid (Crs V V.heap.size (.slice a6 D.length c6) D) := HR6.out.up HBV.out
  have H5V : Hid (Below w5.heap.size w5 V) := HB6.out.trans (HBV.out.mono HB6.out.size)
  have HXV : Hid (Below X.heap.size X V) := HX5.out.trans (H5V.out.mono HX5.out.size)
  have HYV : Hid (Below Y.heap.size Y V) := HB5.out.trans (H5V.out.mono HB5.out.size)
  have H0V : Hid (Below w0.heap.size w0 V) := HB05.out.trans (H5V.out.mono HB05.out.size)
  have HR2V : Hid (Crs V V.heap.size (.slice a2 E.length c2) E) := (HR2.out.up HBX.out).up HXV.out
  have HKP : Hid (∀ W, Below V.heap.size V W → W.cell? ⟨w2.heap.size, 0, none⟩ = some (.slice a2 E.length c2) ∧ W.cell? ⟨w2.heap.size, 1, none⟩ = some (.int .i64 loops) ∧ W.cell? ⟨w.heap.size, 0, none⟩ = some (.slice a C.length cap) ∧ W.cell? ⟨w.heap.size, 1, none⟩ = some (.int .i64 loops)) := fun W hW => by
    have h1 := HGX.out W (HXV.out.trans (hW.mono HXV.out.size))
    have h2 := HF.out W (H0V.out.trans (hW.mono H0V.out.size))
    exact ⟨h1.1, h1.2.1, h2.1, h2.2.1⟩
  have HGV : Hid (∀ w', Below V.heap.size V w' → w'.cell? ⟨w6.heap.size, 0, none⟩ = some (.slice a6 D.length c6) ∧ w'.cell? ⟨w6.heap.size, 1, none⟩ = some (.int .i64 (loops + (q : Int))) ∧ w6.heap.size < w'.heap.size) := fun w' hw' => by
    have g0 := (hw'.block _ hsV).trans HTV.out
    exact ⟨block_cell g0 rfl, block_cell g0 rfl, (Array.getElem?_eq_some_iff.1 g0).1⟩
  have HD1 : Hid (Below V.heap.size V V.drew) := (Below.refl _ _).drew
  go_upto_region 11 with (fail)
  rw [← HV.out]
  go_region_held3 (fun w' => w'.cell? ⟨w2.heap.size, 0, none⟩ = some (.slice a2 E.length c2) ∧ w'.cell? ⟨w2.heap.size, 1, none⟩ = some (.int .i64 loops) ∧ w'.cell? ⟨w.heap.size, 0, none⟩ = some (.slice a C.length cap) ∧ w'.cell? ⟨w.heap.size, 1, none⟩ = some (.int .i64 loops)) (first | exact HKP.out _ HS8.out | exact HKP.out _ HS7.out | exact HKP.out _ HD1.out | exact HKP.out _ (Below.refl _ _)) (first
    | (go_at_call 29; refine (sameDiagram_eq _ _ E loops _ (HR2V.out.up HS7.out) HR7.out).mono ?_; rintro e9 w8 ⟨rfl, hb8⟩; have HS8 : Hid (Below V.heap.size V w8) := HS7.out.trans (hb8.mono HS7.out.size); clear hb8)
    | (go_at_call 52; refine (HCO.out _ a cap (HCC.out _ (H0V.out.trans (HD1.out.mono H0V.out.size)))).mono ?_; rintro e9 w7 ⟨v7, rfl, hr7, hb7⟩; have HS7 : Hid (Below V.heap.size V w7) := HD1.out.trans (hb7.mono HD1.out.size); have HR7 : Hid (Crs w7 w7.heap.size v7 E) := hr7; obtain ⟨a7, c7, rfl⟩ := slh_crs hr7; clear hr7 hb7))
  obtain ⟨z0, z1, z2⟩ := HGV.out w8 HS8.out
  obtain ⟨y0, y1, y2⟩ := HGY.out w8 (HYV.out.trans (HS8.out.mono HYV.out.size))
  have HRB : Hid (Crs w8 w8.heap.size (.slice a4 D.length c4) D) := ((HR4.out.up HBY.out).up HYV.out).up HS8.out
  go_wp2_with (go_at_call 29; refine (sameDiagram_eq _ _ D _ _ HRB.out (HRV.out.up HS8.out)).mono ?_; rintro e9 w9 ⟨rfl, hb9⟩; refine Hid.out ?_)
  refine Lib.hid ?_
  have HS9 : Hid (Below V.heap.size V w9) := HS8.out.trans (hb9.mono HS8.out.size)
  clear hb9
  go_wp2
  go_ret
  exact ⟨by first | rfl | simp, HB0.out.trans ((H0V.out.trans (HS9.out.mono H0V.out.size)).mono (by omega))⟩

theorem homflyTurns_any (hFR : FaceRingsOk) (v : Value) (C : List Cr) (loops k : Int) (w : World) (hl : C.length * 40 ≤ 140737488355328) (h : CrsW w w.heap.size v C) :
    Calls Try.prog 12 #[.agg #[v, .int .i64 loops], .int .i64 k] w fun e w' => e = .returned (.bool true) ∧ Below w.heap.size w w' := by
  by_cases hn : dN C loops k = 0
  · obtain ⟨-, k0, k1, -⟩ := dN_zero hn
    obtain ⟨kn, hkn⟩ : ∃ n : Nat, k = (n : Int) := ⟨k.toNat, by omega⟩
    have hu : ∀ n : Nat, k = (n : Int) → n = kn := fun n e => by omega
    by_cases hb : 16 < loops + (smL C kn : Nat)
    · exact homflyTurns_big hFR v C loops k w hl h hn (fun n e => by rw [hu n e]; exact hb)
    · exact homflyTurns_yes hFR v C loops k w hl h hn (fun n e => by rw [hu n e]; omega)
  · exact homflyTurns_no hFR v C loops k w hl h hn
end Go.Proofs.Ytajmogojekichaa
