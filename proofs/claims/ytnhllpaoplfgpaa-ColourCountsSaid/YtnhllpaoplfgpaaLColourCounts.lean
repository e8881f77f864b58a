/- The law ColourCounts: its walk, the rings of FaceRings being given. -/
import Derived.Test.YtnhllpaoplfgpaaX5rP
import Derived.Test.YtnhllpaoplfgpaaN9
namespace Go.Proofs.Ytnhllpaoplfgpaa
open Go.RowKit

theorem slc_Crs {w : World} {B : Nat} {v : Value} {C : List Cr} (h : Crs w B v C) : ∃ a c, v = .slice a C.length c := by
  obtain ⟨a, c, e, _⟩ := h
  exact ⟨a, c, e⟩
theorem slc_CrsW {w : World} {B : Nat} {v : Value} {C : List Cr} (h : CrsW w B v C) : ∃ a c, v = .slice a C.length c := by
  rcases h with ⟨rfl, rfl⟩ | ⟨ad, cap, rfl, rfl⟩ | ⟨b, off, cap, rfl, -, -⟩
  · exact ⟨_, _, rfl⟩
  · exact ⟨_, _, rfl⟩
  · exact ⟨_, _, rfl⟩
/-- Where the copying of rows stands behind the first i. -/
structure CqAt (w : World) (L : List (List Int)) (i : Nat) (v : Value) (zs : List Value) (wr : World) : Prop where
  len : zs.length = i
  rows : wr.ownsRow w.heap.size 61 1 v i zs
  each : ∀ j, j < i → wr.ownsRow w.heap.size 3 1 (zs.getD j (.bool false)) (L.getD j []).length (intsV (L.getD j []))
  bel : Below w.heap.size w wr
theorem CqAt.rd {w : World} {L : List (List Int)} {v : Value} {zs : List Value} {wr : World} (h : CqAt w L L.length v zs wr) : IntsRd wr wr.heap.size v L :=
  ⟨zs, h.len, own_rd h.rows, fun j hj => own_rd (h.each j hj)⟩

set_option maxHeartbeats 8000000 in
set_option maxRecDepth 100000 in
theorem colourCounts_any (hFR : FaceRingsOk) (v vq : Value) (C : List Cr) (loops : Int) (L : List (List Int)) (w : World) (hl : C.length * 40 ≤ 140737488355328) (b1 : L.length * 24 ≤ 140737488355328) (b2 : ∀ j, j < L.length → (L.getD j []).length * 8 ≤ 140737488355328) (h : CrsW w w.heap.size v C) (hL : IntsIn w w.heap.size vq L) :
    Calls Try.prog 16 #[.agg #[v, .int .i64 loops], vq] w fun e w' => e = .returned (.bool true) ∧ Below w.heap.size w w' := by
  obtain ⟨i1, hj, hy0, hy1, hy2⟩ := info_parts infoInts
  have HFA : Hid FaceRingsOk := hFR
  have HL : Hid (C.length * 40 ≤ 140737488355328) := hl
  have HB2 : Hid (∀ j, j < L.length → (L.getD j []).length * 8 ≤ 140737488355328) := b2
  have HLI : Hid (IntsIn w w.heap.size vq L) := hL
  obtain ⟨a, cap, rfl⟩ := slc_CrsW h
  obtain ⟨aq, cq, rfl⟩ := hL.rd.len
  obtain ⟨w0, hw0⟩ : ∃ w0, w0 = w.alloc (.cells #[.slice a C.length cap, .int .i64 loops] 44) := ⟨_, rfl⟩
  have HW0 : Hid (w0 = w.alloc (.cells #[.slice a C.length cap, .int .i64 loops] 44)) := hw0
  have hs0 : w0.heap.size = w.heap.size + 1 := by rw [hw0]; simp
  have HB0 : Hid (Below w.heap.size w w0) := (by rw [hw0]; exact (Below.refl _ _).alloc (Nat.le_refl _) _ : Below w.heap.size w w0)
  have HT0 : Hid (w0.heap[w.heap.size]? = some (.cells #[.slice a C.length cap, .int .i64 loops] 44 (0, 0))) := (by rw [hw0]; exact alloc_at rfl : w0.heap[w.heap.size]? = some (.cells #[.slice a C.length cap, .int .i64 loops] 44 (0, 0)))
  have HCW : Hid (∀ w', Below w0.heap.size w0 w' → CrsW w' w'.heap.size (.slice a C.length cap) C) := fun w' hb => (h.up HB0.out).up hb
  have HCC : Hid (∀ w', Below w0.heap.size w0 w' → Crs w' w'.heap.size (.slice a C.length cap) C) := fun w' hb => (HCW.out w' hb).crs (by have := HL.out; unfold maxLen; omega)
  have HQW : Hid (∀ w', Below w0.heap.size w0 w' → IntsIn w' w'.heap.size (.slice aq L.length cq) L) := fun w' hb => (HLI.out.up HB0.out).up hb
  have HF : Hid (∀ w', Below w0.heap.size w0 w' → w'.cell? ⟨w.heap.size, 0, none⟩ = some (.slice a C.length cap) ∧ w'.cell? ⟨w.heap.size, 1, none⟩ = some (.int .i64 loops) ∧ w.heap.size < w'.heap.size) := fun w' hw' => by
    have g0 := (hw'.block _ (by omega)).trans HT0.out
    exact ⟨block_cell g0 rfl, block_cell g0 rfl, (Array.getElem?_eq_some_iff.1 g0).1⟩
  have HSZ : Hid (w0.heap.size = w.heap.size + 1) := hs0
  clear hw0 h hl b2 hL hFR hs0
  go_enter Try.func16, Try.ntmps16
  go_wp2
  rw [← HW0.out]
  clear HW0
  go_loopw [5, 6] (fun v5 v6 wr => ∃ (i : Nat) (zs : List Value), i ≤ L.length ∧ v6 = .int .i64 (i : Nat) ∧ Hid (CqAt w0 L i v5 zs wr)) (fun _ v6 _ => L.length - (intOf v6).toNat)
  case atStart => exact ⟨0, [], Nat.zero_le _, rfl, ⟨rfl, World.ownsRow_nil _ _ _ _, fun j hj => absurd hj (Nat.not_lt_zero _), Below.refl _ _⟩⟩
  case round =>
    rename World => W1
    obtain ⟨i, zs, hin, rfl, hcp⟩ := hrel
    obtain ⟨a7, c7, rfl⟩ := own_capS hcp.out.rows
    have hsW := hcp.out.bel.size
    by_cases hil : i < L.length
    · obtain ⟨ys, hy, h1, h2⟩ := HQW.out W1 hcp.out.bel
      obtain ⟨b, off, ea, hbw, hc0⟩ : ∃ b off, aq = some ⟨b, off, none⟩ ∧ b < W1.heap.size ∧ W1.cell? ⟨b, off + i, none⟩ = some (ys.getD i (.bool false)) := by
        rcases h1 with ⟨e, h0⟩ | ⟨ad, cap, e, h0⟩ | ⟨b, off, cap, e, hlt, hc⟩
        · omega
        · omega
        · injection e with e1 e2 e3
          refine ⟨b, off, e1, hlt, ?_⟩
          rw [hc i (by omega)]
          simp [List.getD, hy, hil]
      have HEA : Hid (aq = some ⟨b, off, none⟩) := ea
      have hIN := h2 i hil
      have hVl := HB2.out i hil
      obtain ⟨V, hV⟩ : ∃ V, L.getD i [] = V := ⟨_, rfl⟩
      have HV : Hid (L.getD i [] = V) := hV
      rw [hV] at hIN hVl
      obtain ⟨ar, cr, er⟩ : ∃ ar cr, ys.getD i (.bool false) = .slice ar V.length cr := by obtain ⟨ar, cr, e, -⟩ := hIN.rd; exact ⟨ar, cr, e⟩
      rw [er] at hIN hc0
      have HIN : Hid (InAt W1 W1.heap.size 1 (.slice ar V.length cr) V.length (intsV V)) := hIN
      have hii : (i : Int) < (L.length : Int) := by omega
      clear h1 h2 hIN er hV hy
      go_wp2_with (go_at_call 62; refine (intsL_any ar cr V W1 hVl HIN.out).mono ?_; rintro e9 w8 ⟨v8, rfl, hown8, hb8⟩; refine Hid.out ?_)
      refine Lib.hid ?_
      obtain ⟨a8, c8, rfl⟩ := own_capS hown8
      have HO8 : Hid (w8.ownsRow w0.heap.size 3 1 (.slice a8 V.length c8) V.length (intsV V)) := own_low hown8 hsW
      have HG8 : Hid (W1.grownBy w8 none) := grown_below hb8 none
      have HR8 : Hid (w8.ownsRow w0.heap.size 61 1 (.slice a7 i c7) i zs) := own_any hcp.out.rows (grown_below hb8 none)
      have hs8 := hb8.size
      have HON : Hid (∀ u ∈ [Value.slice a8 V.length c8], u.oneCell' = true) := own_oneS hown8
      rw [← HEA.out]
      clear hown8 hb8 hc0 ea HEA
      go_wp2_with (first
        | (at_builtin; refine wpList_append_own _ rfl _ _ 72 rfl w0.heap.size 61 i1 (.slice none 0 0) 1 24 Try.underlying72 hj hy0 hy1 hy2 rfl (by decide) _ i zs rfl (HR8.out.alloc _) ⟨w8.heap.size, 0, none⟩ 1 1 [Value.slice a8 V.length c8] rfl rfl (new_cell1 _ _ _) HON.out (by unfold maxLen; omega) (by omega) (by simp; omega) ?_; intro v9 w9 hown9 hg9 _; refine Hid.out ?_))
      refine Lib.hid ?_
      have hR := HR8.out.alloc (.cells #[Value.slice a8 V.length c8] 61)
      have hO := HO8.out.alloc (.cells #[Value.slice a8 V.length c8] 61)
      have HNX : Hid (CqAt w0 L (i + 1) v9 (zs ++ [Value.slice a8 V.length c8]) w9) := (by
        refine ⟨by simp [hcp.out.len], hown9, fun j hjl => ?_, ?_⟩
        · by_cases hjk : j < i
          · rw [getD_left zs _ j (by rw [hcp.out.len]; exact hjk)]
            have h1 := (own_any (hcp.out.each j hjk) HG8.out).alloc (.cells #[Value.slice a8 V.length c8] 61)
            exact h1.kept hg9 (own_ne h1 hR (by decide))
          · obtain rfl : j = i := by omega
            have e2 : (zs ++ [Value.slice a8 V.length c8]).getD j (.bool false) = Value.slice a8 V.length c8 := by
              have := getD_last zs (Value.slice a8 V.length c8)
              rw [hcp.out.len] at this
              exact this
            rw [e2, HV.out]
            exact hO.kept hg9 (own_ne hO hR (by decide))
        · exact ((hcp.out.bel.grown HG8.out hsW (fun k hk => by cases hk)).alloc (by omega) _).grown hg9 (by simp; omega) (fun q hq => (hR.lt q hq).1) : CqAt w0 L (i + 1) v9 (zs ++ [Value.slice a8 V.length c8]) w9)
      clear hown9 hg9 hR hO
      obtain ⟨a9, c9, rfl⟩ := own_capS HNX.out.rows
      go_wp2
      go_roundw
      case rel => exact ⟨i + 1, _, by omega, by go_num, HNX.out⟩
      case measure => simp only [intOf]; omega
    · obtain rfl : i = L.length := by omega
      have HB1 : Hid (Below w0.heap.size w0 W1) := hcp.out.bel
      have HRD : Hid (IntsRd W1 W1.heap.size (.slice a7 L.length c7) L) := hcp.out.rd
      obtain ⟨p0, p1, p2⟩ := HF.out W1 HB1.out
      clear hcp
      go_wp2_with (go_at_call 44; refine (diagramOf_any _ C loops _ HL.out (HCW.out _ HB1.out)).mono ?_; rintro e9 w1 ⟨v1, rfl, hc1, hb1⟩; refine Hid.out ?_)
      refine Lib.hid ?_
      obtain ⟨a1, c1, rfl⟩ := slc_Crs hc1
      have HBD : Hid (Below w0.heap.size w0 w1) := HB1.out.trans (hb1.mono HB1.out.size)
      have HC1 : Hid (Crs w1 w1.heap.size (.slice a1 C.length c1) C) := hc1
      have HR1 : Hid (IntsRd w1 w1.heap.size (.slice a7 L.length c7) L) := HRD.out.up hb1
      clear hb1 hc1 p0 p1 p2
      by_cases hT : TabQ L
      · have HT : Hid (TabQ L) := hT
        clear hT
        by_cases hK : Qdl L.length (qe L)
        · have HK : Hid (Qdl L.length (qe L)) := hK
          clear hK
          by_cases hn : noN C loops = 0
          · have HN : Hid (noN C loops = 0) := hn
            have HM : Hid (mayD C loops = true) := (noN_zero hn).1
            clear hn
            by_cases hsz : 10 < C.length ∨ 4 < loops
            · have HSO : Hid (10 < C.length ∨ 4 < loops) := hsz
              go_wp2_with (go_at_call 63; refine (count_size HFA.out _ _ C loops L _ HT.out HK.out HN.out HSO.out HC1.out HR1.out).mono ?_; rintro e9 w2 ⟨rfl, hb2⟩; refine Hid.out ?_)
              refine Lib.hid ?_
              have HB2' : Hid (Below w0.heap.size w0 w2) := HBD.out.trans (hb2.mono HBD.out.size)
              clear hb2
              go_wp2_with (go_at_call 64; refine (quandleMay_any _ L w2 (HQW.out _ HB2'.out).rd).mono ?_; rintro e9 w3 ⟨⟨r, rfl, hr⟩, hb3⟩; refine Hid.out ?_)
              refine Lib.hid ?_
              have HB3 : Hid (Below w0.heap.size w0 w3) := HB2'.out.trans (hb3.mono HB2'.out.size)
              obtain rfl : r = 0 := by rcases hr with ⟨e, h1, h2⟩ | ⟨e, h1⟩ | ⟨e, h1, h2⟩ <;> first | exact e | exact absurd h1 HT.out | exact absurd HT.out h1 | exact absurd h2 HK.out | exact absurd HK.out h2
              clear hb3 hr
              obtain ⟨p0, p1, p2⟩ := HF.out w3 HB3.out
              go_wp2_with (go_at_call 65; refine (planarMay_any _ C loops _ (HCC.out _ HB3.out)).mono ?_; rw [HN.out]; rintro e9 w4 ⟨rfl, hb4⟩; refine Hid.out ?_)
              refine Lib.hid ?_
              have HB4 : Hid (Below w0.heap.size w0 w4) := HB3.out.trans (hb4.mono HB3.out.size)
              clear hb4 p0 p1 p2
              obtain ⟨p0, p1, p2⟩ := HF.out w4 HB4.out
              rcases hsz with h10 | h4
              · have hz1 : decide ((10 : Int) < (C.length : Int)) = true := by simp; omega
                go_wp2
                go_ret
                exact ⟨by first | rfl | simp, HB0.out.trans (HB4.out.mono HB0.out.size)⟩
              · by_cases h10 : 10 < C.length
                · have hz1 : decide ((10 : Int) < (C.length : Int)) = true := by simp; omega
                  go_wp2
                  go_ret
                  exact ⟨by first | rfl | simp, HB0.out.trans (HB4.out.mono HB0.out.size)⟩
                · have hz1 : decide ((10 : Int) < (C.length : Int)) = false := by simp; omega
                  have hz2 : decide ((4 : Int) < loops) = true := by simp; omega
                  go_wp2
                  go_ret
                  exact ⟨by first | rfl | simp, HB0.out.trans (HB4.out.mono HB0.out.size)⟩
            · have h10 : C.length ≤ 10 := by omega
              have h4 : loops ≤ 4 := by omega
              have hz1 : decide ((10 : Int) < (C.length : Int)) = false := by simp; omega
              have hz2 : decide ((4 : Int) < loops) = false := by simp; omega
              obtain ⟨z, hz⟩ : ∃ z, cntM C L * L.length ^ loops.toNat = z := ⟨_, rfl⟩
              have HZ : Hid (cntM C L * L.length ^ loops.toNat = z) := hz
              have hzz : ((z : Int) == (z : Int)) = true := beq_self_eq_true _
              clear hz
              go_wp2_with (go_at_call 63; refine (count_yes HFA.out _ _ C loops L _ HT.out HK.out HN.out h10 h4 HC1.out HR1.out).mono ?_; rw [HZ.out]; rintro e9 w2 ⟨rfl, hb2⟩; refine Hid.out ?_)
              refine Lib.hid ?_
              have HB2' : Hid (Below w0.heap.size w0 w2) := HBD.out.trans (hb2.mono HBD.out.size)
              clear hb2
              go_wp2_with (go_at_call 64; refine (quandleMay_any _ L w2 (HQW.out _ HB2'.out).rd).mono ?_; rintro e9 w3 ⟨⟨r, rfl, hr⟩, hb3⟩; refine Hid.out ?_)
              refine Lib.hid ?_
              have HB3 : Hid (Below w0.heap.size w0 w3) := HB2'.out.trans (hb3.mono HB2'.out.size)
              obtain rfl : r = 0 := by rcases hr with ⟨e, h1, h2⟩ | ⟨e, h1⟩ | ⟨e, h1, h2⟩ <;> first | exact e | exact absurd h1 HT.out | exact absurd HT.out h1 | exact absurd h2 HK.out | exact absurd HK.out h2
              clear hb3 hr
              obtain ⟨p0, p1, p2⟩ := HF.out w3 HB3.out
              go_wp2_with (go_at_call 65; refine (planarMay_any _ C loops _ (HCC.out _ HB3.out)).mono ?_; rw [HN.out]; rintro e9 w4 ⟨rfl, hb4⟩; refine Hid.out ?_)
              refine Lib.hid ?_
              have HB4 : Hid (Below w0.heap.size w0 w4) := HB3.out.trans (hb4.mono HB3.out.size)
              clear hb4 p0 p1 p2
              obtain ⟨p0, p1, p2⟩ := HF.out w4 HB4.out
              go_wp2_with (first
                | (go_at_call 66; refine (countOf_any _ _ C loops L _ HM.out HT.out h10 h4 (HCC.out _ HB4.out) (HQW.out _ HB4.out).rd).mono ?_; rw [HZ.out]; rintro e9 w5 ⟨rfl, hb5⟩; refine Hid.out ?_))
              refine Lib.hid ?_
              have HB5 : Hid (Below w0.heap.size w0 w5) := HB4.out.trans (hb5.mono HB4.out.size)
              clear hb5 p0 p1 p2
              go_wp2
              go_ret
              exact ⟨by first | rfl | simp, HB0.out.trans (HB5.out.mono HB0.out.size)⟩
          · have HN : Hid (noN C loops ≠ 0) := hn
            obtain ⟨r, hr⟩ : ∃ r, noN C loops = r := ⟨_, rfl⟩
            have HR : Hid (noN C loops = r) := hr
            rw [hr] at hn
            have hr0 : (r == 0) = false := beq_eq_false_iff_ne.2 hn
            have hrr : (r == r) = true := beq_self_eq_true r
            clear hr
            go_wp2_with (go_at_call 63; refine (count_no HFA.out _ _ C loops L _ HT.out HK.out HN.out HC1.out HR1.out).mono ?_; rw [HR.out]; rintro e9 w2 ⟨rfl, hb2⟩; refine Hid.out ?_)
            refine Lib.hid ?_
            have HB2' : Hid (Below w0.heap.size w0 w2) := HBD.out.trans (hb2.mono HBD.out.size)
            clear hb2
            go_wp2_with (go_at_call 64; refine (quandleMay_any _ L w2 (HQW.out _ HB2'.out).rd).mono ?_; rintro e9 w3 ⟨⟨r', rfl, hr'⟩, hb3⟩; refine Hid.out ?_)
            refine Lib.hid ?_
            have HB3 : Hid (Below w0.heap.size w0 w3) := HB2'.out.trans (hb3.mono HB2'.out.size)
            obtain rfl : r' = 0 := by rcases hr' with ⟨e, h1, h2⟩ | ⟨e, h1⟩ | ⟨e, h1, h2⟩ <;> first | exact e | exact absurd h1 HT.out | exact absurd HT.out h1 | exact absurd h2 HK.out | exact absurd HK.out h2
            clear hb3 hr'
            obtain ⟨p0, p1, p2⟩ := HF.out w3 HB3.out
            go_wp2_with (go_at_call 65; refine (planarMay_any _ C loops _ (HCC.out _ HB3.out)).mono ?_; rw [HR.out]; rintro e9 w4 ⟨rfl, hb4⟩; refine Hid.out ?_)
            refine Lib.hid ?_
            have HB4 : Hid (Below w0.heap.size w0 w4) := HB3.out.trans (hb4.mono HB3.out.size)
            clear hb4 p0 p1 p2
            obtain ⟨p0, p1, p2⟩ := HF.out w4 HB4.out
            go_wp2
            go_ret
            exact ⟨by first | rfl | simp, HB0.out.trans (HB4.out.mono HB0.out.size)⟩
        · have HK : Hid (¬ Qdl L.length (qe L)) := hK
          clear hK
          go_wp2_with (go_at_call 63; refine (count_kind _ _ C loops L _ HT.out HK.out HC1.out HR1.out).mono ?_; rintro e9 w2 ⟨rfl, hb2⟩; refine Hid.out ?_)
          refine Lib.hid ?_
          have HB2' : Hid (Below w0.heap.size w0 w2) := HBD.out.trans (hb2.mono HBD.out.size)
          clear hb2
          go_wp2_with (go_at_call 64; refine (quandleMay_any _ L w2 (HQW.out _ HB2'.out).rd).mono ?_; rintro e9 w3 ⟨⟨r, rfl, hr⟩, hb3⟩; refine Hid.out ?_)
          refine Lib.hid ?_
          have HB3 : Hid (Below w0.heap.size w0 w3) := HB2'.out.trans (hb3.mono HB2'.out.size)
          obtain rfl : r = 6 := by rcases hr with ⟨e, h1, h2⟩ | ⟨e, h1⟩ | ⟨e, h1, h2⟩ <;> first | exact e | exact absurd h1 HT.out | exact absurd HT.out h1 | exact absurd h2 HK.out | exact absurd HK.out h2
          clear hb3 hr
          go_wp2
          go_ret
          exact ⟨by first | rfl | simp, HB0.out.trans (HB3.out.mono HB0.out.size)⟩
      · have HT : Hid (¬ TabQ L) := hT
        clear hT
        go_wp2_with (go_at_call 63; refine (count_form _ _ C loops L _ HT.out HC1.out HR1.out).mono ?_; rintro e9 w2 ⟨rfl, hb2⟩; refine Hid.out ?_)
        refine Lib.hid ?_
        have HB2' : Hid (Below w0.heap.size w0 w2) := HBD.out.trans (hb2.mono HBD.out.size)
        clear hb2
        go_wp2_with (go_at_call 64; refine (quandleMay_any _ L w2 (HQW.out _ HB2'.out).rd).mono ?_; rintro e9 w3 ⟨⟨r, rfl, hr⟩, hb3⟩; refine Hid.out ?_)
        refine Lib.hid ?_
        have HB3 : Hid (Below w0.heap.size w0 w3) := HB2'.out.trans (hb3.mono HB2'.out.size)
        obtain rfl : r = 1 := by rcases hr with ⟨e, h1, h2⟩ | ⟨e, h1⟩ | ⟨e, h1, h2⟩ <;> first | exact e | exact absurd h1 HT.out | exact absurd HT.out h1
        clear hb3 hr
        go_wp2
        go_ret
        exact ⟨by first | rfl | simp, HB0.out.trans (HB3.out.mono HB0.out.size)⟩
end Go.Proofs.Ytnhllpaoplfgpaa
