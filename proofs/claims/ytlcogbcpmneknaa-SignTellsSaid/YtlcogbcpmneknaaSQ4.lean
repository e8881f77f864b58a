/- The walks of sign.squares and sign.Signature. -/
import Derived.Test.YtlcogbcpmneknaaSQ3
import Derived.Test.YtlcogbcpmneknaaSQ1P
namespace Go.Proofs.Ytlcogbcpmneknaa
open Go.RowKit Go.Maps

/-- How many signs have changed, the last power that is there, and its coefficient: of the first i coefficients. -/
def sgQ (f : Nat → Int) : Nat → Nat × Nat × Int
  | 0 => (0, 0, 1)
  | i + 1 => if f i = 0 then sgQ f i else ((sgQ f i).1 + (if (decide (f i < 0) != decide ((sgQ f i).2.2 < 0)) = true then 1 else 0), i, f i)
theorem sgQ_le (f : Nat → Int) : ∀ i, (sgQ f i).1 ≤ i ∧ (sgQ f i).2.1 ≤ i
  | 0 => ⟨Nat.le_refl _, Nat.le_refl _⟩
  | i + 1 => by
    have h := sgQ_le f i
    unfold sgQ
    split
    · omega
    · refine ⟨?_, by simp only; omega⟩
      simp only
      split <;> omega
/-- Squares with plus signs less those with minus signs. -/
def sgV (f : Nat → Int) (m : Nat) : Int := ((sgQ f m).1 : Int) - (((sgQ f m).2.1 : Int) - ((sgQ f m).1 : Int))

set_option maxHeartbeats 8000000 in
set_option maxRecDepth 100000 in
theorem squares_any (a : Option Addr) (cap m : Nat) (f : Nat → Int) (w : World) (hm : m ≤ 1000) (h : RdAt w w.heap.size 1 (.slice a m cap) m (intsV (mapI m f))) :
    Calls Try.prog 13 #[.slice a m cap] w fun e w' => e = .returned (.int .i64 (sgV f m)) ∧ Below w.heap.size w w' := by
  have HR : Hid (RdAt w w.heap.size 1 (.slice a m cap) m (intsV (mapI m f))) := h
  have HB : Hid (Below w.heap.size w w) := Below.refl _ _
  clear h
  go_enter Try.func13, Try.ntmps13
  go_wp2
  go_loopw [10, 3, 4, 5, 6, 7] (fun v10 v3 v4 v5 _ _ wr => ∃ i : Nat, i ≤ m ∧ v10 = .int .i64 (i : Nat) ∧ v3 = .int .i64 ((sgQ f i).1 : Nat) ∧ v4 = .int .i64 ((sgQ f i).2.1 : Nat) ∧ v5 = .int .i64 (sgQ f i).2.2 ∧ Hid (Below w.heap.size w wr)) (fun v10 _ _ _ _ _ _ => m - (intOf v10).toNat)
  case atStart => exact ⟨0, Nat.zero_le _, rfl, rfl, rfl, rfl, HB.out⟩
  case round =>
    clear HB
    rename World => W1
    obtain ⟨i, hin, rfl, rfl, rfl, rfl, hb⟩ := hrel
    have hle := sgQ_le f i
    by_cases hil : i < m
    · have HN : Hid (sgQ f (i + 1) = if f i = 0 then sgQ f i else ((sgQ f i).1 + (if (decide (f i < 0) != decide ((sgQ f i).2.2 < 0)) = true then 1 else 0), i, f i)) := (rfl : sgQ f (i + 1) = if f i = 0 then sgQ f i else ((sgQ f i).1 + (if (decide (f i < 0) != decide ((sgQ f i).2.2 < 0)) = true then 1 else 0), i, f i))
      have HQ : Hid (∃ b off, a = some ⟨b, off, none⟩ ∧ b < w.heap.size ∧ w.cell? ⟨b, off + i, none⟩ = some (.int .i64 (f i))) := (by
        obtain ⟨a', c', e, g⟩ := HR.out
        injection e with e1 e2 e3
        obtain ⟨b, off, eb, hlt, hc⟩ := g (by omega)
        refine ⟨b, off, e1.trans eb, hlt, ?_⟩
        rw [hc i (by omega), intsV_get _ i (by rw [mapI_len]; exact hil), mapI_at _ _ _ hil] : ∃ b off, a = some ⟨b, off, none⟩ ∧ b < w.heap.size ∧ w.cell? ⟨b, off + i, none⟩ = some (.int .i64 (f i)))
      obtain ⟨b, off, ea, hbw, hc⟩ := HQ.out
      have e0 := bcell hb.out hbw hc
      have hsW := hb.out.size
      have hbW : b < W1.heap.size := by omega
      subst ea
      clear hc HQ
      obtain ⟨q1, hq1⟩ : ∃ q, (sgQ f i).1 = q := ⟨_, rfl⟩
      obtain ⟨q2, hq2⟩ : ∃ q, (sgQ f i).2.1 = q := ⟨_, rfl⟩
      obtain ⟨q3, hq3⟩ : ∃ q, (sgQ f i).2.2 = q := ⟨_, rfl⟩
      have HE : Hid (sgQ f i = (q1, q2, q3)) := (by rw [← hq1, ← hq2, ← hq3] : sgQ f i = (q1, q2, q3))
      rw [hq1, hq2, hq3]
      rw [hq1, hq2] at hle
      rw [HE.out] at HN
      obtain ⟨x, hx⟩ : ∃ x, f i = x := ⟨_, rfl⟩
      rw [hx] at e0 HN
      have HBN := hidS hb.out
      clear hq1 hq2 hq3 hx hb HE
      have en : IntKind.i64.wrap ((q1 : Int) + 1) = ((q1 + 1 : Nat) : Int) := (IntWalk.i64_in _ (by omega)).trans (by omega)
      by_cases h0 : x = 0
      · subst h0
        rw [if_pos rfl] at HN
        go_wp2
        go_roundw
        all_goals first
          | (simp only [intOf]; omega)
          | exact ⟨i + 1, by omega, by go_num, by rw [HN.out], by rw [HN.out], by rw [HN.out], HBN.out⟩
      · have hx0 : (x == 0) = false := beq_eq_false_iff_ne.2 h0
        rw [if_neg h0] at HN
        obtain ⟨q9, hq9⟩ : ∃ q9, q1 + 1 = q9 := ⟨_, rfl⟩
        rw [hq9] at en
        have HQ9 := hidS hq9
        clear hq9
        by_cases s1 : x < 0 <;> by_cases s2 : q3 < 0
        · have e1 : decide (x < 0) = true := decide_eq_true s1
          have e2 : decide (q3 < 0) = true := decide_eq_true s2
          rw [e1, e2] at HN
          have HZ : Hid (sgQ f (i + 1) = (q1, i, x)) := (HN.out : sgQ f (i + 1) = (q1, i, x))
          clear s1 s2
          go_wp2
          go_roundw
          all_goals first
            | (simp only [intOf]; omega)
            | exact ⟨i + 1, by omega, by go_num, by rw [HZ.out], by rw [HZ.out], by rw [HZ.out], HBN.out⟩
        · have e1 : decide (x < 0) = true := decide_eq_true s1
          have e2 : decide (q3 < 0) = false := decide_eq_false s2
          rw [e1, e2] at HN
          have HZ : Hid (sgQ f (i + 1) = (q9, i, x)) := (by rw [← HQ9.out]; exact HN.out : sgQ f (i + 1) = (q9, i, x))
          clear s1 s2
          go_wp2
          go_roundw
          all_goals first
            | (simp only [intOf]; omega)
            | exact ⟨i + 1, by omega, by go_num, by rw [HZ.out], by rw [HZ.out], by rw [HZ.out], HBN.out⟩
        · have e1 : decide (x < 0) = false := decide_eq_false s1
          have e2 : decide (q3 < 0) = true := decide_eq_true s2
          rw [e1, e2] at HN
          have HZ : Hid (sgQ f (i + 1) = (q9, i, x)) := (by rw [← HQ9.out]; exact HN.out : sgQ f (i + 1) = (q9, i, x))
          clear s1 s2
          go_wp2
          go_roundw
          all_goals first
            | (simp only [intOf]; omega)
            | exact ⟨i + 1, by omega, by go_num, by rw [HZ.out], by rw [HZ.out], by rw [HZ.out], HBN.out⟩
        · have e1 : decide (x < 0) = false := decide_eq_false s1
          have e2 : decide (q3 < 0) = false := decide_eq_false s2
          rw [e1, e2] at HN
          have HZ : Hid (sgQ f (i + 1) = (q1, i, x)) := (HN.out : sgQ f (i + 1) = (q1, i, x))
          clear s1 s2
          go_wp2
          go_roundw
          all_goals first
            | (simp only [intOf]; omega)
            | exact ⟨i + 1, by omega, by go_num, by rw [HZ.out], by rw [HZ.out], by rw [HZ.out], HBN.out⟩
    · obtain rfl : i = m := by omega
      have HBN := hidS hb.out
      have HV : Hid (sgV f i = ((sgQ f i).1 : Int) - (((sgQ f i).2.1 : Int) - ((sgQ f i).1 : Int))) := (rfl : sgV f i = ((sgQ f i).1 : Int) - (((sgQ f i).2.1 : Int) - ((sgQ f i).1 : Int)))
      generalize (sgQ f i).2.2 = q3
      generalize (sgQ f i).1 = q1 at hle HV
      generalize (sgQ f i).2.1 = q2 at hle HV
      have e1 : IntKind.i64.wrap ((q2 : Int) - (q1 : Int)) = (q2 : Int) - (q1 : Int) := IntWalk.i64_in _ (by omega)
      have e2 : IntKind.i64.wrap ((q1 : Int) - ((q2 : Int) - (q1 : Int))) = (q1 : Int) - ((q2 : Int) - (q1 : Int)) := IntWalk.i64_in _ (by omega)
      clear hb
      go_wp2
      go_ret
      exact ⟨by rw [HV.out]; rfl, HBN.out⟩
/-- What the signature is told to be, by the table of shade 0 without its first row and places. -/
def sigN (C : List Cr) (s : Nat → Nat) (n : Nat) : Int := IntKind.i64.wrap (sgV (sqC (fun i j => goT C s 0 C.length (i + 1) (j + 1)) n) (n + 1) - goF C s 0 C.length)

set_option maxHeartbeats 4000000 in
set_option maxRecDepth 100000 in
theorem signature_yes (v : Value) (C : List Cr) (loops : Int) (s : Nat → Nat) (n : Nat) (w : World) (hm : mayD C loops = true) (hp : planarB C = true) (ho : oneB C loops = true) (hs : Shd C s) (hc : cnS s 0 (facesM C).length = n + 1) (hn : n ≤ 100) (h : Crs w w.heap.size v C) :
    Calls Try.prog 4 #[.agg #[v, .int .i64 loops]] w fun e w' => e = .returned (.tuple #[.int .i64 (sigN C s n), .int .i64 0]) ∧ Below w.heap.size w w' := by
  obtain ⟨a0, cap0, rfl, hn0, hx⟩ := h
  have HC : Hid (Crs w w.heap.size (.slice a0 C.length cap0) C) := ⟨a0, cap0, rfl, hn0, hx⟩
  have hK := fun W (hW : Crs W W.heap.size (.slice a0 C.length cap0) C) => chart_yes (.slice a0 C.length cap0) C loops s W hm hp ho hs hW
  have hG := fun a cap gF cF gT cT gM gS W (hW : Ch W a cap C gF gT gM gS (shL s (facesM C).length)) => goeritz_any a cap C loops gF cF gT cT gM gS s 0 W hm hp ho hs (by omega) hW
  unfold chV at hK hG
  rw [hc] at hG
  obtain ⟨F, hF⟩ : ∃ F, (facesM C).length = F := ⟨_, rfl⟩
  rw [hF] at hK hG
  have HSG : Hid (sigN C s n = IntKind.i64.wrap (sgV (sqC (fun i j => goT C s 0 C.length (i + 1) (j + 1)) n) (n + 1) - goF C s 0 C.length)) := (rfl : sigN C s n = IntKind.i64.wrap (sgV (sqC (fun i j => goT C s 0 C.length (i + 1) (j + 1)) n) (n + 1) - goF C s 0 C.length))
  have hWF := fun B gt gs W h => withoutFirst_any B gt n gs (goT C s 0 C.length) W hn h
  have hCH := fun v W h => char_any v n (fun i j => goT C s 0 C.length (i + 1) (j + 1)) W hn h
  have hSQ := fun a c W h => squares_any a c (n + 1) (sqC (fun i j => goT C s 0 C.length (i + 1) (j + 1)) n) W (by omega) h
  obtain ⟨fx, hfx⟩ : ∃ fx, goF C s 0 C.length = fx := ⟨_, rfl⟩
  obtain ⟨sq, hsq⟩ : ∃ sq, sgV (sqC (fun i j => goT C s 0 C.length (i + 1) (j + 1)) n) (n + 1) = sq := ⟨_, rfl⟩
  rw [hfx] at hG HSG
  rw [hsq] at hSQ HSG
  obtain ⟨m, hmn⟩ : ∃ m, n + 1 = m := ⟨_, rfl⟩
  rw [hmn] at hG hWF hCH hSQ
  obtain ⟨z, hz⟩ : ∃ z, IntKind.i64.wrap (sq - fx) = z := ⟨_, rfl⟩
  rw [hz] at HSG
  have HK := hidS hK
  have HG := hidS hG
  have HWF := hidS hWF
  have HCH := hidS hCH
  have HSQ := hidS hSQ
  have HB1 := hidS ((Below.refl w.heap.size w).alloc (Nat.le_refl _) (.cells #[.slice a0 C.length cap0, .int .i64 loops] 24))
  rw [HSG.out]
  clear hK hG hx hF hmn hfx hsq hWF hCH hSQ hc hs hp ho hm hn0 hn
  go_enter Try.func4, Try.ntmps4
  go_upto_region 4 with (go_at_call 11; refine (HK.out _ (HC.out.up HB1.out)).mono ?_; rintro e9 w2 ⟨a, cap, gF, cF, gT, cT, gM, gS, rfl, hch, -, -, hb2⟩
                         have HB2 := hidS (HB1.out.trans (hb2.mono (by simp)))
                         have HCH2 := hidS hch
                         clear hb2 hch)
  obtain ⟨X, hX⟩ : ∃ X, w2.alloc (.cells #[.slice a C.length cap, .int .i64 loops, .slice (some ⟨gF, 0, none⟩) (2 * C.length + 1) cF, .slice (some ⟨gT, 0, none⟩) (2 * C.length + 1) cT, .map (some gM), .slice (some ⟨gS, 0, none⟩) F F] 43) = X := ⟨_, rfl⟩
  have hbX : Below w2.heap.size w2 X := by rw [← hX]; exact (Below.refl _ _).alloc (Nat.le_refl _) _
  have kX : X.heap[w2.heap.size]? = some (.cells #[.slice a C.length cap, .int .i64 loops, .slice (some ⟨gF, 0, none⟩) (2 * C.length + 1) cF, .slice (some ⟨gT, 0, none⟩) (2 * C.length + 1) cT, .map (some gM), .slice (some ⟨gS, 0, none⟩) F F] 43 (0, 0)) := by rw [← hX]; exact alloc_at rfl
  have x0 : X.cell? ⟨w2.heap.size, 0, none⟩ = some (.slice a C.length cap) := block_cell kX rfl
  have x1 : X.cell? ⟨w2.heap.size, 1, none⟩ = some (.int .i64 loops) := block_cell kX rfl
  have x2 : X.cell? ⟨w2.heap.size, 2, none⟩ = some (.slice (some ⟨gF, 0, none⟩) (2 * C.length + 1) cF) := block_cell kX rfl
  have x3 : X.cell? ⟨w2.heap.size, 3, none⟩ = some (.slice (some ⟨gT, 0, none⟩) (2 * C.length + 1) cT) := block_cell kX rfl
  have x4 : X.cell? ⟨w2.heap.size, 4, none⟩ = some (.map (some gM)) := block_cell kX rfl
  have x5 : X.cell? ⟨w2.heap.size, 5, none⟩ = some (.slice (some ⟨gS, 0, none⟩) F F) := block_cell kX rfl
  have lX : w2.heap.size < X.heap.size := (Array.getElem?_eq_some_iff.1 kX).1
  have HBX := hidS (HB2.out.trans (hbX.mono HB2.out.size))
  have HCX := hidS (HCH2.out.on hbX)
  have sX := HBX.out.size
  rw [hX]
  clear hX hbX kX
  go_wp2_with (first
    | (go_at_call 12; refine (HG.out _ _ _ _ _ _ _ _ _ HCX.out).mono ?_; rintro e9 w3 ⟨gt, gs, rfl, ht3, hb3⟩; refine Hid.out ?_))
  refine Lib.hid ?_
  have HT3 := hidS ht3
  have HB3 := hidS (HBX.out.trans (hb3.mono sX))
  clear ht3 hb3 x0 x1 x2 x3 x4 x5
  go_wp2_with (go_at_call 15; refine (HWF.out _ _ _ _ HT3.out).mono ?_; rintro e9 w4 ⟨v4, rfl, hq4, hb4⟩; refine Hid.out ?_)
  refine Lib.hid ?_
  have HQ4 := hidS hq4
  have HB4 := hidS (HB3.out.trans (hb4.mono HB3.out.size))
  clear hq4 hb4
  go_wp2_with (go_at_call 14; refine (HCH.out _ _ HQ4.out).mono ?_; rintro e9 w5 ⟨v5, rfl, hq5, hb5⟩; obtain ⟨a5, c5, e5⟩ := own_capS hq5; subst e5; refine Hid.out ?_)
  refine Lib.hid ?_
  have HQ5 := hidS (own_rd hq5)
  have HB5 := hidS (HB4.out.trans (hb5.mono HB4.out.size))
  clear hq5 hb5
  go_wp2_with (go_at_call 13; refine (HSQ.out _ _ _ HQ5.out).mono ?_; rintro e9 w6 ⟨rfl, hb6⟩; refine Hid.out ?_)
  refine Lib.hid ?_
  have HB6 := hidS (HB5.out.trans (hb6.mono HB5.out.size))
  clear hb6
  go_wp2
  go_ret2
  exact ⟨rfl, HB6.out⟩
end Go.Proofs.Ytlcogbcpmneknaa
