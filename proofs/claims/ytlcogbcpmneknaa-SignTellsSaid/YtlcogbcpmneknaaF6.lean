/- The walk of ref.PlanarIs. -/
import Derived.Test.YtlcogbcpmneknaaF4P
namespace Go.Proofs.Ytlcogbcpmneknaa
open Go.RowKit

set_option maxHeartbeats 16000000 in
set_option maxRecDepth 100000 in
theorem planarIs_any (a : Option Addr) (cap : Nat) (C : List Cr) (loops : Int) (w : World) (hm : mayD C loops = true) (hD : Crs w w.heap.size (.slice a C.length cap) C) :
    Calls Try.prog 35 #[.agg #[.slice a C.length cap, .int .i64 loops]] w fun e w' => e = .returned (.bool (planarB C)) ∧ Below w.heap.size w w' := by
  obtain ⟨s1, -, -, -⟩ := sizeB_iff (may_size hm)
  have HM : Hid (mayD C loops = true) := hm
  have HD : Hid (Crs w w.heap.size (.slice a C.length cap) C) := hD
  obtain ⟨hfl, hfr⟩ := facesM_facts hm
  have HFR : Hid (∀ j, j < (facesM C).length → 0 < ((facesM C).getD j []).length ∧ ((facesM C).getD j []).length ≤ 4 * C.length + 1 ∧ ∀ k, k < ((facesM C).getD j []).length → 1 ≤ ((facesM C).getD j []).getD k 0 ∧ ((facesM C).getD j []).getD k 0 ≤ 4 * C.length) := hfr
  clear hm hD hfr
  obtain ⟨w0, hw0⟩ : ∃ w0, w0 = w.alloc (.cells #[.slice a C.length cap, .int .i64 loops] 24) := ⟨_, rfl⟩
  have HW0 : Hid (w0 = w.alloc (.cells #[.slice a C.length cap, .int .i64 loops] 24)) := hw0
  have hs0 : w0.heap.size = w.heap.size + 1 := by rw [hw0]; simp
  have HB0 : Hid (Below w.heap.size w w0) := (by rw [hw0]; exact (Below.refl _ _).alloc (Nat.le_refl _) _ : Below w.heap.size w w0)
  have HT0 : Hid (w0.heap[w.heap.size]? = some (.cells #[.slice a C.length cap, .int .i64 loops] 24 (0, 0))) := (by rw [hw0]; exact alloc_at rfl : w0.heap[w.heap.size]? = some (.cells #[.slice a C.length cap, .int .i64 loops] 24 (0, 0)))
  have HD0 : Hid (Crs w0 w0.heap.size (.slice a C.length cap) C) := HD.out.up HB0.out
  clear hw0
  go_enter Try.func35, Try.ntmps35
  go_wp2_with (go_at_call 36; rw [← HW0.out]; refine (piecesOf_any a cap C loops _ HM.out HD0.out).mono ?_; rintro e9 w1 ⟨vw, W, rfl, hrow, hle, hb1⟩; refine Hid.out ?_)
  refine Lib.hid ?_
  have HLE : Hid (W = whoM C) := hle.eq (whoM_least HM.out)
  have HWL : Hid (W.length = C.length) := hle.1
  obtain ⟨aw, cw, rfl, fw⟩ := slots_of_own hrow
  have HFW : Hid (0 < C.length → ∃ b off, aw = some ⟨b, off, none⟩ ∧ b < w1.heap.size ∧ ∀ i, i < C.length → w1.cell? ⟨b, off + i, none⟩ = some (.int .i64 (W.getD i 0 : Nat))) := fun h0 => by
    obtain ⟨b, off, e, hlt, hc⟩ := fw (by rw [nats_len, hle.1]; exact h0)
    refine ⟨b, off, e, hlt, fun i hi => ?_⟩
    rw [hc i (by rw [nats_len, hle.1]; exact hi), List.getD_eq_getElem?_getD, nats_get W i (by rw [hle.1]; exact hi)]
    rfl
  rw [nats_len, hle.1]
  have HB1 : Hid (Below w0.heap.size w0 w1) := hb1
  have hs1 := hb1.size
  have g1 := (hb1.block _ (by omega)).trans HT0.out
  have p0 : w1.cell? ⟨w.heap.size, 0, none⟩ = some (.slice a C.length cap) := block_cell g1 rfl
  have p1 : w1.cell? ⟨w.heap.size, 1, none⟩ = some (.int .i64 loops) := block_cell g1 rfl
  have HD1 : Hid (Crs w1 w1.heap.size (.slice a C.length cap) C) := HD0.out.up hb1
  clear hrow hle fw hb1 g1
  go_wp2_with (go_at_call 20; refine (facesOf_any a cap C loops _ HM.out HD1.out).mono ?_; rintro e9 w2 ⟨vf, rfl, hrf, hb2⟩; refine Hid.out ?_)
  refine Lib.hid ?_
  have hrg := hrf.rings (fun j hj => (HFR.out j hj).1)
  obtain ⟨af, cf, rfl, ff⟩ := hrg
  have HRG : Hid (RingsAt w2 w1.heap.size (.slice af (facesM C).length cf) (facesM C)) := ⟨af, cf, rfl, ff⟩
  have HB2 : Hid (Below w0.heap.size w0 w2) := HB1.out.trans (hb2.mono hs1)
  have hs2 := hb2.size
  have HFW2 : Hid (∀ w', Below w2.heap.size w2 w' → 0 < C.length → ∃ b off, aw = some ⟨b, off, none⟩ ∧ b < w'.heap.size ∧ ∀ i, i < C.length → w'.cell? ⟨b, off + i, none⟩ = some (.int .i64 (W.getD i 0 : Nat))) := fun w' hb h0 => by
    obtain ⟨b, off, e, hlt, hc⟩ := HFW.out h0
    have hbb := hb2.trans (hb.mono hs2)
    exact ⟨b, off, e, Nat.lt_of_lt_of_le hlt hbb.size, fun i hi => bcell hbb hlt (hc i hi)⟩
  have HT2 : Hid (w2.heap[w.heap.size]? = some (.cells #[.slice a C.length cap, .int .i64 loops] 24 (0, 0))) := (HB2.out.block _ (by omega)).trans HT0.out
  have HWB : Hid (Below w.heap.size w w2) := HB0.out.trans (HB2.out.mono (by omega))
  clear hrf ff hb2 p0 p1 HB1 HB2 HD1 HD0 HT0 HB0 HFW
  by_cases hz : C.length = 0
  · have HPB : Hid (planarB C = true) := ((planarB_iff C).2 fun p hp => by omega : planarB C = true)
    go_wp2
    go_loopw [5] (fun v5 wr => v5 = .int .i64 0 ∧ Below w2.heap.size w2 wr) (fun _ _ => 0)
    case atStart => exact ⟨rfl, Below.refl _ _⟩
    case round =>
      obtain ⟨rfl, hb⟩ := hrel
      have hzi : (C.length : Int) = 0 := by omega
      go_wp2
      go_ret
      exact ⟨by rw [HPB.out]; rfl, HWB.out.trans (hb.mono HWB.out.size)⟩
  · have hpos : 0 < C.length := by omega
    obtain ⟨bw, ow, rfl, hbw, hcw⟩ := HFW2.out w2 (Below.refl _ _) hpos
    obtain ⟨af', cf', ef, ff⟩ := HRG.out
    injection ef with ef1 ef2 ef3
    obtain ⟨bf, of, efa, hbf, -, hcf⟩ := ff (facesM_pos hpos)
    rw [← ef1] at efa
    subst efa
    have HCW : Hid (∀ w', Below w2.heap.size w2 w' → ∀ i, i < C.length → w'.cell? ⟨bw, ow + i, none⟩ = some (.int .i64 (W.getD i 0 : Nat))) := fun w' hb i hi => bcell hb hbw (hcw i hi)
    have HCF : Hid (∀ j, j < (facesM C).length → ∃ g c, w2.cell? ⟨bf, of + j, none⟩ = some (.slice (some ⟨g, 0, none⟩) ((facesM C).getD j []).length c) ∧ g < w2.heap.size ∧ ∀ k, k < ((facesM C).getD j []).length → w2.cell? ⟨g, k * 2, none⟩ = some (.int .i64 (dA (((facesM C).getD j []).getD k 0) : Nat)) ∧ w2.cell? ⟨g, k * 2 + 1, none⟩ = some (.bool (dB (((facesM C).getD j []).getD k 0)))) := fun j hj => (let ⟨g, c, h1, h2, _, h3⟩ := hcf j hj; ⟨g, c, h1, h2, h3⟩)
    have HEF : Hid (af' = some ⟨bf, of, none⟩) := ef1.symm
    clear ff hcf hcw ef1 ef2 ef3 HRG HFW2 hz
    go_wp2
    go_loopw [5] (fun v5 wr => ∃ p : Nat, p ≤ C.length ∧ v5 = .int .i64 (p : Nat) ∧ Hid (∀ q, q < p → W.getD q 0 = q → exN C.length (headsM C) W q = 2) ∧ Below w2.heap.size w2 wr) (fun v5 _ => C.length - (intOf v5).toNat)
    case atStart => exact ⟨0, Nat.zero_le _, rfl, (fun q hq => absurd hq (Nat.not_lt_zero _) : ∀ q, q < 0 → W.getD q 0 = q → exN C.length (headsM C) W q = 2), Below.refl _ _⟩
    case round =>
      rename World => W1
      obtain ⟨p, hpn, rfl, hq, hb⟩ := hrel
      have HB : Hid (Below w2.heap.size w2 W1) := hb
      have hsW := hb.size
      clear hb
      by_cases hpl : p < C.length
      · have e0 := HCW.out W1 HB.out p hpl
        obtain ⟨up, hup⟩ : ∃ up, W.getD p 0 = up := ⟨_, rfl⟩
        rw [hup] at e0
        have HUP : Hid (W.getD p 0 = up) := hup
        clear hup
        by_cases hwp : up = p
        · subst hwp
          have hne : ((up : Int) != (up : Int)) = false := by simp
          go_wp2
          go_loopw [6, 7] (fun v6 v7 wr => ∃ i : Nat, i ≤ C.length ∧ v7 = .int .i64 (i : Nat) ∧ v6 = .int .i64 (-(cntN W up i : Int)) ∧ Below w2.heap.size w2 wr) (fun _ v7 _ => C.length - (intOf v7).toNat)
          case atStart => exact ⟨0, Nat.zero_le _, rfl, by simp [cntN], HB.out⟩
          case round =>
            rename World => W3
            obtain ⟨i, hin, rfl, rfl, hb⟩ := hrel
            have HB3 : Hid (Below w2.heap.size w2 W3) := hb
            have hs3 := hb.size
            clear hb
            have hcl := cntN_le W up i
            by_cases hil : i < C.length
            · have e1 := HCW.out W3 HB3.out i hil
              have hc := cntN_next W up i
              obtain ⟨u, hu⟩ : ∃ u, W.getD i 0 = u := ⟨_, rfl⟩
              rw [hu] at e1 hc
              clear hu
              by_cases hwi : u = up
              · rw [hwi] at e1 hc
                rw [if_pos rfl] at hc
                clear hwi
                have HCN : Hid (cntN W up (i + 1) = cntN W up i + 1) := hc
                clear hc
                go_wp2
                go_roundw
                case rel => exact ⟨i + 1, by omega, by go_num, by rw [HCN.out]; congr 1; first | omega | (rw [IntWalk.i64_in _ (by omega)]; omega), HB3.out⟩
                case measure => simp only [intOf]; omega
              · rw [if_neg hwi] at hc
                have HCN : Hid (cntN W up (i + 1) = cntN W up i) := (by omega : cntN W up (i + 1) = cntN W up i)
                have hne2 : ((u : Int) == (up : Int)) = false := by simp only [beq_eq_false_iff_ne]; omega
                clear hc
                go_wp2
                go_roundw
                case rel => exact ⟨i + 1, by omega, by go_num, by rw [HCN.out], HB3.out⟩
                case measure => simp only [intOf]; omega
            · obtain rfl : i = C.length := by omega
              have HB3c : Hid (Below w2.heap.size w2 W3) := HB3.out
              have hcn := cntN_le W up C.length
              obtain ⟨bd, od, ea, hbd, hCd⟩ := crs_some HD.out hpos
              have HEA : Hid (a = some ⟨bd, od, none⟩) := ea
              have HCC : Hid (∀ w', Below w2.heap.size w2 w' → CrossAt w' bd od C ∧ bd < w'.heap.size) := fun w' hb => by
                have hb' := HWB.out.trans (hb.mono HWB.out.size)
                exact ⟨hCd.on hb' hbd, Nat.lt_of_lt_of_le hbd hb'.size⟩
              clear ea hCd hcl hin
              go_wp2
              go_loopw [6, 8] (fun v6 v8 wr => ∃ i : Nat, i ≤ (facesM C).length ∧ v8 = .int .i64 (i : Nat) ∧ v6 = .int .i64 ((cntG (headsM C) W up i : Int) - (cntN W up C.length : Int)) ∧ Below w2.heap.size w2 wr) (fun _ v8 _ => (facesM C).length - (intOf v8).toNat)
              case atStart => exact ⟨0, Nat.zero_le _, rfl, by simp [cntG], HB3c.out⟩
              case round =>
                rename World => W4
                obtain ⟨i, hin, rfl, rfl, hb⟩ := hrel
                have HB4' : Hid (Below w2.heap.size w2 W4) := hb
                have hs4 := hb.size
                clear hb
                have hcg := cntG_le (headsM C) W up i
                rw [headsM_len] at hcg
                by_cases hil : i < (facesM C).length
                · obtain ⟨gj, cj, k0, k1, k2⟩ := HCF.out i hil
                  obtain ⟨l0, l1, l2⟩ := HFR.out i hil
                  have hx12 := l2 0 l0
                  have k3 := k2 0 l0
                  have hcx := cntG_next (headsM C) W up i (by rw [headsM_len]; exact hil)
                  rw [headsM_at C i hil] at hcx
                  obtain ⟨nF, hnF⟩ : ∃ nF, ((facesM C).getD i []).length = nF := ⟨_, rfl⟩
                  obtain ⟨x, hx⟩ : ∃ x, ((facesM C).getD i []).getD 0 0 = x := ⟨_, rfl⟩
                  rw [hnF] at k0 l0
                  rw [hx] at k3 hx12 hcx
                  obtain ⟨d1, d2, d3⟩ := d_may HM.out x hx12.1 hx12.2
                  have dle := dA_le hx12.1 hx12.2
                  obtain ⟨y, hy⟩ : ∃ y, dC C x = y := ⟨_, rfl⟩
                  obtain ⟨ys, hys⟩ : ∃ ys, dS C x = ys := ⟨_, rfl⟩
                  rw [hy] at d1 d2 hcx
                  rw [hys] at d1
                  obtain ⟨u, hu⟩ : ∃ u, W.getD y 0 = u := ⟨_, rfl⟩
                  rw [hu] at hcx
                  obtain ⟨xA, hxA⟩ : ∃ xA, dA x = xA := ⟨_, rfl⟩
                  obtain ⟨xB, hxB⟩ : ∃ xB, dB x = xB := ⟨_, rfl⟩
                  rw [hxA, hxB] at d1 k3
                  rw [hxA] at dle
                  have HE : Hid (∀ V, bd < V.heap.size → CrossAt V bd od C → Calls Try.prog 23 #[.agg #[.slice (some ⟨bd, od, none⟩) C.length cap, .int .i64 loops], .int .i64 xA, .bool xB] V fun e w' => e = .returned (.agg #[.int .i64 (y : Nat), .int .i64 (ys : Nat)]) ∧ Below V.heap.size V w') := fun V hV hCV => by
                    have h := endOf_any bd od cap C loops xA xB V HM.out dle.1 dle.2 hV hCV
                    rw [d1] at h
                    exact h
                  have HF : Hid (∀ w', Below w2.heap.size w2 w' → w'.cell? ⟨w.heap.size, 0, none⟩ = some (.slice (some ⟨bd, od, none⟩) C.length cap) ∧ w'.cell? ⟨w.heap.size, 1, none⟩ = some (.int .i64 loops) ∧ w'.cell? ⟨bf, of + i, none⟩ = some (.slice (some ⟨gj, 0, none⟩) nF cj) ∧ w'.cell? ⟨gj, 0, none⟩ = some (.int .i64 (xA : Nat)) ∧ w'.cell? ⟨gj, 1, none⟩ = some (.bool xB) ∧ w'.cell? ⟨bw, ow + y, none⟩ = some (.int .i64 (u : Nat))) := fun w' hb => by
                    have g := (hb.block _ (by omega)).trans HT2.out
                    rw [HEA.out] at g
                    have hw := HCW.out w' hb y d2
                    rw [hu] at hw
                    exact ⟨block_cell g rfl, block_cell g rfl, bcell hb hbf k0, bcell hb k1 k3.1, bcell hb k1 k3.2, hw⟩
                  have HD4 : Hid (Below w2.heap.size w2 W4.drew) := HB4'.out.drew
                  have HCX : Hid (cntG (headsM C) W up (i + 1) = cntG (headsM C) W up i + if u = up then 1 else 0) := hcx
                  have hfs := field_spot
                  have i0 : (0 : Int) ≤ (i : Int) := by omega
                  have i1 : (i : Int) < ((facesM C).length : Int) := by omega
                  have i2 : (0 : Int) < (nF : Int) := by omega
                  have i3 : (0 : Int) ≤ (y : Int) := by omega
                  have i4 : (y : Int) < (C.length : Int) := by omega
                  clear k0 k1 k2 k3 l1 l2 hcx hnF hx hy hys hu hxA hxB d1 d3 dle hx12
                  go_wp2
                  obtain ⟨t0, t1, t2, t3, t4, t5⟩ := HF.out W4 HB4'.out
                  go_region_held3 (fun w' => w'.cell? ⟨w.heap.size, 0, none⟩ = some (.slice (some ⟨bd, od, none⟩) C.length cap) ∧ w'.cell? ⟨w.heap.size, 1, none⟩ = some (.int .i64 loops) ∧ w'.cell? ⟨bf, of + i, none⟩ = some (.slice (some ⟨gj, 0, none⟩) nF cj) ∧ w'.cell? ⟨gj, 0, none⟩ = some (.int .i64 (xA : Nat)) ∧ w'.cell? ⟨gj, 1, none⟩ = some (.bool xB) ∧ w'.cell? ⟨bw, ow + y, none⟩ = some (.int .i64 (u : Nat))) (first | exact HF.out _ HB4.out | exact HF.out _ HD4.out) (first
                    | (go_at_call 23; refine (HE.out W4.drew (HCC.out _ HD4.out).2 (HCC.out _ HD4.out).1).mono ?_; rintro e9 w4 ⟨rfl, hb4⟩
                       have HB4 : Hid (Below w2.heap.size w2 w4) := HD4.out.trans (hb4.mono HD4.out.size)
                       clear hb4))
                  all_goals
                    clear t0 t1 t2 t3 t4 t5 hfs
                    have hs4' := HB4.out.size
                    by_cases hwu : u = up
                    · rw [if_pos hwu] at HCX
                      have hde : ((u : Int) == (up : Int)) = true := by simp only [beq_iff_eq]; omega
                      go_wp2
                      go_roundw
                      case rel => exact ⟨i + 1, by omega, by go_num, by rw [HCX.out]; congr 1; omega, HB4.out⟩
                      case measure => simp only [intOf]; omega
                    · rw [if_neg hwu] at HCX
                      have hde : ((u : Int) == (up : Int)) = false := by simp only [beq_eq_false_iff_ne]; omega
                      go_wp2
                      go_roundw
                      case rel => exact ⟨i + 1, by omega, by go_num, by rw [HCX.out]; rfl, HB4.out⟩
                      case measure => simp only [intOf]; omega
                · obtain rfl : i = (facesM C).length := by omega
                  obtain ⟨m, hm⟩ : ∃ m, ((cntG (headsM C) W up (facesM C).length : Int) - (cntN W up C.length : Int)) = m := ⟨_, rfl⟩
                  have HEX : Hid (exN C.length (headsM C) W up = m) := (by rw [ex_cnt, headsM_len]; exact hm : exN C.length (headsM C) W up = m)
                  rw [hm]
                  clear hm
                  by_cases hm2 : m = 2
                  · have hde : (m != 2) = false := by simp [hm2]
                    have HM2 : Hid (m = 2) := hm2
                    clear hm2
                    go_wp2
                    go_roundw
                    case rel =>
                      refine ⟨up + 1, by omega, by go_num, (fun q hq1 e => ?_ : ∀ q, q < up + 1 → W.getD q 0 = q → exN C.length (headsM C) W q = 2), HB4'.out⟩
                      by_cases e2 : q = up
                      · rw [e2, HEX.out]; exact HM2.out
                      · exact hq.out q (by omega) e
                    case measure => simp only [intOf]; omega
                  · have hde : (m != 2) = true := by simp [hm2]
                    have HPB : Hid (planarB C = false) := (by
                      cases hb : planarB C with
                      | false => rfl
                      | true =>
                        have h := (planarB_iff C).1 hb up (by omega) (by rw [← HLE.out]; exact HUP.out)
                        rw [← HLE.out, HEX.out] at h
                        exact absurd h hm2 : planarB C = false)
                    clear hm2
                    go_wp2
                    go_ret
                    exact ⟨by rw [HPB.out]; rfl, HWB.out.trans (HB4'.out.mono HWB.out.size)⟩
        · have hne : ((up : Int) != (p : Int)) = true := by simp only [bne_iff_ne]; omega
          have hne2 : ((up : Int) == (p : Int)) = false := by simp only [beq_eq_false_iff_ne]; omega
          go_wp2
          go_roundw
          case rel =>
            refine ⟨p + 1, by omega, by go_num, (fun q hq1 e => ?_ : ∀ q, q < p + 1 → W.getD q 0 = q → exN C.length (headsM C) W q = 2), HB.out⟩
            by_cases e2 : q = p
            · rw [e2, HUP.out] at e; exact absurd e hwp
            · exact hq.out q (by omega) e
          case measure => simp only [intOf]; omega
      · obtain rfl : p = C.length := by omega
        have HPB : Hid (planarB C = true) := ((planarB_iff C).2 fun q hq1 e => by rw [← HLE.out] at e ⊢; exact hq.out q hq1 e : planarB C = true)
        go_wp2
        go_ret
        exact ⟨by rw [HPB.out]; rfl, HWB.out.trans (HB.out.mono HWB.out.size)⟩
end Go.Proofs.Ytlcogbcpmneknaa
