/- The walk of ref.CanonForm. -/
import Derived.Test.YtdbpiggohncjiaaC13P
import Derived.Test.YtdbpiggohncjiaaC3
namespace Go.Proofs.Ytdbpiggohncjiaa
open Go.RowKit

set_option maxHeartbeats 16000000 in
set_option maxRecDepth 100000 in
theorem canonForm_any (a : Option Addr) (cap : Nat) (C : List Cr) (loops : Int) (w : World) (hm : mayD C loops = true) (hD : Crs w w.heap.size (.slice a C.length cap) C) :
    Calls Try.prog 36 #[.agg #[.slice a C.length cap, .int .i64 loops]] w fun e w' => FormOut C loops w e w' := by
  obtain ⟨s1, -, -, -⟩ := sizeB_iff (may_size hm)
  obtain ⟨i1, hj, hy0, hy1, hy2⟩ := info_parts infoInts
  have HM : Hid (mayD C loops = true) := hm
  have HCF : Hid (∀ W k, Below w.heap.size w W → k < C.length → Calls Try.prog 98 #[.agg #[.slice a C.length cap, .int .i64 loops], .int .i64 (k : Nat)] W fun e w' => ∃ vc vo, e = .returned (.tuple #[vc, vo]) ∧ w'.ownsRow W.heap.size 3 1 vc (te C k).2.length (intsV (te C k).2) ∧ w'.ownsRow W.heap.size 3 1 vo (te C k).1.length (nats (te C k).1) ∧ Below W.heap.size W w') := fun W k hW hk => by
    obtain ⟨b, off, rfl, hbw, hC⟩ := crs_some hD (by omega)
    exact codeFrom_any b off cap C loops k W hm hk (Nat.lt_of_lt_of_le hbw hW.size) (hC.on hW hbw)
  have HPO : Hid (∀ W, Below w.heap.size w W → Calls Try.prog 97 #[.agg #[.slice a C.length cap, .int .i64 loops]] W fun e w' => ∃ v V, e = .returned v ∧ w'.ownsRow W.heap.size 3 1 v C.length (nats V) ∧ Least (arcE C) C.length V ∧ Below W.heap.size W w') := fun W hW => piecesOf_any a cap C loops W hm (hD.up hW)
  have HCR : Hid (∀ W, Below w.heap.size w W → 0 < C.length → ∃ b off, a = some ⟨b, off, none⟩ ∧ b < W.heap.size ∧ CrossAt W b off C) := fun W hW h0 => by
    obtain ⟨b, off, ea, hbw, hC⟩ := crs_some hD h0
    exact ⟨b, off, ea, Nat.lt_of_lt_of_le hbw hW.size, hC.on hW hbw⟩
  have HB1 : Hid (Below w.heap.size w ((w.alloc (.cells #[.slice a C.length cap, .int .i64 loops] 35)).alloc (.cells #[.slice none 0 0, .int .i64 0] 35))) := below2 _ _ _
  clear hm hD
  go_enter Try.func36, Try.ntmps36
  go_wp2_with (go_at_call 97; refine (HPO.out _ HB1.out).mono ?_; rintro e9 w1 ⟨vw, V, rfl, hvw, hlst, hb1⟩; obtain ⟨aw, cw, ew⟩ := own_capS hvw; subst ew; refine Hid.out ?_)
  refine Lib.hid ?_
  have HVW : Hid (w1.ownsRow (w.heap.size + 2) 3 1 (.slice aw C.length cw) C.length (nats V)) := own_low hvw (by simp)
  have HLS : Hid (Least (arcE C) C.length V) := hlst
  have hVl : V.length = C.length := hlst.1
  have HVL : Hid (V.length = C.length) := hVl
  have hs1 : w.heap.size + 2 ≤ w1.heap.size := by have := hb1.size; simpa using this
  have HX1 : Hid ((w1.heap[w.heap.size]? = some (.cells #[.slice a C.length cap, .int .i64 loops] 35 (0, 0)) ∧ w1.heap[w.heap.size + 1]? = some (.cells #[.slice none 0 0, .int .i64 0] 35 (0, 0))) ∧ Below w.heap.size w w1) := ⟨⟨(hb1.block _ (by simp; omega)).trans (alloc_old (alloc_at rfl)), (hb1.block _ (by simp)).trans (alloc_at (by simp))⟩, HB1.out.trans (hb1.mono HB1.out.size)⟩
  clear hvw hlst hVl hb1 HB1
  go_wp2
  have HR1 : Hid (RfAt (w.heap.size + 2) (hdTo V 0) (hdTo V 0) (fun q => leT C (wI V) q C.length) (.slice none 0 0) (.slice none 0 0) [] [] w1) := ⟨rfl, rfl, World.ownsRow_nil _ _ _ _, World.ownsRow_nil _ _ _ _, fun i hi => absurd hi (Nat.not_lt_zero _), fun i hi => absurd hi (Nat.not_lt_zero _), Or.inl rfl⟩
  go_loopw [4, 5, 6] (fun v4 v5 v6 wr => ∃ (p : Nat) (cs os : List Value), p ≤ C.length ∧ v6 = .int .i64 (p : Nat) ∧ Hid (RfAt (w.heap.size + 2) (hdTo V p) (hdTo V p) (fun q => leT C (wI V) q C.length) v4 v5 cs os wr) ∧ Hid (wr.ownsRow (w.heap.size + 2) 3 1 (.slice aw C.length cw) C.length (nats V) ∧ ((wr.heap[w.heap.size]? = some (.cells #[.slice a C.length cap, .int .i64 loops] 35 (0, 0)) ∧ wr.heap[w.heap.size + 1]? = some (.cells #[.slice none 0 0, .int .i64 0] 35 (0, 0))) ∧ Below w.heap.size w wr))) (fun _ _ v6 _ => C.length - (intOf v6).toNat)
  case atStart => exact ⟨0, [], [], Nat.zero_le _, rfl, HR1.out, HVW.out, HX1.out⟩
  case round =>
    clear HR1 HVW HX1 hs1
    rename World => W3
    obtain ⟨p, cs, os, hpn, rfl, hrf, hoth⟩ := hrel
    obtain ⟨a4, c4, ev4⟩ := own_capS hrf.out.cr
    obtain ⟨a5, c5, ev5⟩ := own_capS hrf.out.orr
    subst ev4 ev5
    have hlx : w.heap.size + 1 < W3.heap.size := (Array.getElem?_eq_some_iff.1 hoth.out.2.1.2).1
    by_cases hpl : p < C.length
    · obtain ⟨g, c', ew, hg1, hg2⟩ := own_block hoth.out.1 (by omega)
      injection ew with ew1 ew2 ew3
      clear ew2 ew3
      subst ew1
      have e0 := hoth.out.1.cellAt p (by omega)
      rw [nats_get V p (by rw [HVL.out]; exact hpl)] at e0
      obtain ⟨r, hr⟩ : ∃ r, V.getD p 0 = r := ⟨_, rfl⟩
      have HR : Hid (V.getD p 0 = r) := hr
      rw [hr] at e0
      clear hr
      have hpi : (p : Int) < (C.length : Int) := by omega
      have hdp : decide ((p : Int) < (C.length : Int)) = true := decide_eq_true hpi
      have hdp2 : decide (p < C.length) = true := decide_eq_true hpl
      by_cases hrp : r = p
      · subst hrp
        have hne : ((r : Int) != (r : Int)) = false := by simp
        have HHN : Hid (hdTo V (r + 1) = hdTo V r ++ [r]) := (by rw [hdTo, if_pos HR.out] : hdTo V (r + 1) = hdTo V r ++ [r])
        have hHl := hdTo_len V r
        have HL0 : Hid (W3.ownsRow (w.heap.size + 2) 3 1 (.slice none 0 0) (leT C (wI V) r 0).2.length (intsV (leT C (wI V) r 0).2) ∧ W3.ownsRow (w.heap.size + 2) 3 1 (.slice none 0 0) (leT C (wI V) r 0).1.length (nats (leT C (wI V) r 0).1)) := ⟨World.ownsRow_nil _ _ _ _, World.ownsRow_nil _ _ _ _⟩
        go_wp2
        clear e0
        go_loopw [7, 8, 9] (fun v7 v8 v9 ws => ∃ i : Nat, i ≤ C.length ∧ v9 = .int .i64 (i : Nat) ∧ Hid (ws.ownsRow (w.heap.size + 2) 3 1 v7 (leT C (wI V) r i).2.length (intsV (leT C (wI V) r i).2) ∧ ws.ownsRow (w.heap.size + 2) 3 1 v8 (leT C (wI V) r i).1.length (nats (leT C (wI V) r i).1)) ∧ Hid (RfAt (w.heap.size + 2) (hdTo V r) (hdTo V r) (fun q => leT C (wI V) q C.length) (.slice a4 (hdTo V r).length c4) (.slice a5 (hdTo V r).length c5) cs os ws) ∧ Hid (ws.ownsRow (w.heap.size + 2) 3 1 (.slice (some ⟨g, 0, none⟩) C.length cw) C.length (nats V) ∧ ((ws.heap[w.heap.size]? = some (.cells #[.slice a C.length cap, .int .i64 loops] 35 (0, 0)) ∧ ws.heap[w.heap.size + 1]? = some (.cells #[.slice none 0 0, .int .i64 0] 35 (0, 0))) ∧ Below w.heap.size w ws))) (fun _ _ v9 _ => C.length - (intOf v9).toNat)
        case atStart => exact ⟨0, Nat.zero_le _, rfl, HL0.out, hrf.out, hoth.out⟩
        case round =>
          clear HL0 hrf hoth hlx
          rename World => W4
          obtain ⟨i, hin, rfl, hrw, hrf, hoth⟩ := hrel
          obtain ⟨a7, c7, ev7⟩ := own_capS hrw.out.1
          obtain ⟨a8, c8, ev8⟩ := own_capS hrw.out.2
          subst ev7 ev8
          have hlx : w.heap.size + 1 < W4.heap.size := (Array.getElem?_eq_some_iff.1 hoth.out.2.1.2).1
          have hg4 := (hoth.out.1.lt g rfl).2
          by_cases hil : i < C.length
          · have e0 := hoth.out.1.cellAt i (by omega)
            rw [nats_get V i (by rw [HVL.out]; exact hil)] at e0
            have HWI := wI_at V i (by rw [HVL.out]; exact hil)
            obtain ⟨q, hq⟩ : ∃ q, V.getD i 0 = q := ⟨_, rfl⟩
            rw [hq] at e0 HWI
            have HQ : Hid ((wI V).getD i 0 = (q : Int)) := HWI
            clear hq HWI
            have hii : (i : Int) < (C.length : Int) := by omega
            have hdi : decide ((i : Int) < (C.length : Int)) = true := decide_eq_true hii
            have hdi2 : decide (i < C.length) = true := decide_eq_true hil
            by_cases hqr : q = r
            · subst hqr
              have hqq : ((q : Int) == (q : Int)) = true := by simp
              have d0 : W4.cell? ⟨w.heap.size, 0, none⟩ = some (.slice a C.length cap) := block_cell hoth.out.2.1.1 rfl
              have d1 : W4.cell? ⟨w.heap.size, 1, none⟩ = some (.int .i64 loops) := block_cell hoth.out.2.1.1 rfl
              have hlx0 : w.heap.size < W4.heap.size := by omega
              go_upto_region 13 with (go_at_call 98; refine (HCF.out _ i hoth.out.2.2 hil).mono ?_; rintro e9 w5 ⟨vc, vo, rfl, hvc, hvo, hb5⟩; obtain ⟨ao, co, eo⟩ := own_capS hvo; obtain ⟨ac, cc, ec⟩ := own_capS hvc; subst eo ec)
              have hs5 := hb5.size
              have hg5 : W4.grownBy w5 none := grown_below hb5 none
              have HTE : Hid (w5.ownsRow (w.heap.size + 2) 3 1 (.slice ac (te C i).2.length cc) (te C i).2.length (intsV (te C i).2) ∧ w5.ownsRow (w.heap.size + 2) 3 1 (.slice ao (te C i).1.length co) (te C i).1.length (nats (te C i).1)) := ⟨own_low hvc (by omega), own_low hvo (by omega)⟩
              obtain ⟨L, hL⟩ : ∃ L, leT C (wI V) q i = L := ⟨_, rfl⟩
              have hL9 : L.2.length = 9 * L.1.length := by rw [← hL]; exact leT_len9 HM.out (wI V) q i (by omega)
              have hL10 : L.2.length ≤ 1000 := by rw [← hL]; exact leT_len HM.out (wI V) q i
              have hT9 : (te C i).2.length = 9 * (te C i).1.length := te_len9 HM.out hil
              have hT10 : (te C i).2.length ≤ 1000 := by have h := teI_len C i C.length; unfold te; omega
              have HLN : Hid (leT C (wI V) q (i + 1) = if L.1 = [] ∨ cmpT (te C i) L < 0 then te C i else L) := (by
                rw [leT, hL]
                by_cases h : L.1 = [] ∨ cmpT (te C i) L < 0
                · rw [if_pos h, if_pos ⟨HQ.out, h⟩]
                · rw [if_neg h, if_neg (fun x => h x.2)] : leT C (wI V) q (i + 1) = if L.1 = [] ∨ cmpT (te C i) L < 0 then te C i else L)
              rw [hL] at hrw
              have HRW5 : Hid (w5.ownsRow (w.heap.size + 2) 3 1 (.slice a7 L.2.length c7) L.2.length (intsV L.2) ∧ w5.ownsRow (w.heap.size + 2) 3 1 (.slice a8 L.1.length c8) L.1.length (nats L.1)) := ⟨own_any hrw.out.1 hg5, own_any hrw.out.2 hg5⟩
              have HRF5 : Hid (RfAt (w.heap.size + 2) (hdTo V q) (hdTo V q) (fun q => leT C (wI V) q C.length) (.slice a4 (hdTo V q).length c4) (.slice a5 (hdTo V q).length c5) cs os w5) := hrf.out.any hg5
              have HOT5 : Hid (w5.ownsRow (w.heap.size + 2) 3 1 (.slice (some ⟨g, 0, none⟩) C.length cw) C.length (nats V) ∧ ((w5.heap[w.heap.size]? = some (.cells #[.slice a C.length cap, .int .i64 loops] 35 (0, 0)) ∧ w5.heap[w.heap.size + 1]? = some (.cells #[.slice none 0 0, .int .i64 0] 35 (0, 0))) ∧ Below w.heap.size w w5)) := ⟨own_any hoth.out.1 hg5, ⟨(hg5.block _ hlx0 (by simp)).trans hoth.out.2.1.1, (hg5.block _ hlx (by simp)).trans hoth.out.2.1.2⟩, hoth.out.2.2.grown hg5 (by omega) (fun k hk => by cases hk)⟩
              rw [hL]
              clear hvc hvo hb5 hg5 hrw hrf hoth e0 d0 d1 hL
              by_cases hl0 : L.1 = []
              · have hl2 : L.2.length = 0 := by rw [hL9, hl0]; rfl
                rw [if_pos (Or.inl hl0)] at HLN
                rw [hl2]
                clear hL9 hL10 hl2 hT9 hT10
                go_wp2
                go_roundw
                case rel => exact ⟨i + 1, by omega, by go_num, (by rw [HLN.out]; exact HTE.out), HRF5.out, HOT5.out⟩
                case measure => simp only [intOf]; omega
              · have hll : L.1.length ≠ 0 := fun e => hl0 (List.length_eq_zero_iff.1 e)
                have hz1 : ((L.2.length : Int) == 0) = false := beq_eq_false_iff_ne.2 (by omega)
                have hz2 : (L.2.length == 0) = false := beq_eq_false_iff_ne.2 (by omega)
                have hlc := less_cmp hT9 hL9
                obtain ⟨bz, hbz⟩ : ∃ bz, decide (cmpT (te C i) L < 0) = bz := ⟨_, rfl⟩
                rw [hbz] at hlc
                have HLC : Hid (lessC (te C i).2 L.2 = bz) := hlc
                have HBZ : Hid (decide (cmpT (te C i) L < 0) = bz) := hbz
                clear hlc hbz hT9 hL9
                go_wp2_with (go_at_call 99; refine (lessCode_any _ _ (te C i).2 L.2 _ hT10 (slots_of_own HTE.out.1) (slots_of_own HRW5.out.1)).mono ?_; rw [HLC.out]; rintro e9 w6 ⟨rfl, hb6⟩; refine Hid.out ?_)
                refine Lib.hid ?_
                have hg6 : w5.grownBy w6 none := grown_below hb6 none
                have hs6 := hb6.size
                have HTE6 : Hid (w6.ownsRow (w.heap.size + 2) 3 1 (.slice ac (te C i).2.length cc) (te C i).2.length (intsV (te C i).2) ∧ w6.ownsRow (w.heap.size + 2) 3 1 (.slice ao (te C i).1.length co) (te C i).1.length (nats (te C i).1)) := ⟨own_any HTE.out.1 hg6, own_any HTE.out.2 hg6⟩
                have HRW6 : Hid (w6.ownsRow (w.heap.size + 2) 3 1 (.slice a7 L.2.length c7) L.2.length (intsV L.2) ∧ w6.ownsRow (w.heap.size + 2) 3 1 (.slice a8 L.1.length c8) L.1.length (nats L.1)) := ⟨own_any HRW5.out.1 hg6, own_any HRW5.out.2 hg6⟩
                have HRF6 : Hid (RfAt (w.heap.size + 2) (hdTo V q) (hdTo V q) (fun q => leT C (wI V) q C.length) (.slice a4 (hdTo V q).length c4) (.slice a5 (hdTo V q).length c5) cs os w6) := HRF5.out.any hg6
                have HOT6 : Hid (w6.ownsRow (w.heap.size + 2) 3 1 (.slice (some ⟨g, 0, none⟩) C.length cw) C.length (nats V) ∧ ((w6.heap[w.heap.size]? = some (.cells #[.slice a C.length cap, .int .i64 loops] 35 (0, 0)) ∧ w6.heap[w.heap.size + 1]? = some (.cells #[.slice none 0 0, .int .i64 0] 35 (0, 0))) ∧ Below w.heap.size w w6)) := ⟨own_any HOT5.out.1 hg6, ⟨(hg6.block _ (by omega) (by simp)).trans HOT5.out.2.1.1, (hg6.block _ (by omega) (by simp)).trans HOT5.out.2.1.2⟩, HOT5.out.2.2.grown hg6 (by omega) (fun k hk => by cases hk)⟩
                clear hb6 hg6
                cases bz with
                | true =>
                  rw [if_pos (Or.inr (of_decide_eq_true HBZ.out))] at HLN
                  go_wp2
                  go_roundw
                  case rel => exact ⟨i + 1, by omega, by go_num, (by rw [HLN.out]; exact HTE6.out), HRF6.out, HOT6.out⟩
                  case measure => simp only [intOf]; omega
                | false =>
                  rw [if_neg (fun x => x.elim hl0 (of_decide_eq_false HBZ.out))] at HLN
                  go_wp2
                  go_roundw
                  case rel => exact ⟨i + 1, by omega, by go_num, (by rw [HLN.out]; exact HRW6.out), HRF6.out, HOT6.out⟩
                  case measure => simp only [intOf]; omega
            · have hqq : ((q : Int) == (r : Int)) = false := beq_eq_false_iff_ne.2 (by omega)
              have hqq2 : (q == r) = false := beq_eq_false_iff_ne.2 hqr
              have HLN : Hid (leT C (wI V) r (i + 1) = leT C (wI V) r i) := leT_other (by rw [HQ.out]; omega)
              go_wp2
              go_roundw
              case rel => exact ⟨i + 1, by omega, by go_num, (by rw [HLN.out]; exact hrw.out), hrf.out, hoth.out⟩
              case measure => simp only [intOf]; omega
          · obtain rfl : i = C.length := by omega
            obtain ⟨T, hT⟩ : ∃ T : Nat → List Nat × List Int, T = fun q => leT C (wI V) q C.length := ⟨_, rfl⟩
            have HTT : Hid (T = fun q => leT C (wI V) q C.length) := hT
            have hTr : leT C (wI V) r C.length = T r := by rw [hT]
            rw [← hT] at hrf
            rw [hTr] at hrw ⊢
            clear hTr hT
            have HU7 : Hid (W4.ownsRow (w.heap.size + 2) 3 1 (.slice a7 (T r).2.length c7) (T r).2.length (intsV (T r).2)) := hrw.out.1
            have HU8 : Hid (W4.ownsRow (w.heap.size + 2) 3 1 (.slice a8 (T r).1.length c8) (T r).1.length (nats (T r).1)) := hrw.out.2
            clear hrw
            go_upto_region 16 with (first
              | (at_builtin; refine wpList_append_lies _ rfl _ _ 63 rfl (w.heap.size + 2) 52 i1 (.slice none 0 0) 1 24 Try.underlying63 hj hy0 hy1 hy2 rfl (by decide) _ (hdTo V r).length cs rfl (hrf.out.cr.alloc _) ⟨W4.heap.size, 0, none⟩ 1 1 [.slice a7 (T r).2.length c7] rfl rfl (new_cell1 _ _ _) (own_oneS HU7.out) (by decide) (by unfold maxLen; omega) (by omega) (by simp; omega) _ rfl ?_; intro g9 cap9 w9 hown9 hg9 hl9 hlt9))
            have hnone : W4.grownBy (W4.alloc (.cells #[.slice a7 (T r).2.length c7] 52)) none := World.grownBy_alloc _ _ _
            have HRF9 : Hid (RfAt (w.heap.size + 2) (hdTo V r ++ [r]) (hdTo V r) T (.slice (some ⟨g9, 0, none⟩) ((hdTo V r).length + 1) cap9) (.slice a5 (hdTo V r).length c5) (cs ++ [.slice a7 (T r).2.length c7]) os w9) := (hrf.out.any hnone).code rfl (own_any HU7.out hnone) hown9 hg9 hl9 rfl
            have HU9 : Hid (w9.ownsRow (w.heap.size + 2) 3 1 (.slice a8 (T r).1.length c8) (T r).1.length (nats (T r).1)) := (own_any HU8.out hnone).kept hg9 (own_ne (own_any HU8.out hnone) (own_any hrf.out.cr hnone) (by decide))
            have hs9 : W4.heap.size + 1 ≤ w9.heap.size := by have := hg9.size; simpa using this
            have hlow9 : ∀ k, k < w.heap.size + 2 → some k ≠ (Value.slice a4 (hdTo V r).length c4).ownBlock := fun k hk e => by have := (hrf.out.cr.lt k e.symm).1; omega
            have HOT9 : Hid (w9.ownsRow (w.heap.size + 2) 3 1 (.slice (some ⟨g, 0, none⟩) C.length cw) C.length (nats V) ∧ ((w9.heap[w.heap.size]? = some (.cells #[.slice a C.length cap, .int .i64 loops] 35 (0, 0)) ∧ w9.heap[w.heap.size + 1]? = some (.cells #[.slice none 0 0, .int .i64 0] 35 (0, 0))) ∧ Below w.heap.size w w9)) := ⟨(own_any hoth.out.1 hnone).kept hg9 (own_ne (own_any hoth.out.1 hnone) (own_any hrf.out.cr hnone) (by decide)), ⟨(hg9.block _ (by simp; omega) (hlow9 _ (by omega))).trans (alloc_old hoth.out.2.1.1), (hg9.block _ (by simp; omega) (hlow9 _ (by omega))).trans (alloc_old hoth.out.2.1.2)⟩, (hoth.out.2.2.alloc (by omega) _).grown hg9 (by simp; omega) (fun k hk => by have := (hrf.out.cr.lt k hk).1; omega)⟩
            clear hown9 hg9 hl9 hlt9 hnone hlow9 hrf hoth HU7 HU8
            go_wp2_with (first
              | (at_builtin; refine wpList_append_lies _ rfl _ _ 63 rfl (w.heap.size + 2) 52 i1 (.slice none 0 0) 1 24 Try.underlying63 hj hy0 hy1 hy2 rfl (by decide) _ (hdTo V r).length os rfl (HRF9.out.orr.alloc _) ⟨w9.heap.size, 0, none⟩ 1 1 [.slice a8 (T r).1.length c8] rfl rfl (new_cell1 _ _ _) (own_oneS HU9.out) (by decide) (by unfold maxLen; omega) (by omega) (by simp; omega) _ rfl ?_; intro g6 cap6 w6 hown6 hg6 hl6 hlt6; refine Hid.out ?_))
            refine Lib.hid ?_
            have hnone : w9.grownBy (w9.alloc (.cells #[.slice a8 (T r).1.length c8] 52)) none := World.grownBy_alloc _ _ _
            have HRF6 : Hid (RfAt (w.heap.size + 2) (hdTo V r ++ [r]) (hdTo V r ++ [r]) T (.slice (some ⟨g9, 0, none⟩) ((hdTo V r).length + 1) cap9) (.slice (some ⟨g6, 0, none⟩) ((hdTo V r).length + 1) cap6) (cs ++ [.slice a7 (T r).2.length c7]) (os ++ [.slice a8 (T r).1.length c8]) w6) := (HRF9.out.any hnone).order rfl (own_any HU9.out hnone) hown6 hg6 hl6 rfl
            have hs6 : w9.heap.size + 1 ≤ w6.heap.size := by have := hg6.size; simpa using this
            have hlow6 : ∀ k, k < w.heap.size + 2 → some k ≠ (Value.slice a5 (hdTo V r).length c5).ownBlock := fun k hk e => by have := (HRF9.out.orr.lt k e.symm).1; omega
            have HOT6 : Hid (w6.ownsRow (w.heap.size + 2) 3 1 (.slice (some ⟨g, 0, none⟩) C.length cw) C.length (nats V) ∧ ((w6.heap[w.heap.size]? = some (.cells #[.slice a C.length cap, .int .i64 loops] 35 (0, 0)) ∧ w6.heap[w.heap.size + 1]? = some (.cells #[.slice none 0 0, .int .i64 0] 35 (0, 0))) ∧ Below w.heap.size w w6)) := ⟨(own_any HOT9.out.1 hnone).kept hg6 (own_ne (own_any HOT9.out.1 hnone) (own_any HRF9.out.orr hnone) (by decide)), ⟨(hg6.block _ (by simp; omega) (hlow6 _ (by omega))).trans (alloc_old HOT9.out.2.1.1), (hg6.block _ (by simp; omega) (hlow6 _ (by omega))).trans (alloc_old HOT9.out.2.1.2)⟩, (HOT9.out.2.2.alloc (by omega) _).grown hg6 (by simp; omega) (fun k hk => by have := (HRF9.out.orr.lt k hk).1; omega)⟩
            clear hown6 hg6 hl6 hlt6 hnone hlow6
            go_wp2
            go_roundw
            case rel => exact ⟨r + 1, _, _, by omega, by go_num, (by rw [HHN.out, ← HTT.out]; exact HRF6.out), HOT6.out⟩
            case measure => simp only [intOf]; omega
      · have hne : ((r : Int) != (p : Int)) = true := by simp; omega
        have hne2 : ((r : Int) == (p : Int)) = false := beq_eq_false_iff_ne.2 (by omega)
        have hne3 : (r == p) = false := beq_eq_false_iff_ne.2 hrp
        have HHN : Hid (hdTo V (p + 1) = hdTo V p) := (by rw [hdTo, if_neg (by rw [HR.out]; exact hrp)] : hdTo V (p + 1) = hdTo V p)
        go_wp2
        go_roundw
        case rel => exact ⟨p + 1, cs, os, by omega, by go_num, (by rw [HHN.out]; exact hrf.out), hoth.out⟩
        case measure => simp only [intOf]; omega
    · obtain rfl : p = C.length := by omega
      obtain ⟨T, hT⟩ : ∃ T : Nat → List Nat × List Int, T = fun q => leT C (wI V) q C.length := ⟨_, rfl⟩
      have HTT : Hid (T = fun q => leT C (wI V) q C.length) := hT
      rw [← hT] at hrf
      obtain ⟨Hs, hHs⟩ : ∃ Hs, hdTo V C.length = Hs := ⟨_, rfl⟩
      have HHS : Hid (hdTo V C.length = Hs) := hHs
      have hHl : Hs.length ≤ C.length := by rw [← hHs]; exact hdTo_len V C.length
      rw [hHs] at hrf ⊢
      clear hT hHs
      have d1 : W3.cell? ⟨w.heap.size, 1, none⟩ = some (.int .i64 loops) := block_cell hoth.out.2.1.1 rfl
      have hlx0 : w.heap.size < W3.heap.size := by omega
      go_upto_region 18 with (fail)
      obtain ⟨W4, hW4⟩ : ∃ W4, W4 = W3.alloc (.cells #[.slice none 0 0, .int .i64 loops] 35) := ⟨_, rfl⟩
      rw [← hW4]
      have hs4 : W4.heap.size = W3.heap.size + 1 := by rw [hW4]; simp
      have HB4 : Hid (Below W3.heap.size W3 W4) := (by rw [hW4]; exact (Below.refl _ _).alloc (Nat.le_refl _) _ : Below W3.heap.size W3 W4)
      have HO4 : Hid (OutAt W4 (W3.heap.size + 1) W3.heap.size (.slice none 0 0) loops []) := (by rw [hW4]; exact OutAt.nil (alloc_at rfl) : OutAt W4 (W3.heap.size + 1) W3.heap.size (.slice none 0 0) loops [])
      have hwr1 : IntKind.i64.wrap (2 * (C.length : Int)) = 2 * (C.length : Int) := IntWalk.i64_in _ (by omega)
      have hwr2 : IntKind.i64.wrap (2 * (C.length : Int) + 1) = ((2 * C.length + 1 : Nat) : Int) := by rw [IntWalk.i64_in _ (by omega)]; omega
      obtain ⟨i2, hk0', hx0, hx1, hx2⟩ := info_parts infoInt
      obtain ⟨i3, hl, hu0, hu1, hu2⟩ := info_parts infoBool
      clear hW4 d1
      go_upto_region 19 with (first | (at_make; refine wpList_make_full _ rfl _ _ 52 rfl (W3.heap.size + 1) 3 i2 (.int .i64 0) 1 Try.underlying52 hk0' hx0 hx1 .i64 .i64 _ _ (2 * C.length + 1) rfl rfl (by first | exact hwr2 | simp) (by first | exact hwr2 | simp) (by rw [hx2]; omega) (by unfold maxLen; omega) (by omega) ?_; intro w5 hrow5 hg5))
      rw [made_zero, mapI_zeros, hs4] at hrow5
      have hs5 : W3.heap.size + 1 ≤ w5.heap.size := by have := hg5.size; omega
      have HS5 : Hid (Below W3.heap.size W3 w5 ∧ OutAt w5 (W3.heap.size + 1) W3.heap.size (.slice none 0 0) loops [] ∧ w5.ownsRow (W3.heap.size + 1) 3 1 (.slice (some ⟨W3.heap.size + 1, 0, none⟩) (2 * C.length + 1) (2 * C.length + 1)) (2 * C.length + 1) (intsV (mapI (2 * C.length + 1) (arF [])))) := ⟨HB4.out.grown hg5 (by omega) (fun k hk => by cases hk), ⟨(hg5.block _ (by omega) (by simp)).trans HO4.out.box, own_any HO4.out.row hg5⟩, hrow5⟩
      have hA5 := (hrow5.lt (W3.heap.size + 1) rfl).2
      clear hrow5 hg5 HB4 HO4 hs4 hwr1 hwr2
      go_wp2_with (first | (at_make; refine wpList_make_full _ rfl _ _ 41 rfl (W3.heap.size + 1) 4 i3 (.bool false) 1 Try.underlying41 hl hu0 hu1 .i64 .i64 _ _ Hs.length rfl rfl rfl rfl (by rw [hu2]; omega) (by unfold maxLen; omega) (by omega) ?_; intro w6 hrow6 hg6; refine Hid.out ?_))
      refine Lib.hid ?_
      rw [made_false, mapB_false] at hrow6
      have hs6 := hg6.size
      have HRF : Hid (RfAt (w.heap.size + 2) Hs Hs T (.slice a4 Hs.length c4) (.slice a5 Hs.length c5) cs os W3) := hrf.out
      have HOT : Hid (W3.heap[w.heap.size]? = some (.cells #[.slice a C.length cap, .int .i64 loops] 35 (0, 0)) ∧ W3.heap[w.heap.size + 1]? = some (.cells #[.slice none 0 0, .int .i64 0] 35 (0, 0)) ∧ Below w.heap.size w W3) := ⟨hoth.out.2.1.1, hoth.out.2.1.2, hoth.out.2.2⟩
      obtain ⟨L, hL⟩ : ∃ L : Nat → List Nat × List Int, L = fun i => T (Hs.getD i 0) := ⟨_, rfl⟩
      have HLL : Hid (L = fun i => T (Hs.getD i 0)) := hL
      have HTL : Hid (∀ i, (L i).2.length = 9 * (L i).1.length ∧ (L i).2.length ≤ 1000 ∧ (L i).1.length ≤ 16 ∧ ∀ x ∈ (L i).1, x < C.length) := fun i => by rw [hL, HTT.out]; exact ⟨leT_len9 HM.out (wI V) _ C.length (Nat.le_refl _), leT_len HM.out (wI V) _ C.length, leT_few HM.out (wI V) _ C.length (Nat.le_refl _)⟩
      have HCO : Hid (∀ i, i < Hs.length → W3.ownsRow (w.heap.size + 2) 3 1 (cs.getD i (.bool false)) (L i).2.length (intsV (L i).2) ∧ W3.ownsRow (w.heap.size + 2) 3 1 (os.getD i (.bool false)) (L i).1.length (nats (L i).1)) := fun i hi => by rw [hL]; exact ⟨HRF.out.c i hi, HRF.out.o i hi⟩
      have HS6 : Hid (StB W3 C.length loops w5.heap.size Hs.length [] [] [] (.slice none 0 0) w6) := ⟨HS5.out.1.grown hg6 (by omega) (fun k hk => by cases hk), ⟨(hg6.block _ (by omega) (by simp)).trans HS5.out.2.1.box, own_any HS5.out.2.1.row hg6⟩, own_any HS5.out.2.2 hg6, hrow6⟩
      clear hrow6 hg6 HS5 hrf hoth hL
      go_wp2
      go_loopw [14, 86] (fun v14 v86 wr => ∃ (τ : List Nat) (v : Value), τ.length ≤ Hs.length ∧ v86 = .int .i64 (τ.length : Nat) ∧ v14 = .int .i64 (((canF C [] ((τ.map fun i => (L i).1).flatten)).length : Nat) + 1 : Int) ∧ Hid (PickS L Hs.length τ) ∧ Hid (StB W3 C.length loops w5.heap.size Hs.length (canF C [] ((τ.map fun i => (L i).1).flatten)) τ (canGo C [] ((τ.map fun i => (L i).1).flatten)) v wr)) (fun _ v86 _ => Hs.length - (intOf v86).toNat)
      case atStart => exact ⟨[], _, Nat.zero_le _, rfl, rfl, PickS.nil _ _, HS6.out⟩
      case round =>
        clear HS6
        rename World => W7
        obtain ⟨τ, v, hτn, rfl, rfl, hpk, hst⟩ := hrel
        have hsz7 := hst.out.bel.size
        obtain ⟨hA7, hU7, hU5, -⟩ := hst.out.sz
        by_cases hτl : τ.length < Hs.length
        · have hti : (τ.length : Int) < (Hs.length : Int) := by omega
          have hdt : decide ((τ.length : Int) < (Hs.length : Int)) = true := decide_eq_true hti
          obtain ⟨Fx, hFx⟩ : ∃ Fx, canF C [] ((τ.map fun i => (L i).1).flatten) = Fx := ⟨_, rfl⟩
          obtain ⟨Ax, hAx⟩ : ∃ Ax, canGo C [] ((τ.map fun i => (L i).1).flatten) = Ax := ⟨_, rfl⟩
          have HFX : Hid (canF C [] ((τ.map fun i => (L i).1).flatten) = Fx ∧ canGo C [] ((τ.map fun i => (L i).1).flatten) = Ax) := ⟨hFx, hAx⟩
          rw [hFx, hAx] at hst
          rw [hFx]
          clear hFx hAx
          go_wp2
          go_loopw [16, 17] (fun v16 v17 ws => ∃ i : Nat, i ≤ Hs.length ∧ v16 = .int .i64 (selK L τ i) ∧ v17 = .int .i64 (i : Nat) ∧ Hid (StB W3 C.length loops w5.heap.size Hs.length Fx τ Ax v ws)) (fun _ v17 _ => Hs.length - (intOf v17).toNat)
          case atStart => exact ⟨0, Nat.zero_le _, rfl, rfl, hst.out⟩
          case round =>
            clear hst hsz7 hA7 hU7
            rename World => W8
            obtain ⟨i, hin, rfl, rfl, hst⟩ := hrel
            have hsz8 := hst.out.bel.size
            obtain ⟨hA8, hU8, -, -⟩ := hst.out.sz
            by_cases hil : i < Hs.length
            · have u0 := hst.out.use.cellAt i (by omega)
              rw [bools_get _ i (by rw [mapB_len]; exact hil), mapB_at _ _ _ hil] at u0
              have hii : (i : Int) < (Hs.length : Int) := by omega
              have hdi : decide ((i : Int) < (Hs.length : Int)) = true := decide_eq_true hii
              have hdi2 : decide (i < Hs.length) = true := decide_eq_true hil
              have HSN : Hid (selK L τ (i + 1) = if i ∈ τ then selK L τ i else if selK L τ i < 0 ∨ cmpT (L i) (L (selK L τ i).toNat) < 0 then (i : Int) else selK L τ i) := (rfl : selK L τ (i + 1) = if i ∈ τ then selK L τ i else if selK L τ i < 0 ∨ cmpT (L i) (L (selK L τ i).toNat) < 0 then (i : Int) else selK L τ i)
              have HSP := selK_spec L τ i
              obtain ⟨z, hz⟩ : ∃ z, selK L τ i = z := ⟨_, rfl⟩
              rw [hz] at HSN HSP ⊢
              clear hz
              by_cases hiτ : i ∈ τ
              · rw [decide_eq_true hiτ] at u0
                rw [if_pos hiτ] at HSN
                clear HSP
                go_wp2
                go_quiet (fail)
                go_wp2
                go_roundw
                case rel => exact ⟨i + 1, by omega, by rw [HSN.out], by go_num, hst.out.any (grown_below (below_drewN (Below.refl _ _) _) none)⟩
                case measure => simp only [intOf]; omega
              · rw [decide_eq_false hiτ] at u0
                rw [if_neg hiτ] at HSN
                rcases HSP with ⟨rfl, -⟩ | ⟨k, hki, rfl, hkτ, -⟩
                · rw [if_pos (Or.inl (by decide))] at HSN
                  go_wp2
                  go_quiet (fail)
                  go_wp2
                  go_roundw
                  case rel => exact ⟨i + 1, by omega, by rw [HSN.out], by go_num, hst.out.any (grown_below (below_drewN (Below.refl _ _) _) none)⟩
                  case measure => simp only [intOf]; omega
                · have hkn : decide ((k : Int) < 0) = false := decide_eq_false (by omega)
                  have hkk : (k : Int) < (Hs.length : Int) := by omega
                  obtain ⟨b4, c4', e4, hb4, hb4s⟩ := own_block HRF.out.cr (by omega)
                  injection e4 with e41 e42 e43
                  clear e42 e43
                  subst e41
                  have q0 := HRF.out.cr.cellAt i (by omega)
                  have q1 := HRF.out.cr.cellAt k (by omega)
                  obtain ⟨r1, -⟩ := HCO.out i hil
                  obtain ⟨r2, -⟩ := HCO.out k (by omega)
                  have hcl := HRF.out.cl
                  rw [show cs[i]? = some (cs.getD i (.bool false)) by rw [List.getD_eq_getElem?_getD, List.getElem?_eq_getElem (by omega)]; rfl] at q0
                  rw [show cs[k]? = some (cs.getD k (.bool false)) by rw [List.getD_eq_getElem?_getD, List.getElem?_eq_getElem (by omega)]; rfl] at q1
                  obtain ⟨ai, ci, ei⟩ := own_capS r1
                  obtain ⟨ak, ck, ek⟩ := own_capS r2
                  rw [ei] at q0 r1
                  rw [ek] at q1 r2
                  have HR1 : Hid (∀ W, Below W3.heap.size W3 W → Slots W W.heap.size (.slice ai (L i).2.length ci) (intsV (L i).2) ∧ Slots W W.heap.size (.slice ak (L k).2.length ck) (intsV (L k).2)) := fun W hW => ⟨((slots_of_own r1).on hW).mono hW.size, ((slots_of_own r2).on hW).mono hW.size⟩
                  have q0' := bcell hst.out.bel hb4s q0
                  have q1' := bcell hst.out.bel hb4s q1
                  have hb48 : b4 < W8.heap.size := by omega
                  have hlc := less_cmp (HTL.out i).1 (HTL.out k).1
                  obtain ⟨bz, hbz⟩ : ∃ bz, decide (cmpT (L i) (L k) < 0) = bz := ⟨_, rfl⟩
                  rw [hbz] at hlc
                  have HLC : Hid (lessC (L i).2 (L k).2 = bz) := hlc
                  have HBZ : Hid (decide (cmpT (L i) (L k) < 0) = bz) := hbz
                  have HL10 : Hid ((L i).2.length ≤ 1000) := (HTL.out i).2.1
                  simp only [Int.toNat_natCast] at HSN
                  clear hlc hbz q0 q1 r1 r2 ei ek hcl
                  have HD8 : Hid (Below W8.heap.size W8 W8.drew) := (Below.refl _ _).drew
                  have hi0 : (0 : Int) ≤ (i : Int) := by omega
                  have hk0 : (0 : Int) ≤ (k : Int) := by omega
                  have HFS : Hid (∀ w', Below W8.heap.size W8 w' → w'.cell? ⟨w5.heap.size, i, none⟩ = some (.bool false) ∧ w'.cell? ⟨b4, i, none⟩ = some (.slice ai (L i).2.length ci) ∧ w'.cell? ⟨b4, k, none⟩ = some (.slice ak (L k).2.length ck)) := fun w' hb => ⟨bcell hb hU8 u0, bcell hb hb48 q0', bcell hb hb48 q1'⟩
                  go_upto_region 27 with (fail)
                  go_region_held3 (fun w' => w'.cell? ⟨w5.heap.size, i, none⟩ = some (.bool false) ∧ w'.cell? ⟨b4, i, none⟩ = some (.slice ai (L i).2.length ci) ∧ w'.cell? ⟨b4, k, none⟩ = some (.slice ak (L k).2.length ck)) (first | exact HFS.out _ H9.out | exact HFS.out _ HD8.out) (first
                    | (go_at_call 99; refine (lessCode_any _ _ (L i).2 (L k).2 _ HL10.out (HR1.out _ (hst.out.bel.trans (HD8.out.mono hsz8))).1 (HR1.out _ (hst.out.bel.trans (HD8.out.mono hsz8))).2).mono ?_; rw [HLC.out]; rintro e9 w9 ⟨rfl, hb9⟩
                       have H9 : Hid (Below W8.heap.size W8 w9) := HD8.out.trans (hb9.mono HD8.out.size)
                       clear hb9))
                  have HG9 : Hid (W8.grownBy w9 none) := grown_below H9.out none
                  have HST9 : Hid (StB W3 C.length loops w5.heap.size Hs.length Fx τ Ax v w9) := hst.out.any HG9.out
                  clear u0 q0' q1'
                  cases bz with
                  | true =>
                    rw [if_pos (Or.inr (of_decide_eq_true HBZ.out))] at HSN
                    go_wp2
                    go_roundw
                    case rel => exact ⟨i + 1, by omega, by rw [HSN.out], by go_num, HST9.out⟩
                    case measure => simp only [intOf]; omega
                  | false =>
                    rw [if_neg (fun x => x.elim (by omega) (of_decide_eq_false HBZ.out))] at HSN
                    go_wp2
                    go_roundw
                    case rel => exact ⟨i + 1, by omega, by rw [HSN.out], by go_num, HST9.out⟩
                    case measure => simp only [intOf]; omega
            · obtain rfl : i = Hs.length := by omega
              obtain ⟨y0, hy0, hyn⟩ := hpk.out.free hτl
              rcases selK_spec L τ Hs.length with ⟨-, hall⟩ | ⟨k, hk, hsel, hkτ, hmin⟩
              · exact absurd (hall y0 hy0) hyn
              have HPK : Hid (PickS L Hs.length (τ ++ [k])) := hpk.out.next hk hkτ hmin
              rw [hsel]
              have u1 := hst.out.use.cellAt k (by omega)
              rw [bools_get _ k (by rw [mapB_len]; exact hk), mapB_at _ _ _ hk, decide_eq_false hkτ] at u1
              have u2 := hst.out.use.frozenAt k
              have HTK : Hid (StB W3 C.length loops w5.heap.size Hs.length Fx (τ ++ [k]) Ax v (W8.setCell ⟨w5.heap.size, k, none⟩ (.bool true))) := hst.out.take
              have hkk : (k : Int) < (Hs.length : Int) := by omega
              have hk0 : (0 : Int) ≤ (k : Int) := by omega
              obtain ⟨b5, c5', e5, hb5, hb5s⟩ := own_block HRF.out.orr (by omega)
              injection e5 with e51 e52 e53
              clear e52 e53
              subst e51
              have q0 := HRF.out.orr.cellAt k (by omega)
              obtain ⟨-, r1⟩ := HCO.out k hk
              have hol := HRF.out.ol
              rw [show os[k]? = some (os.getD k (.bool false)) by rw [List.getD_eq_getElem?_getD, List.getElem?_eq_getElem (by omega)]; rfl] at q0
              obtain ⟨ao, co, eo⟩ := own_capS r1
              rw [eo] at q0 r1
              obtain ⟨O, hO⟩ : ∃ O, (L k).1 = O := ⟨_, rfl⟩
              have HO : Hid ((L k).1 = O) := hO
              rw [hO] at q0 r1
              have hOL : O.length ≤ 16 := by rw [← hO]; exact (HTL.out k).2.2.1
              have HOL : Hid (∀ x ∈ O, x < C.length) := (by rw [← hO]; exact (HTL.out k).2.2.2 : ∀ x ∈ O, x < C.length)
              have HQ0 : Hid (W3.cell? ⟨b5, k, none⟩ = some (.slice ao O.length co)) := q0
              have HR1 : Hid (W3.ownsRow (w.heap.size + 2) 3 1 (.slice ao O.length co) O.length (nats O)) := r1
              have HFE : Hid ((((τ ++ [k]).map fun i => (L i).1).flatten) = ((τ.map fun i => (L i).1).flatten) ++ O) := (by rw [List.map_append, List.flatten_append]; simp [hO] : (((τ ++ [k]).map fun i => (L i).1).flatten) = ((τ.map fun i => (L i).1).flatten) ++ O)
              have HFB : Hid ((((τ.map fun i => (L i).1).flatten)).length ≤ 16 * τ.length) := (by
                have h1 : ∀ l : List Nat, ((l.map fun i => (L i).1).flatten).length ≤ 16 * l.length := fun l => by
                  induction l with
                  | nil => simp
                  | cons x l ih => simp only [List.map_cons, List.flatten_cons, List.length_append, List.length_cons]; have := (HTL.out x).2.2.1; omega
                exact h1 τ : (((τ.map fun i => (L i).1).flatten)).length ≤ 16 * τ.length)
              have hU80 : w5.heap.size < W8.heap.size := hU8
              clear hsel q0 r1 hol eo hO hy0 hyn hmin
              go_upto_region 30 with (fail)
              clear u1 u2
              generalize W8.setCell ⟨w5.heap.size, k, none⟩ (.bool true) = W9 at HTK ⊢
              clear hst hsz8 hA8 hU8 hU80 hin
              go_wp2
              go_loopw [14, 18] (fun v14 v18 ws => ∃ (i : Nat) (v : Value), i ≤ O.length ∧ v18 = .int .i64 (i : Nat) ∧ v14 = .int .i64 (((canF C [] (((τ.map fun i => (L i).1).flatten) ++ O.take i)).length : Nat) + 1 : Int) ∧ Hid (StB W3 C.length loops w5.heap.size Hs.length (canF C [] (((τ.map fun i => (L i).1).flatten) ++ O.take i)) (τ ++ [k]) (canGo C [] (((τ.map fun i => (L i).1).flatten) ++ O.take i)) v ws)) (fun _ v18 _ => O.length - (intOf v18).toNat)
              case atStart =>
                refine ⟨0, v, Nat.zero_le _, rfl, ?_, ?_⟩
                · rw [List.take_zero, List.append_nil, HFX.out.1]
                · rw [List.take_zero, List.append_nil, HFX.out.1, HFX.out.2]; exact HTK.out
              case round =>
                clear HTK
                rename World => W10
                obtain ⟨i, v, hiO, rfl, rfl, hst⟩ := hrel
                have hszT := hst.out.bel.size
                obtain ⟨hAT, hUT, -, -⟩ := hst.out.sz
                have q0 := bcell hst.out.bel hb5s HQ0.out
                have hb5T : b5 < W10.heap.size := by omega
                by_cases hil : i < O.length
                · obtain ⟨g, c', eg, hg1, hg2⟩ := own_block HR1.out (by omega)
                  injection eg with eg1 eg2 eg3
                  clear eg2 eg3
                  subst eg1
                  have q1 : W10.cell? ⟨g, i, none⟩ = some (.int .i64 (O.getD i 0 : Nat)) := bcell hst.out.bel hg2 ((HR1.out.cellAt i (by omega)).trans (nats_get O i hil))
                  have hcl : O.getD i 0 < C.length := HOL.out _ (by rw [List.getD_eq_getElem?_getD, List.getElem?_eq_getElem hil]; exact List.getElem_mem hil)
                  have HPN : Hid (((τ.map fun i => (L i).1).flatten) ++ O.take (i + 1) = (((τ.map fun i => (L i).1).flatten) ++ O.take i) ++ [O.getD i 0]) := (by rw [List.append_assoc, List.take_add_one, List.getD_eq_getElem?_getD, List.getElem?_eq_getElem hil]; rfl : ((τ.map fun i => (L i).1).flatten) ++ O.take (i + 1) = (((τ.map fun i => (L i).1).flatten) ++ O.take i) ++ [O.getD i 0])
                  obtain ⟨c, hc⟩ : ∃ c, O.getD i 0 = c := ⟨_, rfl⟩
                  rw [hc] at q1 hcl HPN
                  have hpl : (((τ.map fun i => (L i).1).flatten) ++ O.take i).length ≤ 300 := by have := HFB.out; rw [List.length_append, List.length_take]; omega
                  have hFl := canF_len C [] (((τ.map fun i => (L i).1).flatten) ++ O.take i)
                  have hAl := canGo_len C [] (((τ.map fun i => (L i).1).flatten) ++ O.take i)
                  have HGN := canGo_snoc C [] (((τ.map fun i => (L i).1).flatten) ++ O.take i) c
                  have HFN := canF_snoc C [] (((τ.map fun i => (L i).1).flatten) ++ O.take i) c
                  rw [← HPN.out] at HGN HFN
                  obtain ⟨F, hF⟩ : ∃ F, canF C [] (((τ.map fun i => (L i).1).flatten) ++ O.take i) = F := ⟨_, rfl⟩
                  obtain ⟨acc, hacc⟩ : ∃ acc, canGo C [] (((τ.map fun i => (L i).1).flatten) ++ O.take i) = acc := ⟨_, rfl⟩
                  rw [hF] at hst hFl HFN
                  rw [hacc] at hst hAl
                  rw [hF, hacc] at HGN
                  rw [hF]
                  obtain ⟨b, off, ea, hbw, hC⟩ := HCR.out W3 HOT.out.2.2 (by omega)
                  subst ea
                  have HCC : Hid (∀ W, Below W3.heap.size W3 W → CrossAt W b off C ∧ b < W.heap.size) := fun W hW => ⟨hC.on hW hbw, Nat.lt_of_lt_of_le hbw hW.size⟩
                  obtain ⟨x, hx⟩ : ∃ x, C.getD c Cr.none = x := ⟨_, rfl⟩
                  have HXX : Hid (C.getD c Cr.none = x) := hx
                  have HRG : Hid (∀ s, s < 4 → x.arc s = (arcN x s : Int) ∧ arcN x s ≤ 2 * C.length) := fun s hs => by rw [← hx]; have h := may_fit HM.out c s hcl hs; have h1 := h.1; have h2 := h.2.1; unfold arcN; omega
                  rw [hx] at HGN HFN
                  have HGN' : Hid (canGo C [] (((τ.map fun i => (L i).1).flatten) ++ O.take (i + 1)) = acc ++ [canX F x]) := HGN
                  have HFN' : Hid (canF C [] (((τ.map fun i => (L i).1).flatten) ++ O.take (i + 1)) = addN F x 4) := HFN
                  have hF9 : F.length ≤ 9000 := by simp only [List.length_nil] at hFl; omega
                  have ha9 : acc.length ≤ 1000 := by omega
                  have hli : (i : Int) < (O.length : Int) := by omega
                  have hdi : decide ((i : Int) < (O.length : Int)) = true := decide_eq_true hli
                  have hdi2 : decide (i < O.length) = true := decide_eq_true hil
                  have hgT : g < W10.heap.size := by omega
                  clear hc hF hacc hx HGN HFN hFl hAl hpl hC
                  go_wp2
                  clear q0 q1
                  go_loopw [14, 20, 21] (fun v14 v20 v21 ws => ∃ s : Nat, s ≤ 4 ∧ v21 = .int .i64 (s : Nat) ∧ v14 = .int .i64 (((addN F x s).length : Nat) + 1 : Int) ∧ Hid (ws.ownsRow (W3.heap.size + 2) 3 1 v20 s (intsV (mapI s (canN F x)))) ∧ Hid (StB W3 C.length loops w5.heap.size Hs.length (addN F x s) (τ ++ [k]) acc v ws)) (fun _ _ v21 _ => 4 - (intOf v21).toNat)
                  case atStart => exact ⟨0, Nat.zero_le _, rfl, rfl, World.ownsRow_nil _ _ _ _, hst.out⟩
                  case round =>
                    clear hst hszT hAT hUT hb5T hgT
                    rename World => W11
                    obtain ⟨s, hs4, rfl, rfl, hrow, hst⟩ := hrel
                    have hszT := hst.out.bel.size
                    obtain ⟨hAT, hUT, -, -⟩ := hst.out.sz
                    obtain ⟨a20, c20, e20⟩ := own_capS hrow.out
                    subst e20
                    by_cases hsl : s < 4
                    · obtain ⟨ex, hzl⟩ := HRG.out s hsl
                      obtain ⟨z, hz⟩ : ∃ z, arcN x s = z := ⟨_, rfl⟩
                      rw [hz] at ex hzl
                      have hNl := addN_len F x s
                      have HGK : Hid (canN F x s = ((addF (addN F x s) z).idxOf z : Int) + 1) := (by rw [← hz]; rfl : canN F x s = ((addF (addN F x s) z).idxOf z : Int) + 1)
                      have HAN0 : Hid (addN F x (s + 1) = addF (addN F x s) z) := (by rw [← hz]; rfl : addN F x (s + 1) = addF (addN F x s) z)
                      obtain ⟨G, hG⟩ : ∃ G, addN F x s = G := ⟨_, rfl⟩
                      rw [hG] at hst hNl HGK HAN0 ⊢
                      have t0 : W11.cell? ⟨w.heap.size, 0, none⟩ = some (.slice (some ⟨b, off, none⟩) C.length cap) := block_cell ((hst.out.bel.block _ hlx0).trans HOT.out.1) rfl
                      have t1 : W11.cell? ⟨w.heap.size, 1, none⟩ = some (.int .i64 loops) := block_cell ((hst.out.bel.block _ hlx0).trans HOT.out.1) rfl
                      have hl0 : w.heap.size < W11.heap.size := by omega
                      have HAR : Hid (Calls Try.prog 95 #[.agg #[.slice (some ⟨b, off, none⟩) C.length cap, .int .i64 loops], .agg #[.int .i64 c, .int .i64 s]] W11 fun e w' => e = .returned (.int .i64 (z : Nat)) ∧ Below W11.heap.size W11 w') := (by
                        have h := arcAt_any b off cap loops C c s W11 hcl hsl (HCC.out W11 hst.out.bel).2 (HCC.out W11 hst.out.bel).1
                        rw [HXX.out, ex] at h
                        exact h : Calls Try.prog 95 #[.agg #[.slice (some ⟨b, off, none⟩) C.length cap, .int .i64 loops], .agg #[.int .i64 c, .int .i64 s]] W11 fun e w' => e = .returned (.int .i64 (z : Nat)) ∧ Below W11.heap.size W11 w')
                      have hds : decide ((s : Int) < 4) = true := by simp; omega
                      have hk' : Try.prog.info? 3 = some i2 := hk0'
                      clear hz hG ex
                      go_upto_region 39 with (go_at_call 95; refine HAR.out.mono ?_; rintro e9 w12 ⟨rfl, hb12⟩)
                      have hg12 : W11.grownBy w12 none := grown_below hb12 none
                      have HSX0 : Hid (StB W3 C.length loops w5.heap.size Hs.length G (τ ++ [k]) acc v w12) := hst.out.any hg12
                      have HRX0 : Hid (w12.ownsRow (W3.heap.size + 2) 3 1 (.slice a20 s c20) s (intsV (mapI s (canN F x)))) := own_any hrow.out hg12
                      have hs12 := hb12.size
                      have r0 := HSX0.out.arc.cellAt z (by omega)
                      rw [intsV_get _ z (by rw [mapI_len]; omega), mapI_at _ _ _ (by omega)] at r0
                      have r1 := HSX0.out.arc.frozenAt z
                      have hzi : (z : Int) < ((2 * C.length + 1 : Nat) : Int) := by omega
                      have hzi2 : (z : Int) < 2 * (C.length : Int) + 1 := by omega
                      clear hst hrow hb12 hg12 t0 t1 HAR
                      have hA12 : W3.heap.size + 1 < w12.heap.size := by omega
                      by_cases hzG : z ∈ G
                      · have HAN : Hid (addN F x (s + 1) = G) := (by rw [HAN0.out]; unfold addF; rw [if_pos hzG] : addN F x (s + 1) = G)
                        have HGV : Hid (canN F x s = (G.idxOf z : Int) + 1) := (by rw [HGK.out]; unfold addF; rw [if_pos hzG] : canN F x s = (G.idxOf z : Int) + 1)
                        rw [show arF G z = canN F x s by rw [HGV.out]; unfold arF; rw [if_pos hzG]] at r0
                        have hnz : (canN F x s == 0) = false := beq_eq_false_iff_ne.2 (by rw [HGV.out]; omega)
                        have HSX := HSX0
                        have HRX := HRX0
                        clear HSX0 HRX0
                        go_wp2_with (first
                                                | (at_builtin; refine wpList_append_lies _ rfl _ _ 52 rfl (W3.heap.size + 2) 3 i2 (.int .i64 0) 1 8 Try.underlying52 hk' hx0 hx1 hx2 rfl (by decide) _ s (intsV (mapI s (canN F x))) rfl (HRX.out.alloc _) ⟨w12.heap.size, 0, none⟩ 1 1 [.int .i64 (canN F x s)] rfl rfl (new_cell1 _ _ _) (int_one _) (by decide) (by unfold maxLen; omega) (by omega) (by simp; omega) _ rfl ?_; intro g8 cap8 w8 hown8 hg8 hl8 hlt8; refine Hid.out ?_))
                        refine Lib.hid ?_
                        have HRN : Hid (w8.ownsRow (W3.heap.size + 2) 3 1 (.slice (some ⟨g8, 0, none⟩) (s + 1) cap8) (s + 1) (intsV (mapI (s + 1) (canN F x)))) := (by rw [mapI_succ]; simpa [intsV] using hown8 : w8.ownsRow (W3.heap.size + 2) 3 1 (.slice (some ⟨g8, 0, none⟩) (s + 1) cap8) (s + 1) (intsV (mapI (s + 1) (canN F x))))
                        have HSN : Hid (StB W3 C.length loops w5.heap.size Hs.length (addN F x (s + 1)) (τ ++ [k]) acc v w8) := (by rw [HAN.out]; exact (HSX.out.any (World.grownBy_alloc _ _ none)).row (HRX.out.alloc _) hg8 : StB W3 C.length loops w5.heap.size Hs.length (addN F x (s + 1)) (τ ++ [k]) acc v w8)
                        clear hown8 hg8 hl8 hlt8
                        go_wp2
                        go_roundw
                        case rel => exact ⟨s + 1, by omega, by go_num, by rw [HAN.out], HRN.out, HSN.out⟩
                        case measure => simp only [intOf]; omega
                      · have HAN : Hid (addN F x (s + 1) = G ++ [z]) := (by rw [HAN0.out]; unfold addF; rw [if_neg hzG] : addN F x (s + 1) = G ++ [z])
                        have HGV : Hid (canN F x s = (G.length : Int) + 1) := (by rw [HGK.out]; unfold addF; rw [if_neg hzG, List.idxOf_append, if_neg hzG]; simp : canN F x s = (G.length : Int) + 1)
                        rw [show arF G z = 0 by unfold arF; rw [if_neg hzG]] at r0
                        have HSX1 : Hid (StB W3 C.length loops w5.heap.size Hs.length (G ++ [z]) (τ ++ [k]) acc v (w12.setCell ⟨W3.heap.size + 1, z, none⟩ (.int .i64 ((G.length : Int) + 1)))) := HSX0.out.num hzG
                        have HRX1 : Hid ((w12.setCell ⟨W3.heap.size + 1, z, none⟩ (.int .i64 ((G.length : Int) + 1))).ownsRow (W3.heap.size + 2) 3 1 (.slice a20 s c20) s (intsV (mapI s (canN F x)))) := HRX0.out.kept (set_grown _ _ _ _) (Or.inr (fun e => by have := (HRX0.out.lt _ e).1; omega))
                        have hw1 : IntKind.i64.wrap ((G.length : Int) + 1 + 1) = (G.length : Int) + 1 + 1 := IntWalk.i64_in _ (by omega)
                        clear HSX0 HRX0
                        go_upto_region 42 with (fail)
                        clear r0 r1
                        have hs13 : (w12.setCell ⟨W3.heap.size + 1, z, none⟩ (.int .i64 ((G.length : Int) + 1))).heap.size = w12.heap.size := by simp
                        have hs14 : w12.heap.size ≤ (w12.setCell ⟨W3.heap.size + 1, z, none⟩ (.int .i64 ((G.length : Int) + 1))).heap.size := by omega
                        clear hs13
                        generalize w12.setCell ⟨W3.heap.size + 1, z, none⟩ (.int .i64 ((G.length : Int) + 1)) = X12 at HSX1 HRX1 hs14 ⊢
                        have HSX : Hid (StB W3 C.length loops w5.heap.size Hs.length (G ++ [z]) (τ ++ [k]) acc v X12) := HSX1.out
                        have HRX : Hid (X12.ownsRow (W3.heap.size + 2) 3 1 (.slice a20 s c20) s (intsV (mapI s (canN F x)))) := HRX1.out
                        have r0 := HSX.out.arc.cellAt z (by omega)
                        rw [intsV_get _ z (by rw [mapI_len]; omega), mapI_at _ _ _ (by omega), show arF (G ++ [z]) z = canN F x s by rw [HGV.out]; unfold arF; rw [if_pos (by simp), List.idxOf_append, if_neg hzG]; simp] at r0
                        have hA13 : W3.heap.size + 1 < X12.heap.size := by omega
                        clear HSX1 HRX1
                        go_wp2_with (first
                                                | (at_builtin; refine wpList_append_lies _ rfl _ _ 52 rfl (W3.heap.size + 2) 3 i2 (.int .i64 0) 1 8 Try.underlying52 hk' hx0 hx1 hx2 rfl (by decide) _ s (intsV (mapI s (canN F x))) rfl (HRX.out.alloc _) ⟨X12.heap.size, 0, none⟩ 1 1 [.int .i64 (canN F x s)] rfl rfl (new_cell1 _ _ _) (int_one _) (by decide) (by unfold maxLen; omega) (by omega) (by simp; omega) _ rfl ?_; intro g8 cap8 w8 hown8 hg8 hl8 hlt8; refine Hid.out ?_))
                        refine Lib.hid ?_
                        have HRN : Hid (w8.ownsRow (W3.heap.size + 2) 3 1 (.slice (some ⟨g8, 0, none⟩) (s + 1) cap8) (s + 1) (intsV (mapI (s + 1) (canN F x)))) := (by rw [mapI_succ]; simpa [intsV] using hown8 : w8.ownsRow (W3.heap.size + 2) 3 1 (.slice (some ⟨g8, 0, none⟩) (s + 1) cap8) (s + 1) (intsV (mapI (s + 1) (canN F x))))
                        have HSN : Hid (StB W3 C.length loops w5.heap.size Hs.length (addN F x (s + 1)) (τ ++ [k]) acc v w8) := (by rw [HAN.out]; exact (HSX.out.any (World.grownBy_alloc _ _ none)).row (HRX.out.alloc _) hg8 : StB W3 C.length loops w5.heap.size Hs.length (addN F x (s + 1)) (τ ++ [k]) acc v w8)
                        clear hown8 hg8 hl8 hlt8
                        go_wp2
                        go_roundw
                        case rel => exact ⟨s + 1, by omega, by go_num, by rw [HAN.out]; simp, HRN.out, HSN.out⟩
                        case measure => simp only [intOf]; omega
                    · obtain rfl : s = 4 := by omega
                      obtain ⟨br, c', eb, hbr1, hbr2⟩ := own_block hrow.out (by omega)
                      injection eb with eb1 eb2 eb3
                      clear eb2 eb3
                      subst eb1
                      have hcell : ∀ j, j < 4 → W11.cell? ⟨br, j, none⟩ = some (.int .i64 (canN F x j)) := fun j hj => by
                        have h := hrow.out.cellAt j (by omega)
                        rw [intsV_get _ j (by rw [mapI_len]; exact hj), mapI_at _ _ _ hj] at h
                        exact h
                      have k0 := hcell 0 (by omega)
                      have k1 := hcell 1 (by omega)
                      have k2 := hcell 2 (by omega)
                      have k3 := hcell 3 (by omega)
                      have HYE : Hid (canX F x = ⟨canN F x 0, canN F x 1, canN F x 2, canN F x 3, x.plus⟩) := (rfl : canX F x = ⟨canN F x 0, canN F x 1, canN F x 2, canN F x 3, x.plus⟩)
                      clear hcell
                      obtain ⟨n0, hn0⟩ : ∃ n0, canN F x 0 = n0 := ⟨_, rfl⟩
                      obtain ⟨n1, hn1⟩ : ∃ n1, canN F x 1 = n1 := ⟨_, rfl⟩
                      obtain ⟨n2, hn2⟩ : ∃ n2, canN F x 2 = n2 := ⟨_, rfl⟩
                      obtain ⟨n3, hn3⟩ : ∃ n3, canN F x 3 = n3 := ⟨_, rfl⟩
                      rw [hn0, hn1, hn2, hn3] at HYE
                      rw [hn0] at k0
                      rw [hn1] at k1
                      rw [hn2] at k2
                      rw [hn3] at k3
                      clear hn0 hn1 hn2 hn3
                      have d0 : W11.cell? ⟨w.heap.size, 0, none⟩ = some (.slice (some ⟨b, off, none⟩) C.length cap) := block_cell ((hst.out.bel.block _ hlx0).trans HOT.out.1) rfl
                      have ld : w.heap.size < W11.heap.size := by omega
                      have hp9 : W11.cell? ⟨b, off + c * 5 + 4, none⟩ = some (.bool x.plus) := by
                        have h := ((HCC.out W11 hst.out.bel).1 c hcl).2.2.2.2
                        rw [HXX.out] at h
                        exact h
                      have lb9 := (HCC.out W11 hst.out.bel).2
                      obtain ⟨a3, c3, ev3⟩ := own_capS hst.out.out.row
                      subst ev3
                      have HOD : Hid (StB W3 C.length loops w5.heap.size Hs.length (addN F x 4) (τ ++ [k]) acc (.slice a3 acc.length c3) W11.drew) := hst.out.any (grown_below ((Below.refl _ _).drew) none)
                      have t0 : W11.cell? ⟨W3.heap.size, 0, none⟩ = some (.slice a3 acc.length c3) := block_cell hst.out.out.box rfl
                      have t1 : W3.heap.size < W11.heap.size := by omega
                      have hsD : W11.drew.heap.size = W11.heap.size := rfl
                      obtain ⟨iC, hC0, hC1, hC2, hC3⟩ := info_parts infoCross
                      have hci : (c : Int) < (C.length : Int) := by omega
                      have hcN : decide (c < C.length) = true := by simp; omega
                      have hcI : decide ((c : Int) < (C.length : Int)) = true := by simp; omega
                      have hbn : br ≠ W3.heap.size := by omega
                      have hbB : b < W3.heap.size := hbw
                      have hneR : ∀ q, q < W3.heap.size + 1 → some q ≠ (Value.slice a3 acc.length c3).ownBlock := fun q hq e => by have := (hst.out.out.row.lt q e.symm).1; omega
                      have hneB : some br ≠ (Value.slice a3 acc.length c3).ownBlock := fun e => by
                        rcases own_ne hrow.out hst.out.out.row (by decide) with h1 | h1
                        · cases h1
                        · exact h1 e
                      have hbd : ∀ o, Below W11.heap.size W11 (W11.drew.alloc o) := fun o => ((Below.refl _ _).drew).alloc (Nat.le_refl _) o
                      have HKP : Hid (∀ (o : Obj) (w' : World), (W11.drew.alloc o).grownBy w' (Value.slice a3 acc.length c3).ownBlock → w'.cell? ⟨br, 0, none⟩ = some (.int .i64 n0) ∧ w'.cell? ⟨br, 1, none⟩ = some (.int .i64 n1) ∧ w'.cell? ⟨br, 2, none⟩ = some (.int .i64 n2) ∧ w'.cell? ⟨br, 3, none⟩ = some (.int .i64 n3) ∧ w'.cell? ⟨w.heap.size, 0, none⟩ = some (.slice (some ⟨b, off, none⟩) C.length cap) ∧ w'.cell? ⟨b, off + c * 5 + 4, none⟩ = some (.bool x.plus)) := fun o w' hg => ⟨(hg.cell_far ⟨br, 0, none⟩ (by simp; omega) hneB).trans (bcell (hbd o) hbr2 k0), (hg.cell_far ⟨br, 1, none⟩ (by simp; omega) hneB).trans (bcell (hbd o) hbr2 k1), (hg.cell_far ⟨br, 2, none⟩ (by simp; omega) hneB).trans (bcell (hbd o) hbr2 k2), (hg.cell_far ⟨br, 3, none⟩ (by simp; omega) hneB).trans (bcell (hbd o) hbr2 k3), (hg.cell_far ⟨w.heap.size, 0, none⟩ (by simp; omega) (hneR w.heap.size (by omega))).trans (bcell (hbd o) ld d0), (hg.cell_far ⟨b, off + c * 5 + 4, none⟩ (by simp; omega) (hneR b (by omega))).trans (bcell (hbd o) lb9 hp9)⟩
                      have HKQ : Hid (∀ (o : Obj) (w' : World) (u : Value), (W11.drew.alloc o).grownBy w' (Value.slice a3 acc.length c3).ownBlock → (fun w' => w'.cell? ⟨br, 0, none⟩ = some (.int .i64 n0) ∧ w'.cell? ⟨br, 1, none⟩ = some (.int .i64 n1) ∧ w'.cell? ⟨br, 2, none⟩ = some (.int .i64 n2) ∧ w'.cell? ⟨br, 3, none⟩ = some (.int .i64 n3) ∧ w'.cell? ⟨w.heap.size, 0, none⟩ = some (.slice (some ⟨b, off, none⟩) C.length cap) ∧ w'.cell? ⟨b, off + c * 5 + 4, none⟩ = some (.bool x.plus)) (w'.setCell ⟨W3.heap.size, 0, none⟩ u)) := fun o w' u hg => by
                        have g := HKP.out o w' hg
                        have hz := hg.size
                        simp only [World.size_alloc] at hz
                        have hsg := set_grown w' W3.heap.size 0 u
                        exact ⟨hsg.cell g.1 (by simp; omega), hsg.cell g.2.1 (by simp; omega), hsg.cell g.2.2.1 (by simp; omega), hsg.cell g.2.2.2.1 (by simp; omega), hsg.cell g.2.2.2.2.1 (by simp; omega), hsg.cell g.2.2.2.2.2 (by simp; omega)⟩
                      clear hneR hneB hbd
                      go_upto_region 43 with (fail)
                      apply cut_told
                      case h =>
                        intro key
                        refine wp_region_held_drew (S := fun w' => w'.cell? ⟨br, 0, none⟩ = some (.int .i64 n0) ∧ w'.cell? ⟨br, 1, none⟩ = some (.int .i64 n1) ∧ w'.cell? ⟨br, 2, none⟩ = some (.int .i64 n2) ∧ w'.cell? ⟨br, 3, none⟩ = some (.int .i64 n3) ∧ w'.cell? ⟨w.heap.size, 0, none⟩ = some (.slice (some ⟨b, off, none⟩) C.length cap) ∧ w'.cell? ⟨b, off + c * 5 + 4, none⟩ = some (.bool x.plus)) (by kernel_rfl) (by (try dsimp only); first | exact HKQ.out _ _ _ hg8 | exact HKP.out _ _ hg8 | go_keep) (fun hHeld => ?_)
                        refine wpAnyH_take (i := 0) (v := ?vv0c) rfl (by kernel_rfl) (by kernel_rfl) (by kernel_rfl) (fun _ _ _ h => h) (Or.inl ⟨by rfl, ?yy0c⟩) (by assumption) ?rr0c
                        case yy0c => (intro w hSw; (try dsimp only at hSw); go_simp; (try with_reducible rfl))
                        try simp only [Act.put]
                        refine wpAnyH_take (i := 2) (v := ?vv2c) rfl (by kernel_rfl) (by kernel_rfl) (by kernel_rfl) (fun _ _ _ h => h) (Or.inl ⟨by rfl, ?yy2c⟩) (by assumption) ?rr2c
                        case yy2c => (intro w hSw; (try dsimp only at hSw); go_simp; (try with_reducible rfl))
                        try simp only [Act.put]
                        refine wpAnyH_take (i := 3) (v := ?vv3c) rfl (by kernel_rfl) (by kernel_rfl) (by kernel_rfl) (fun _ _ _ h => h) (Or.inl ⟨by rfl, ?yy3c⟩) (by assumption) ?rr3c
                        case yy3c => (intro w hSw; (try dsimp only at hSw); go_simp; (try with_reducible rfl))
                        try simp only [Act.put]
                        refine wpAnyH_take (i := 4) (v := ?vv4c) rfl (by kernel_rfl) (by kernel_rfl) (by kernel_rfl) (fun _ _ _ h => h) (Or.inl ⟨by rfl, ?yy4c⟩) (by assumption) ?rr4c
                        case yy4c => (intro w hSw; (try dsimp only at hSw); go_simp; (try with_reducible rfl))
                        try simp only [Act.put]
                        refine wpAnyH_take (i := 5) (v := ?vv5c) rfl (by kernel_rfl) (by kernel_rfl) (by kernel_rfl) (fun _ _ _ h => h) (Or.inl ⟨by rfl, ?yy5c⟩) (by assumption) ?rr5c
                        case yy5c => (intro w hSw; (try dsimp only at hSw); go_simp; (try with_reducible rfl))
                        try simp only [Act.put]
                        refine wpAnyH_take (i := 6) (v := ?vv6c) rfl (by kernel_rfl) (by kernel_rfl) (by kernel_rfl) (fun _ _ _ h => h) (Or.inl ⟨by rfl, ?yy6c⟩) (by assumption) ?rr6c
                        case yy6c => (intro w hSw; (try dsimp only at hSw); go_simp; (try with_reducible rfl))
                        try simp only [Act.put]
                        refine wpAnyH_take (i := 7) (v := ?vv7c) rfl (by kernel_rfl) (by kernel_rfl) (by kernel_rfl) (fun _ _ _ h => h) (Or.inl ⟨by rfl, ?yy7c⟩) (by assumption) ?rr7c
                        case yy7c => (intro w hSw; (try dsimp only at hSw); go_simp; (try with_reducible rfl))
                        try simp only [Act.put]
                        refine wpAnyH_take (i := 8) (v := ?vv8c) rfl (by kernel_rfl) (by kernel_rfl) (by kernel_rfl) (fun _ _ _ h => h) (Or.inl ⟨by rfl, ?yy8c⟩) (by assumption) ?rr8c
                        case yy8c => (intro w hSw; (try dsimp only at hSw); go_simp; (try with_reducible rfl))
                        try simp only [Act.put]
                        refine wpAnyH_take (i := 9) (v := ?vv9c) rfl (by kernel_rfl) (by kernel_rfl) (by kernel_rfl) (fun _ _ _ h => h) (Or.inl ⟨by rfl, ?yy9c⟩) (by assumption) ?rr9c
                        case yy9c => (intro w hSw; (try dsimp only at hSw); go_simp; (try with_reducible rfl))
                        try simp only [Act.put]
                        refine wpAnyH_take (i := 10) (v := ?vv10c) rfl (by kernel_rfl) (by kernel_rfl) (by kernel_rfl) (fun _ _ _ h => h) (Or.inl ⟨by rfl, ?yy10c⟩) (by assumption) ?rr10c
                        case yy10c => (intro w hSw; (try dsimp only at hSw); go_simp; (try with_reducible rfl))
                        try simp only [Act.put]
                        refine wpAnyH_take (i := 11) (v := ?vv11c) rfl (by kernel_rfl) (by kernel_rfl) (by kernel_rfl) (fun _ _ _ h => h) (Or.inl ⟨by rfl, ?yy11c⟩) (by assumption) ?rr11c
                        case yy11c => (intro w hSw; (try dsimp only at hSw); go_simp; (try with_reducible rfl))
                        try simp only [Act.put]
                        refine wpAnyH_take (i := 12) (v := ?vv12c) rfl (by kernel_rfl) (by kernel_rfl) (by kernel_rfl) (fun _ _ _ h => h) (Or.inl ⟨by rfl, ?yy12c⟩) (by assumption) ?rr12c
                        case yy12c => (intro w hSw; (try dsimp only at hSw); go_simp; (try with_reducible rfl))
                        try simp only [Act.put]
                        refine wpAnyH_take (i := 13) (v := ?vv13c) rfl (by kernel_rfl) (by kernel_rfl) (by kernel_rfl) (fun _ _ _ h => h) (Or.inl ⟨by rfl, ?yy13c⟩) (by assumption) ?rr13c
                        case yy13c => (intro w hSw; (try dsimp only at hSw); go_simp; (try with_reducible rfl))
                        try simp only [Act.put]
                        refine wpAnyH_take (i := 14) (v := ?vv14c) rfl (by kernel_rfl) (by kernel_rfl) (by kernel_rfl) (fun _ _ _ h => h) (Or.inl ⟨by rfl, ?yy14c⟩) (by assumption) ?rr14c
                        case yy14c => (intro w hSw; (try dsimp only at hSw); go_simp; (try with_reducible rfl))
                        try simp only [Act.put]
                        refine wpAnyH_take (i := 15) (v := ?vv15c) rfl (by kernel_rfl) (by kernel_rfl) (by kernel_rfl) (fun _ _ _ h => h) (Or.inl ⟨by rfl, ?yy15c⟩) (by assumption) ?rr15c
                        case yy15c => (intro w hSw; (try dsimp only at hSw); go_simp; (try with_reducible rfl))
                        try simp only [Act.put]
                        refine wpAnyH_take (i := 16) (v := ?vv16c) rfl (by kernel_rfl) (by kernel_rfl) (by kernel_rfl) (fun _ _ _ h => h) (Or.inl ⟨by rfl, ?yy16c⟩) (by assumption) ?rr16c
                        case yy16c => (intro w hSw; (try dsimp only at hSw); go_simp; (try with_reducible rfl))
                        try simp only [Act.put]
                        refine wpAnyH_take (i := 17) (v := ?vv17c) rfl (by kernel_rfl) (by kernel_rfl) (by kernel_rfl) (fun _ _ _ h => h) (Or.inl ⟨by rfl, ?yy17c⟩) (by assumption) ?rr17c
                        case yy17c => (intro w hSw; (try dsimp only at hSw); go_simp; (try with_reducible rfl))
                        try simp only [Act.put]
                        refine wpAnyH_take (i := 18) (v := ?vv18c) rfl (by kernel_rfl) (by kernel_rfl) (by kernel_rfl) (fun _ _ _ h => h) (Or.inl ⟨by rfl, ?yy18c⟩) (by assumption) ?rr18c
                        case yy18c => (intro w hSw; (try dsimp only at hSw); go_simp; (try with_reducible rfl))
                        try simp only [Act.put]
                        refine wpAnyH_take (i := 19) (v := ?vv19c) rfl (by kernel_rfl) (by kernel_rfl) (by kernel_rfl) (fun _ _ _ h => h) (Or.inl ⟨by rfl, ?yy19c⟩) (by assumption) ?rr19c
                        case yy19c => (intro w hSw; (try dsimp only at hSw); go_simp; (try with_reducible rfl))
                        try simp only [Act.put]
                        refine wpAnyH_take (i := 20) (v := ?vv20c) rfl (by kernel_rfl) (by kernel_rfl) (by kernel_rfl) (fun _ _ _ h => h) (Or.inl ⟨by rfl, ?yy20c⟩) (by assumption) ?rr20c
                        case yy20c => (intro w hSw; (try dsimp only at hSw); go_simp; (try with_reducible rfl))
                        try simp only [Act.put]
                        refine wpAnyH_ready (rs := [1, 21]) (by kernel_rfl) (by simp) ?_
                        refine AllReadyH.cons rfl (fun K hK => ?_) (AllReadyH.cons rfl (fun K hK => ?_) AllReadyH.nil)
                        · go_simp
                          refine hK.out _ _ (by (try dsimp only); first | exact HKQ.out _ _ _ hg8 | exact HKP.out _ _ hg8 | go_keep) (fun hHeld => ?_)
                          clear hK K
                          refine wpAnyH_ready (rs := [21]) (by kernel_rfl) (by simp) ?_
                          refine AllReadyH.cons rfl (fun K hK => ?_) AllReadyH.nil
                          go_simp
                          refine hK.out _ _ (by (try dsimp only); first | exact HKQ.out _ _ _ hg8 | exact HKP.out _ _ hg8 | go_keep) (fun hHeld => ?_)
                          clear hK K
                          refine wpAnyH_ready (rs := [22]) (by kernel_rfl) (by simp) ?_
                          refine AllReadyH.cons rfl (fun K hK => ?_) AllReadyH.nil
                          (refine step_append_own rfl (.tmp 162) (.tmp 182) 33 rfl (W3.heap.size + 1) 61 iC (.agg #[.int .i64 0, .int .i64 0, .int .i64 0, .int .i64 0, .bool false]) 5 40 Try.underlying33 hC0 hC1 hC2 hC3 rfl (by decide) _ acc.length _ (by simp [Act.eval]) (HOD.out.out.row.alloc _) ⟨W11.drew.heap.size, 0, none⟩ 1 1 [.int .i64 n0, .int .i64 n1, .int .i64 n2, .int .i64 n3, .bool x.plus] (by simp [Act.eval]) rfl (new_cell5 _ _ _ _ _ _ _) (cells_one [(⟨n0, n1, n2, n3, x.plus⟩ : Cr)]) (by unfold maxLen; omega) (by omega) (by simp; omega) ?_; intro v8 w8 hown8 hg8; obtain ⟨a8, c8, ev8⟩ := own_capS hown8; subst ev8; have hb8 := HOD.out.out.box8 (by omega) hg8; have r0 : w8.cell? ⟨W3.heap.size, 0, none⟩ = some (.slice a3 acc.length c3) := block_cell hb8 rfl; have r1 : w8.frozen? ⟨W3.heap.size, 0, none⟩ = false := block_frozen hb8; have r2 : W3.heap.size < w8.heap.size := (Array.getElem?_eq_some_iff.1 hb8).1; clear hb8)
                          refine hK.out _ _ (by (try dsimp only); first | exact HKQ.out _ _ _ hg8 | exact HKP.out _ _ hg8 | go_keep) (fun hHeld => ?_)
                          clear hK K
                          refine wpAnyH_take (i := 23) (v := ?vv23ac) rfl (by kernel_rfl) (by kernel_rfl) (by kernel_rfl) (fun _ _ _ h => h) (Or.inl ⟨by rfl, ?yy23ac⟩) (by assumption) ?rr23ac
                          case yy23ac => (intro w hSw; (try dsimp only at hSw); go_simp; (try with_reducible rfl))
                          try simp only [Act.put]
                          refine wpAnyH_ready (rs := [24]) (by kernel_rfl) (by simp) ?_
                          refine AllReadyH.cons rfl (fun K hK => ?_) AllReadyH.nil
                          go_simp
                          refine hK.out _ _ (by (try dsimp only); first | exact HKQ.out _ _ _ hg8 | exact HKP.out _ _ hg8 | go_keep) (fun hHeld => ?_)
                          clear hK K
                          refine wpAnyH_done (by kernel_rfl) ?_ _
                          have HNX : Hid (StB W3 C.length loops w5.heap.size Hs.length (addN F x 4) (τ ++ [k]) (acc ++ [(⟨n0, n1, n2, n3, x.plus⟩ : Cr)]) (.slice a8 (acc.length + 1) c8) (w8.setCell ⟨W3.heap.size, 0, none⟩ (.slice a8 (acc.length + 1) c8))) := HOD.out.app hown8 hg8
                          clear r0 r1 r2 hHeld hown8 hg8
                          generalize w8.setCell ⟨W3.heap.size, 0, none⟩ (.slice a8 (acc.length + 1) c8) = W13 at HNX ⊢
                          revert a8 c8 W13
                          exact key.out
                        · go_simp
                          refine hK.out _ _ (by (try dsimp only); first | exact HKQ.out _ _ _ hg8 | exact HKP.out _ _ hg8 | go_keep) (fun hHeld => ?_)
                          clear hK K
                          refine wpAnyH_ready (rs := [1]) (by kernel_rfl) (by simp) ?_
                          refine AllReadyH.cons rfl (fun K hK => ?_) AllReadyH.nil
                          go_simp
                          refine hK.out _ _ (by (try dsimp only); first | exact HKQ.out _ _ _ hg8 | exact HKP.out _ _ hg8 | go_keep) (fun hHeld => ?_)
                          clear hK K
                          refine wpAnyH_ready (rs := [22]) (by kernel_rfl) (by simp) ?_
                          refine AllReadyH.cons rfl (fun K hK => ?_) AllReadyH.nil
                          (refine step_append_own rfl (.tmp 162) (.tmp 182) 33 rfl (W3.heap.size + 1) 61 iC (.agg #[.int .i64 0, .int .i64 0, .int .i64 0, .int .i64 0, .bool false]) 5 40 Try.underlying33 hC0 hC1 hC2 hC3 rfl (by decide) _ acc.length _ (by simp [Act.eval]) (HOD.out.out.row.alloc _) ⟨W11.drew.heap.size, 0, none⟩ 1 1 [.int .i64 n0, .int .i64 n1, .int .i64 n2, .int .i64 n3, .bool x.plus] (by simp [Act.eval]) rfl (new_cell5 _ _ _ _ _ _ _) (cells_one [(⟨n0, n1, n2, n3, x.plus⟩ : Cr)]) (by unfold maxLen; omega) (by omega) (by simp; omega) ?_; intro v8 w8 hown8 hg8; obtain ⟨a8, c8, ev8⟩ := own_capS hown8; subst ev8; have hb8 := HOD.out.out.box8 (by omega) hg8; have r0 : w8.cell? ⟨W3.heap.size, 0, none⟩ = some (.slice a3 acc.length c3) := block_cell hb8 rfl; have r1 : w8.frozen? ⟨W3.heap.size, 0, none⟩ = false := block_frozen hb8; have r2 : W3.heap.size < w8.heap.size := (Array.getElem?_eq_some_iff.1 hb8).1; clear hb8)
                          refine hK.out _ _ (by (try dsimp only); first | exact HKQ.out _ _ _ hg8 | exact HKP.out _ _ hg8 | go_keep) (fun hHeld => ?_)
                          clear hK K
                          refine wpAnyH_take (i := 23) (v := ?vv23bc) rfl (by kernel_rfl) (by kernel_rfl) (by kernel_rfl) (fun _ _ _ h => h) (Or.inl ⟨by rfl, ?yy23bc⟩) (by assumption) ?rr23bc
                          case yy23bc => (intro w hSw; (try dsimp only at hSw); go_simp; (try with_reducible rfl))
                          try simp only [Act.put]
                          refine wpAnyH_ready (rs := [24]) (by kernel_rfl) (by simp) ?_
                          refine AllReadyH.cons rfl (fun K hK => ?_) AllReadyH.nil
                          go_simp
                          refine hK.out _ _ (by (try dsimp only); first | exact HKQ.out _ _ _ hg8 | exact HKP.out _ _ hg8 | go_keep) (fun hHeld => ?_)
                          clear hK K
                          refine wpAnyH_done (by kernel_rfl) ?_ _
                          have HNX : Hid (StB W3 C.length loops w5.heap.size Hs.length (addN F x 4) (τ ++ [k]) (acc ++ [(⟨n0, n1, n2, n3, x.plus⟩ : Cr)]) (.slice a8 (acc.length + 1) c8) (w8.setCell ⟨W3.heap.size, 0, none⟩ (.slice a8 (acc.length + 1) c8))) := HOD.out.app hown8 hg8
                          clear r0 r1 r2 hHeld hown8 hg8
                          generalize w8.setCell ⟨W3.heap.size, 0, none⟩ (.slice a8 (acc.length + 1) c8) = W13 at HNX ⊢
                          revert a8 c8 W13
                          exact key.out
                      intro a8 c8 W13 HNX
                      have HNN : Hid (StB W3 C.length loops w5.heap.size Hs.length (canF C [] (((τ.map fun i => (L i).1).flatten) ++ O.take (i + 1))) (τ ++ [k]) (canGo C [] (((τ.map fun i => (L i).1).flatten) ++ O.take (i + 1))) (.slice a8 (acc.length + 1) c8) W13) := (by rw [HGN'.out, HFN'.out, HYE.out]; exact HNX.out : StB W3 C.length loops w5.heap.size Hs.length (canF C [] (((τ.map fun i => (L i).1).flatten) ++ O.take (i + 1))) (τ ++ [k]) (canGo C [] (((τ.map fun i => (L i).1).flatten) ++ O.take (i + 1))) (.slice a8 (acc.length + 1) c8) W13)
                      clear k0 k1 k2 k3 d0 hp9 t0
                      go_wp2
                      go_roundw
                      case rel => exact ⟨i + 1, _, by omega, by go_num, by rw [HFN'.out], HNN.out⟩
                      case measure => simp only [intOf]; omega
                · obtain rfl : i = O.length := by omega
                  rw [List.take_length, ← HFE.out] at hst ⊢
                  go_wp2
                  go_roundw
                  case rel => exact ⟨τ ++ [k], _, by simp; omega, by simp, rfl, HPK.out, hst.out⟩
                  case measure => simp only [intOf]; omega
        · have hτe : τ.length = Hs.length := by omega
          have HPM : Hid (τ.Perm (List.range Hs.length)) := hpk.out.perm hτe
          obtain ⟨acc, hacc⟩ : ∃ acc, canGo C [] ((τ.map fun i => (L i).1).flatten) = acc := ⟨_, rfl⟩
          have HAC : Hid (canGo C [] ((τ.map fun i => (L i).1).flatten) = acc) := hacc
          rw [hacc] at hst
          clear hacc
          obtain ⟨a3, c3, ev3⟩ := own_capS hst.out.out.row
          subst ev3
          have u0 : W7.cell? ⟨W3.heap.size, 0, none⟩ = some (.slice a3 acc.length c3) := block_cell hst.out.out.box rfl
          have u1 : W7.cell? ⟨W3.heap.size, 1, none⟩ = some (.int .i64 loops) := block_cell hst.out.out.box rfl
          have hR := (hst.out.bel.block _ hlx).trans HOT.out.2.1
          have HR : Hid (W7.heap[w.heap.size + 1]? = some (.cells #[.slice none 0 0, .int .i64 0] 35 (0, 0))) := hR
          have r0 : W7.cell? ⟨w.heap.size + 1, 0, none⟩ = some (.slice none 0 0) := block_cell hR rfl
          have r1 : W7.cell? ⟨w.heap.size + 1, 1, none⟩ = some (.int .i64 0) := block_cell hR rfl
          have r2 : W7.frozen? ⟨w.heap.size + 1, 0, none⟩ = false := block_frozen hR
          have r3 : W7.frozen? ⟨w.heap.size + 1, 1, none⟩ = false := block_frozen hR
          have l1 : w.heap.size + 1 < W7.heap.size := by omega
          have l2 : W3.heap.size < W7.heap.size := by omega
          have hdt : decide ((τ.length : Int) < (Hs.length : Int)) = false := decide_eq_false (by omega)
          have hdt2 : decide (τ.length < Hs.length) = false := decide_eq_false (by omega)
          clear hR hτe
          go_wp2
          have hX := st_block (a := .slice a3 acc.length c3) (b := .int .i64 loops) HR.out
          have x0 := block_cell (i := 0) (v := .slice a3 acc.length c3) hX rfl
          have x1 := block_cell (i := 1) (v := .int .i64 loops) hX rfl
          have hG : W7.grownBy ((W7.setCell ⟨w.heap.size + 1, 0, none⟩ (.slice a3 acc.length c3)).setCell ⟨w.heap.size + 1, 1, none⟩ (.int .i64 loops)) (some (w.heap.size + 1)) := grown_trans (set_grown _ _ _ _) (set_grown _ _ _ _)
          refine bodyPost_ret (v := .agg #[.slice a3 acc.length c3, .int .i64 loops]) (by simp [results, Try.results36, go_sem, x0, x1]) rfl ⟨_, V, τ, rfl, HLS.out, ?_, ?_, ?_, ?_⟩
          · rw [HHS.out]; exact HPM.out
          · have h := hpk.out.srt
            rw [HLL.out, HTT.out] at h
            rw [HHS.out]
            exact h
          · have h := HAC.out
            rw [HLL.out, HTT.out] at h
            rw [HHS.out, h]
            exact own_low (hst.out.out.row.kept hG (Or.inr (fun e => by have := (hst.out.out.row.lt _ e).1; omega))) (by omega)
          · exact (HOT.out.2.2.trans (hst.out.bel.mono (by omega))).grown hG (by omega) (fun q hq => by have := Option.some.inj hq; omega)
end Go.Proofs.Ytdbpiggohncjiaa
