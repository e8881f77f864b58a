/- The walk of sign.chart.goeritz. -/
import Derived.Test.YtlcogbcpmneknaaSG7P
namespace Go.Proofs.Ytlcogbcpmneknaa
open Go.RowKit Go.Maps

set_option maxHeartbeats 16000000 in
set_option maxRecDepth 100000 in
theorem goeritz_any (a : Option Addr) (cap : Nat) (C : List Cr) (loops : Int) (gF cF gT cT gM gS : Nat) (s : Nat → Nat) (sh : Nat) (w : World) (hm : mayD C loops = true) (hp : planarB C = true) (ho : oneB C loops = true) (hs : Shd C s) (hsh : sh < 2) (h : Ch w a cap C gF gT gM gS (shL s (facesM C).length)) :
    Calls Try.prog 12 #[chV a cap C loops gF cF gT cT gM gS, .int .i64 (sh : Nat)] w fun e w' => ∃ gt gs, e = .returned (.tuple #[.slice (some ⟨gt, 0, none⟩) (cnS s sh (facesM C).length) (cnS s sh (facesM C).length), .int .i64 (goF C s sh C.length)]) ∧ TabAt w.heap.size gt (cnS s sh (facesM C).length) gs (cnS s sh (facesM C).length) (goT C s sh C.length) w' ∧ Below w.heap.size w w' := by
  obtain ⟨s1, -, -, -⟩ := sizeB_iff (may_size hm)
  obtain ⟨h0, -, -⟩ := one_con hm ho
  have hFe := faces_few hm hp ho
  have hcl := cnS_le s sh (facesM C).length
  obtain ⟨b, off, ha, hbw, hCA⟩ := h.dr.cross h0
  subst ha
  have HPL := hidS (fun (W : World) (hW : Below w.heap.size w W) => places_any (some ⟨b, off, none⟩) cap C loops gF cF gT cT gM gS s sh W (by omega) (h.on hW))
  have HWO := hidS (fun (c : Nat) (hc : c < C.length) (W : World) (hW : Below w.heap.size w W) => worth_any (some ⟨b, off, none⟩) cap C loops gF cF gT cT gM gS s c sh W hm hc (h.on hW))
  have HCA := hidS (fun (W : World) (hW : Below w.heap.size w W) => hCA.on hW hbw)
  have HWS := hidS (fun c hc => wo_shade hm hs c sh hc hsh)
  have HLT := hidS (fun (f : Nat) (hf : f < (facesM C).length) (e : s f = sh) => cnS_lt s sh hf e)
  unfold chV at HPL HWO ⊢
  obtain ⟨F, hF⟩ : ∃ F, (facesM C).length = F := ⟨_, rfl⟩
  rw [hF] at HPL HWO HWS HLT hFe hcl ⊢
  obtain ⟨m, hmm⟩ : ∃ m, cnS s sh F = m := ⟨_, rfl⟩
  rw [hmm] at HPL HLT hcl ⊢
  have hF9 : F ≤ 18 := by omega
  have HSQ := hidS (fun W => squareS_any m W (by omega))
  obtain ⟨V, hV⟩ : ∃ V, w.alloc (.cells #[.slice (some ⟨b, off, none⟩) C.length cap, .int .i64 loops, .slice (some ⟨gF, 0, none⟩) (2 * C.length + 1) cF, .slice (some ⟨gT, 0, none⟩) (2 * C.length + 1) cT, .map (some gM), .slice (some ⟨gS, 0, none⟩) F F] 43) = V := ⟨_, rfl⟩
  have hB : Below w.heap.size w V := by rw [← hV]; exact (Below.refl _ _).alloc (Nat.le_refl _) _
  have k0 : V.heap[w.heap.size]? = some (.cells #[.slice (some ⟨b, off, none⟩) C.length cap, .int .i64 loops, .slice (some ⟨gF, 0, none⟩) (2 * C.length + 1) cF, .slice (some ⟨gT, 0, none⟩) (2 * C.length + 1) cT, .map (some gM), .slice (some ⟨gS, 0, none⟩) F F] 43 (0, 0)) := by rw [← hV]; exact alloc_at rfl
  have lV : w.heap.size < V.heap.size := by rw [← hV]; simp
  have HSV : Hid (∀ W, Below V.heap.size V W → W.cell? ⟨w.heap.size, 0, none⟩ = some (.slice (some ⟨b, off, none⟩) C.length cap) ∧ W.cell? ⟨w.heap.size, 1, none⟩ = some (.int .i64 loops) ∧ W.cell? ⟨w.heap.size, 2, none⟩ = some (.slice (some ⟨gF, 0, none⟩) (2 * C.length + 1) cF) ∧ W.cell? ⟨w.heap.size, 3, none⟩ = some (.slice (some ⟨gT, 0, none⟩) (2 * C.length + 1) cT) ∧ W.cell? ⟨w.heap.size, 4, none⟩ = some (.map (some gM)) ∧ W.cell? ⟨w.heap.size, 5, none⟩ = some (.slice (some ⟨gS, 0, none⟩) F F) ∧ w.heap.size < W.heap.size) := fun W hW => by
    have k := (hW.block _ lV).trans k0
    exact ⟨block_cell k rfl, block_cell k rfl, block_cell k rfl, block_cell k rfl, block_cell k rfl, block_cell k rfl, (Array.getElem?_eq_some_iff.1 k).1⟩
  have c0 := HSV.out V (Below.refl _ _)
  have HV := hidS hV
  have HB := hidS hB
  have HM := hidS hmm
  have HF := hidS hF
  clear h hCA hV hB k0 hm hp ho hs hF hmm hFe
  go_enter Try.func12, Try.ntmps12
  go_upto_region 1 with (fail)
  rw [HV.out]
  go_upto_region 2 with (go_at_call 28; refine (HPL.out _ HB.out).mono ?_; rintro e9 w2 ⟨gP, rfl, ho2, hb2⟩; have HB2 := hidS hb2; have HO2 := hidS ho2; clear ho2 hb2 c0)
  go_upto_region 3 with (go_at_call 29; refine (HSQ.out _).mono ?_; rintro e9 w3 ⟨gt, gs, rfl, ht3, hb3⟩; have HB3 := hidS hb3; have HT3 := hidS ht3; clear ht3 hb3)
  have hgP := HO2.out.lt gP rfl
  have s2 := HB2.out.size
  have H3 := hidS (HB2.out.trans (HB3.out.mono HB2.out.size))
  have c0 := HSV.out w3 H3.out
  go_upto_region 4 with (fail)
  clear c0
  go_wp2
  go_loopw [5, 28] (fun v5 v28 wr => ∃ c : Nat, c ≤ C.length ∧ v28 = .int .i64 (c : Nat) ∧ v5 = .int .i64 (goF C s sh c) ∧ Hid (TabAt w2.heap.size gt m gs m (goT C s sh c) wr) ∧ Hid (Below w2.heap.size w2 wr)) (fun _ v28 _ => C.length - (intOf v28).toNat)
  case atStart => exact ⟨0, Nat.zero_le _, rfl, rfl, HT3.out, HB3.out⟩
  case round =>
    clear HT3 HB3 H3
    rename World => W1
    obtain ⟨c, hc, rfl, rfl, htab, hbW⟩ := hrel
    by_cases hcl2 : c < C.length
    · have hci : (c : Int) < (C.length : Int) := by omega
      have hci0 : (0 : Int) ≤ (c : Int) := by omega
      have hadd : IntKind.i64.wrap ((c : Int) + 1) = (c : Int) + 1 := IntWalk.i64_in _ (by omega)
      have hBV := HB2.out.trans (hbW.out.mono HB2.out.size)
      have hBw := HB.out.trans (hBV.mono (by omega))
      have c0 := HSV.out W1 hBV
      have hx := HCA.out W1 hBw c hcl2
      obtain ⟨x, hx0⟩ : ∃ x, C.getD c Cr.none = x := ⟨_, rfl⟩
      rw [hx0] at hx
      obtain ⟨d0, d1, d2, d3, d4⟩ := hx
      have lb : b < W1.heap.size := Nat.lt_of_lt_of_le hbw (by have := hBw.size; omega)
      have HBw := hidS hBw
      obtain ⟨X, hX⟩ : ∃ X, W1.alloc (.cells #[.int .i64 x.a, .int .i64 x.b, .int .i64 x.c, .int .i64 x.d, .bool x.plus] 58) = X := ⟨_, rfl⟩
      have hb1 : Below W1.heap.size W1 X := by rw [← hX]; exact (Below.refl _ _).alloc (Nat.le_refl _) _
      have kx : X.heap[W1.heap.size]? = some (.cells #[.int .i64 x.a, .int .i64 x.b, .int .i64 x.c, .int .i64 x.d, .bool x.plus] 58 (0, 0)) := by rw [← hX]; exact alloc_at rfl
      have HX := hidS hX
      have HB1 := hidS hb1
      have HKX := hidS kx
      have lkx := (Array.getElem?_eq_some_iff.1 kx).1
      have HX0 := hidS hx0
      have sW := hbW.out.size
      obtain ⟨wo, hwo⟩ : ∃ wo, woM C s c sh = wo := ⟨_, rfl⟩
      have hw1 := woM_one C s c sh
      have hws := HWS.out c hcl2
      have HWC := hidS (HWO.out c hcl2)
      rw [hwo] at hw1 hws HWC
      obtain ⟨wv, f1, f2⟩ := wo
      dsimp only at hw1 hws HWC
      have HWOE := hidS hwo
      have hp1 := HLT.out f1 hws.2.2.1 hws.1
      have hp2 := HLT.out f2 hws.2.2.2 hws.2.1
      have pl1 : plF s sh f1 = ((cnS s sh f1 : Nat) : Int) := by unfold plF; rw [if_pos hws.1]
      have pl2 : plF s sh f2 = ((cnS s sh f2 : Nat) : Int) := by unfold plF; rw [if_pos hws.2.1]
      clear hX hb1 kx hx0 hBw hBV hwo
      go_upto_region 6 with (fail)
      rw [HX.out]
      clear d0 d1 d2 d3 d4 c0
      have hBX := hidS (hbW.out.trans (HB1.out.mono sW))
      have hVX := hidS (HB2.out.trans (hBX.out.mono HB2.out.size))
      have c0 := HSV.out X hVX.out
      go_upto_region 7 with (go_at_call 30; refine (HWC.out _ (HB.out.trans (hVX.out.mono (by omega)))).mono ?_; rintro e9 w5 ⟨rfl, hb5⟩; have HB5 := hidS hb5; clear hb5 c0)
      obtain ⟨i, hi⟩ : ∃ i, cnS s sh f1 = i := ⟨_, rfl⟩
      obtain ⟨j, hj⟩ : ∃ j, cnS s sh f2 = j := ⟨_, rfl⟩
      rw [hi] at hp1 pl1
      rw [hj] at hp2 pl2
      have HI := hidS hi
      have HJ := hidS hj
      have h25 := hBX.out.trans (HB5.out.mono hBX.out.size)
      have H25 := hidS h25
      have s5 := h25.size
      have hf1 : f1 < F := hws.2.2.1
      have hf2 : f2 < F := hws.2.2.2
      have hf1i : (f1 : Int) < (F : Int) := by omega
      have hf2i : (f2 : Int) < (F : Int) := by omega
      have HSP : Hid (∀ W, Below w5.heap.size w5 W → (fun Y : World => Y.cell? ⟨gP, f1, none⟩ = some (.int .i64 (i : Nat)) ∧ Y.cell? ⟨gP, f2, none⟩ = some (.int .i64 (j : Nat))) W) := fun W hW => by
        have g1 := (HO2.out.cellAt f1 (by omega)).trans (intsV_get _ f1 (by rw [mapI_len]; exact hf1))
        have g2 := (HO2.out.cellAt f2 (by omega)).trans (intsV_get _ f2 (by rw [mapI_len]; exact hf2))
        rw [mapI_at _ _ _ hf1, pl1] at g1
        rw [mapI_at _ _ _ hf2, pl2] at g2
        have hb := H25.out.trans (hW.mono s5)
        exact ⟨bcell hb hgP.2 g1, bcell hb hgP.2 g2⟩
      have HDV : Hid (Below w5.heap.size w5 w5.drew) := (Below.refl _ _).drew
      have lgP : gP < w5.heap.size := by omega
      have lgPd : gP < w5.drew.heap.size := lgP
      have HPL1 := hidS pl1
      have HPL2 := hidS pl2
      clear hi hj pl1 pl2 h25
      refine rhd HSP HDV.out (fun hHeld => ?_)
      refine tq 41 0 (h := ?_)
      simp only [List.setIfInBounds_toArray, List.set_cons_succ, List.set_cons_zero]
      refine tq 42 1 (h := ?_)
      simp only [List.setIfInBounds_toArray, List.set_cons_succ, List.set_cons_zero]
      refine tq 43 2 (h := ?_)
      simp only [List.setIfInBounds_toArray, List.set_cons_succ, List.set_cons_zero]
      refine tq 44 3 (h := ?_)
      simp only [List.setIfInBounds_toArray, List.set_cons_succ, List.set_cons_zero]
      refine tq 45 4 (h := ?_)
      simp only [List.setIfInBounds_toArray, List.set_cons_succ, List.set_cons_zero]
      refine tq 46 5 (h := ?_)
      simp only [List.setIfInBounds_toArray, List.set_cons_succ, List.set_cons_zero]
      refine tq 47 6 (h := ?_)
      simp only [List.setIfInBounds_toArray, List.set_cons_succ, List.set_cons_zero]
      refine tq 48 7 (h := ?_)
      simp only [List.setIfInBounds_toArray, List.set_cons_succ, List.set_cons_zero]
      refine tq 13 8 (h := ?_)
      simp only [List.setIfInBounds_toArray, List.set_cons_succ, List.set_cons_zero]
      refine tq 14 9 (h := ?_)
      simp only [List.setIfInBounds_toArray, List.set_cons_succ, List.set_cons_zero]
      refine wpAnyH_done (by kernel_rfl) ?_ _
      clear hHeld
      obtain ⟨Y0, hY0⟩ : ∃ Y0, w5.drew = Y0 := ⟨_, rfl⟩
      rw [hY0] at HDV ⊢
      have HT0 := hidS (htab.out.any (grown_below (HB1.out.trans ((HB5.out.trans (HDV.out.mono HB5.out.size)).mono HB1.out.size)) none))
      have HBY := hidS (H25.out.trans (HDV.out.mono s5))
      have kx := ((HB5.out.trans (HDV.out.mono HB5.out.size)).block _ lkx).trans HKX.out
      have HKY := hidS kx
      have HTL := hidS (goT_le C s sh c)
      have HFL := hidS (goF_le C s sh c)
      obtain ⟨T, hT⟩ : ∃ T, goT C s sh c = T := ⟨_, rfl⟩
      obtain ⟨fx, hfx⟩ : ∃ fx, goF C s sh c = fx := ⟨_, rfl⟩
      have HNT : Hid (goT C s sh (c + 1) = goS T i j wv) := (by
        show goS _ _ _ _ = _
        rw [HWOE.out, HI.out, HJ.out, hT])
      have HNF : Hid (goF C s sh (c + 1) = fx + (if x.plus = decide (wv < 0) then wv else 0)) := (by
        show goF C s sh c + _ = _
        rw [HWOE.out, HX0.out, hfx])
      rw [hT] at HTL HT0
      rw [hfx] at HFL ⊢
      have hY0s : W1.heap.size < Y0.heap.size := (Array.getElem?_eq_some_iff.1 kx).1
      have htabR := hidS htab.out.rows
      clear hT hfx hY0 kx htab
      obtain ⟨pl, hpl⟩ : ∃ pl, x.plus = pl := ⟨_, rfl⟩
      obtain ⟨bv, hbv⟩ : ∃ bv, decide (wv < 0) = bv := ⟨_, rfl⟩
      rw [hpl] at HKY
      rw [hpl, hbv] at HNF
      have hfw : IntKind.i64.wrap (fx + wv) = fx + wv := IntWalk.i64_in _ (by have := HFL.out; omega)
      clear hpl
      by_cases hij : i = j
      · have hne : ((i : Int) != (j : Int)) = false := by rw [hij]; simp
        have HTN : Hid (TabAt w2.heap.size gt m gs m (goT C s sh (c + 1)) Y0) := (by rw [HNT.out]; unfold goS; rw [if_pos hij]; exact HT0.out)
        have HBN := hidS HBY.out
        clear hij
        have e4 : Y0.cell? ⟨W1.heap.size, 4, none⟩ = some (.bool pl) := block_cell HKY.out rfl
        have le : W1.heap.size < Y0.heap.size := (Array.getElem?_eq_some_iff.1 HKY.out).1
        cases pl <;> cases bv
        all_goals
          go_wp2
          go_roundw
        all_goals first
          | (simp only [intOf]; omega)
          | exact ⟨c + 1, by omega, by go_num, by rw [HNF.out]; simp, HTN, HBN⟩
      · have hne : ((i : Int) != (j : Int)) = true := by
          have : ((i : Int) == (j : Int)) = false := beq_eq_false_iff_ne.2 (by omega)
          simp only [bne, this]
          rfl
        have him : i < m := hp1
        have hjm : j < m := hp2
        have hii2 : (i : Int) < (m : Int) := by omega
        have hjj2 : (j : Int) < (m : Int) := by omega
        obtain ⟨bb1, bb2, bb3, -⟩ := goD_le (i := i) (j := j) HTL.out hw1
        have hb1 := HTL.out
        have hb2 := bb1
        have hb3 := bb2
        have hb4 := bb3
        have H1 := HT0
        have HGS := hidS (show goT C s sh (c + 1) = goD T i j wv by rw [HNT.out]; unfold goS; rw [if_neg hij])
        obtain ⟨TA, hTA⟩ : ∃ TA, goA T i j wv = TA := ⟨_, rfl⟩
        obtain ⟨TB, hTB⟩ : ∃ TB, goB T i j wv = TB := ⟨_, rfl⟩
        obtain ⟨TC, hTC⟩ : ∃ TC, goC T i j wv = TC := ⟨_, rfl⟩
        obtain ⟨TD, hTD⟩ : ∃ TD, goD T i j wv = TD := ⟨_, rfl⟩
        have eTA : TA = up1 T i j (T i j - wv) := by rw [← hTA]; rfl
        have eTB : TB = up1 TA j i (TA j i - wv) := by rw [← hTB, ← hTA]; rfl
        have eTC : TC = up1 TB i i (TB i i + wv) := by rw [← hTC, ← hTB]; rfl
        have eTD : TD = up1 TC j j (TC j j + wv) := by rw [← hTD, ← hTC]; rfl
        rw [hTA] at hb2
        rw [hTB] at hb3
        rw [hTC] at hb4
        rw [hTD] at HGS
        clear bb1 bb2 bb3 hTA hTB hTC hTD hij
        have HETA := hidS eTA
        have HETB := hidS eTB
        have HETC := hidS eTC
        have HETD := hidS eTD
        clear eTA eTB eTC eTD
        have t1a : Y0.cell? ⟨gt, i, none⟩ = some (.slice (some ⟨gs i, 0, none⟩) m m) := H1.out.cellO i him him
        have t1b : Y0.cell? ⟨gs i, j, none⟩ = some (.int .i64 (T i j)) := H1.out.cellR i j him hjm
        have t1c : Y0.frozen? ⟨gs i, j, none⟩ = false := (H1.out.rows i him).frozenAt j
        have t1d : gs i < Y0.heap.size := ((H1.out.rows i him).lt (gs i) rfl).2
        have t1e : gt < Y0.heap.size := (H1.out.outer.lt gt rfl).2
        have hw1 : IntKind.i64.wrap (T i j - wv) = T i j - wv := IntWalk.i64_in _ (by have := hb1 i j; omega)
        have hset1 := H1.out.set (T' := TA) i j (T i j - wv) him (fun a b _ _ => by rw [HETA.out]; rfl)
        obtain ⟨X1, hX1⟩ : ∃ X1, Y0.setCell ⟨gs i, j, none⟩ (.int .i64 (T i j - wv)) = X1 := ⟨_, rfl⟩
        rw [hX1] at hset1
        have HX1 := hidS hX1
        have H2 := hidS hset1.1
        have HG1 := hidS hset1.2
        have gl1 := ((H1.out.rows i him).lt (gs i) rfl).1
        clear hset1 hX1
        go_upto_region 10 with (fail)
        rw [HX1.out]
        clear t1a t1b t1c t1d t1e hw1
        have t2a : X1.cell? ⟨gt, j, none⟩ = some (.slice (some ⟨gs j, 0, none⟩) m m) := H2.out.cellO j hjm hjm
        have t2b : X1.cell? ⟨gs j, i, none⟩ = some (.int .i64 (TA j i)) := H2.out.cellR j i hjm him
        have t2c : X1.frozen? ⟨gs j, i, none⟩ = false := (H2.out.rows j hjm).frozenAt i
        have t2d : gs j < X1.heap.size := ((H2.out.rows j hjm).lt (gs j) rfl).2
        have t2e : gt < X1.heap.size := (H2.out.outer.lt gt rfl).2
        have hw2 : IntKind.i64.wrap (TA j i - wv) = TA j i - wv := IntWalk.i64_in _ (by have := hb2 j i; omega)
        have hset2 := H2.out.set (T' := TB) j i (TA j i - wv) hjm (fun a b _ _ => by rw [HETB.out]; rfl)
        obtain ⟨X2, hX2⟩ : ∃ X2, X1.setCell ⟨gs j, i, none⟩ (.int .i64 (TA j i - wv)) = X2 := ⟨_, rfl⟩
        rw [hX2] at hset2
        have HX2 := hidS hX2
        have H3 := hidS hset2.1
        have HG2 := hidS hset2.2
        have gl2 := ((H2.out.rows j hjm).lt (gs j) rfl).1
        clear hset2 hX2
        go_upto_region 11 with (fail)
        rw [HX2.out]
        clear t2a t2b t2c t2d t2e hw2
        have t3a : X2.cell? ⟨gt, i, none⟩ = some (.slice (some ⟨gs i, 0, none⟩) m m) := H3.out.cellO i him him
        have t3b : X2.cell? ⟨gs i, i, none⟩ = some (.int .i64 (TB i i)) := H3.out.cellR i i him him
        have t3c : X2.frozen? ⟨gs i, i, none⟩ = false := (H3.out.rows i him).frozenAt i
        have t3d : gs i < X2.heap.size := ((H3.out.rows i him).lt (gs i) rfl).2
        have t3e : gt < X2.heap.size := (H3.out.outer.lt gt rfl).2
        have hw3 : IntKind.i64.wrap (TB i i + wv) = TB i i + wv := IntWalk.i64_in _ (by have := hb3 i i; omega)
        have hset3 := H3.out.set (T' := TC) i i (TB i i + wv) him (fun a b _ _ => by rw [HETC.out]; rfl)
        obtain ⟨X3, hX3⟩ : ∃ X3, X2.setCell ⟨gs i, i, none⟩ (.int .i64 (TB i i + wv)) = X3 := ⟨_, rfl⟩
        rw [hX3] at hset3
        have HX3 := hidS hX3
        have H4 := hidS hset3.1
        have HG3 := hidS hset3.2
        have gl3 := ((H3.out.rows i him).lt (gs i) rfl).1
        clear hset3 hX3
        go_upto_region 12 with (fail)
        rw [HX3.out]
        clear t3a t3b t3c t3d t3e hw3
        have t4a : X3.cell? ⟨gt, j, none⟩ = some (.slice (some ⟨gs j, 0, none⟩) m m) := H4.out.cellO j hjm hjm
        have t4b : X3.cell? ⟨gs j, j, none⟩ = some (.int .i64 (TC j j)) := H4.out.cellR j j hjm hjm
        have t4c : X3.frozen? ⟨gs j, j, none⟩ = false := (H4.out.rows j hjm).frozenAt j
        have t4d : gs j < X3.heap.size := ((H4.out.rows j hjm).lt (gs j) rfl).2
        have t4e : gt < X3.heap.size := (H4.out.outer.lt gt rfl).2
        have hw4 : IntKind.i64.wrap (TC j j + wv) = TC j j + wv := IntWalk.i64_in _ (by have := hb4 j j; omega)
        have hset4 := H4.out.set (T' := TD) j j (TC j j + wv) hjm (fun a b _ _ => by rw [HETD.out]; rfl)
        obtain ⟨X4, hX4⟩ : ∃ X4, X3.setCell ⟨gs j, j, none⟩ (.int .i64 (TC j j + wv)) = X4 := ⟨_, rfl⟩
        rw [hX4] at hset4
        have HX4 := hidS hX4
        have H5 := hidS hset4.1
        have HG4 := hidS hset4.2
        have gl4 := ((H4.out.rows j hjm).lt (gs j) rfl).1
        clear hset4 hX4
        go_upto_region 13 with (fail)
        rw [HX4.out]
        clear t4a t4b t4c t4d t4e hw4
        have far : ∀ q o, q < w2.heap.size ∨ q = W1.heap.size → Y0.heap[q]? = some o → (∀ r, r < m → gs r ≠ q) → X4.heap[q]? = some o := fun q o _ hq hr => by
          have l0 := (Array.getElem?_eq_some_iff.1 hq).1
          have a1 := (HG1.out.block q l0 (fun e => hr i him (Option.some.inj e).symm)).trans hq
          have a2 := (HG2.out.block q (Array.getElem?_eq_some_iff.1 a1).1 (fun e => hr j hjm (Option.some.inj e).symm)).trans a1
          have a3 := (HG3.out.block q (Array.getElem?_eq_some_iff.1 a2).1 (fun e => hr i him (Option.some.inj e).symm)).trans a2
          exact (HG4.out.block q (Array.getElem?_eq_some_iff.1 a3).1 (fun e => hr j hjm (Option.some.inj e).symm)).trans a3
        have HK4 := hidS (far W1.heap.size _ (Or.inr rfl) HKY.out (fun r hr e => by have := ((htabR.out r hr).lt (gs r) rfl).2; omega))
        have HTN : Hid (TabAt w2.heap.size gt m gs m (goT C s sh (c + 1)) X4) := (by rw [HGS.out]; exact H5.out)
        have HBN : Hid (Below w2.heap.size w2 X4) := (((HBY.out.grown HG1.out HBY.out.size (fun q hq => by have := Option.some.inj hq; omega)).grown HG2.out (by have := HBY.out.size; have := HG1.out.size; omega) (fun q hq => by have := Option.some.inj hq; omega)).grown HG3.out (by have := HBY.out.size; have := HG1.out.size; have := HG2.out.size; omega) (fun q hq => by have := Option.some.inj hq; omega)).grown HG4.out (by have := HBY.out.size; have := HG1.out.size; have := HG2.out.size; have := HG3.out.size; omega) (fun q hq => by have := Option.some.inj hq; omega)
        clear far
        have e4 : X4.cell? ⟨W1.heap.size, 4, none⟩ = some (.bool pl) := block_cell HK4.out rfl
        have le : W1.heap.size < X4.heap.size := (Array.getElem?_eq_some_iff.1 HK4.out).1
        cases pl <;> cases bv
        all_goals
          go_wp2
          go_roundw
        all_goals first
          | (simp only [intOf]; omega)
          | exact ⟨c + 1, by omega, by go_num, by rw [HNF.out]; simp, HTN, HBN⟩
    · obtain rfl : c = C.length := by omega
      have HTB := hidS htab.out
      have HBB := hidS hbW.out
      clear htab hbW
      go_wp2
      refine bodyPost_ret (v := .tuple #[.slice (some ⟨gt, 0, none⟩) m m, .int .i64 (goF C s sh C.length)]) (by simp [results, Try.results12, go_sem]) rfl ⟨gt, gs, rfl, ⟨own_low HTB.out.outer (by omega), fun q hq => own_low (HTB.out.rows q hq) (by omega), HTB.out.inj⟩, HB.out.trans ((HB2.out.trans (HBB.out.mono HB2.out.size)).mono (by omega))⟩
end Go.Proofs.Ytlcogbcpmneknaa
