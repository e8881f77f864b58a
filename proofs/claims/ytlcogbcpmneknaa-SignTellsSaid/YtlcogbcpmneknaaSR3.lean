/- The walk of ref.GoeritzOf. -/
import Derived.Test.YtlcogbcpmneknaaSR2
import Derived.Test.YtlcogbcpmneknaaW6P
import Derived.Deep.CutRange
namespace Go.Proofs.Ytlcogbcpmneknaa
open Go.RowKit Go.Maps

set_option maxHeartbeats 16000000 in
set_option maxRecDepth 100000 in
theorem goeritzOf_any (a : Option Addr) (cap : Nat) (C : List Cr) (loops : Int) (s : Nat → Nat) (sh : Nat) (w : World) (hm : mayD C loops = true) (hp : planarB C = true) (ho : oneB C loops = true) (hs : Shd C s) (hsh : sh < 2) (h : Crs w w.heap.size (.slice a C.length cap) C) :
    Calls Try.prog 8 #[.agg #[.slice a C.length cap, .int .i64 loops], .int .i64 (sh : Nat)] w fun e w' => ∃ gt ct gs, e = .returned (.tuple #[.slice (some ⟨gt, 0, none⟩) (cnS s sh (facesM C).length) ct, .int .i64 (goF C s sh C.length)]) ∧ TabO w.heap.size gt ct (cnS s sh (facesM C).length) (cnS s sh (facesM C).length) gs (goT C s sh C.length) w' ∧ Below w.heap.size w w' := by
  obtain ⟨s1, -, -, -⟩ := sizeB_iff (may_size hm)
  obtain ⟨h0, -, -⟩ := one_con hm ho
  have hFe := faces_few hm hp ho
  have hcl := cnS_le s sh (facesM C).length
  have hm1 : 0 < cnS s sh (facesM C).length := by
    have hw := wo_shade hm hs 0 sh h0 hsh
    have := cnS_lt s sh hw.2.2.1 hw.1
    omega
  obtain ⟨b, off, ha, hbw, hCA⟩ := crs_some h h0
  subst ha
  have HFO := hidS (fun (W : World) (hW : Below w.heap.size w W) => facesOf_any (some ⟨b, off, none⟩) cap C loops W hm (h.up hW))
  have HSH := hidS (fun (W : World) (hW : Below w.heap.size w W) => shadesOf_any (some ⟨b, off, none⟩) cap C loops s W hm hp ho hs (h.up hW))
  have HDR := hidS (fun (W : World) (B : Nat) (v : Value) (hD : DartsOwn W B v (facesM C)) => darts_rg hm (by omega) hD)
  have HFA := hidS (fun (g3 c3 c t : Nat) (hc : c < C.length) (ht : t < 4) (W : World) (hW : Below w.heap.size w W) (hR : RgAt W g3 C) => faceAt_any b off cap C loops g3 c3 c t W hm (by omega) hc ht (Nat.lt_of_lt_of_le hbw hW.size) (hCA.on hW hbw) hR)
  have HWS := hidS (fun c hc => wo_shade hm hs c sh hc hsh)
  have HTU := hidS (fun c hc => cor_turn hm hs c 1 hc (by decide))
  have HLT := hidS (fun (f : Nat) (hf : f < (facesM C).length) (e : s f = sh) => cnS_lt s sh hf e)
  have HCL := hidS (fun c t hc ht => cor_lt hm c t hc ht)
  have HCA := hidS (fun (W : World) (hW : Below w.heap.size w W) => hCA.on hW hbw)
  have HS2 := hidS hs.two
  obtain ⟨F, hF⟩ : ∃ F, (facesM C).length = F := ⟨_, rfl⟩
  have HF := hidS hF
  rw [hF] at HFA HSH HWS HLT HCL hFe HDR hcl hm1 ⊢
  have hF9 : F ≤ 18 := by omega
  obtain ⟨m, hmm⟩ : ∃ m, cnS s sh F = m := ⟨_, rfl⟩
  rw [hmm] at HLT hcl hm1 ⊢
  have HMM := hidS hmm
  obtain ⟨i2, hk, hx0, hx1, hx2⟩ := info_parts infoIntS
  obtain ⟨i1, hj, hy0, hy1, hy2⟩ := info_parts infoInts
  obtain ⟨V, hV⟩ : ∃ V, w.alloc (.cells #[.slice (some ⟨b, off, none⟩) C.length cap, .int .i64 loops] 24) = V := ⟨_, rfl⟩
  have hB : Below w.heap.size w V := by rw [← hV]; exact (Below.refl _ _).alloc (Nat.le_refl _) _
  have k0 : V.heap[w.heap.size]? = some (.cells #[.slice (some ⟨b, off, none⟩) C.length cap, .int .i64 loops] 24 (0, 0)) := by rw [← hV]; exact alloc_at rfl
  have lV : w.heap.size < V.heap.size := by rw [← hV]; simp
  have HV := hidS hV
  have HB := hidS hB
  have HK0 := hidS k0
  have HSV : Hid (∀ W, Below V.heap.size V W → (fun X : World => X.cell? ⟨w.heap.size, 0, none⟩ = some (.slice (some ⟨b, off, none⟩) C.length cap) ∧ X.cell? ⟨w.heap.size, 1, none⟩ = some (.int .i64 loops)) W) := fun W hW => by
    have e0 := (hW.block _ lV).trans HK0.out
    exact ⟨block_cell e0 rfl, block_cell e0 rfl⟩
  have HDV : Hid (Below V.heap.size V V.drew) := (Below.refl _ _).drew
  have HWV : Hid (∀ W, Below V.heap.size V W → Below w.heap.size w W) := fun W hW => HB.out.trans (hW.mono (by omega))
  clear h hCA hm hp ho hs hV hB k0 hF hFe hmm
  go_enter Try.func8, Try.ntmps8
  go_upto_region 1 with (fail)
  rw [HV.out]
  refine rhd HSV HDV.out (fun hHeld => ?_)
  refine tk 0 (h := ?_)
  refine tk 2 (h := ?_)
  try simp only [Act.put]
  clear hHeld
  refine rd1 1 (fun K hK => ?_)
  go_simp
  go_wp2_with (go_at_call 20; refine (HFO.out _ (HWV.out _ HDV.out)).mono ?_; rintro e9 w1 ⟨v3, rfl, hd3, hb3⟩)
  obtain ⟨g3, c3, e3, hr3⟩ := HDR.out _ _ _ hd3
  subst e3
  have HR1 := hidS hr3
  have HB1 := hidS (HDV.out.trans (hb3.mono HDV.out.size))
  clear hd3 hr3 hb3
  refine hK.out _ _ (HSV.out _ HB1.out) (fun hHeld => ?_)
  clear hK K hHeld
  try simp only [Act.put]
  refine rd1 3 (fun K hK => ?_)
  go_simp
  go_wp2_with (go_at_call 21; refine (HSH.out _ (HWV.out _ HB1.out)).mono ?_; rintro e9 w2 ⟨gO, rfl, ho2, hb2⟩)
  have HO2 := hidS ho2
  have HR2 := hidS (HR1.out.on hb2)
  have HB2 := hidS (HB1.out.trans (hb2.mono HB1.out.size))
  clear ho2 hb2
  refine hK.out _ _ (HSV.out _ HB2.out) (fun hHeld => ?_)
  clear hK K
  try simp only [Act.put]
  refine tq 6 4 (h := ?_)
  simp only [List.setIfInBounds_toArray, List.set_cons_succ, List.set_cons_zero]
  refine tq 7 5 (h := ?_)
  simp only [List.setIfInBounds_toArray, List.set_cons_succ, List.set_cons_zero]
  refine wpAnyH_done (by kernel_rfl) ?_ _
  clear hHeld
  have hgO := (HO2.out.lt gO rfl).2
  have HSC : Hid (∀ W, Below w2.heap.size w2 W → ∀ f, f < F → W.cell? ⟨gO, f, none⟩ = some (.int .i64 (s f : Nat))) := fun W hW f hf => by
    have g1 := (HO2.out.cellAt f (by omega)).trans (intsV_get _ f (by rw [shL_len]; exact hf))
    rw [shL_get s F f hf] at g1
    exact bcell hW hgO g1
  go_upto_region 3 with (first
    | (at_make; refine wpList_make_full _ rfl _ _ 41 rfl w2.heap.size 3 i2 (.int .i64 0) 1 Try.underlying41 hk hx0 hx1 .i64 .i64 _ _ F rfl rfl rfl rfl (by rw [hx2]; omega) (by unfold maxLen; omega) (by simp) ?_; intro w4 hrow4 hg4
       have HR4 := hidS hrow4
       have HG4 := hidS hg4
       clear hrow4 hg4))
  obtain ⟨gP, hgP⟩ : ∃ gP, w2.heap.size = gP := ⟨_, rfl⟩
  have hgP2 : w2.heap.size ≤ gP := by omega
  have HS4 : Hid (∃ M : List Int, M.length = F ∧ (∀ f, f < 0 → M.getD f 0 = plF s sh f) ∧ (∀ f, M.getD f 0 = 0 ∨ f < 0) ∧ w4.ownsRow w2.heap.size 3 1 (.slice (some ⟨gP, 0, none⟩) F F) F (intsV M) ∧ Below w2.heap.size w2 w4) := (by
    have h4 := HR4.out
    rw [made_intsS] at h4
    rw [← hgP]
    exact ⟨_, by simp, fun f hf => absurd hf (Nat.not_lt_zero _), fun f => Or.inl (by
      rw [List.getD_eq_getElem?_getD, List.getElem?_replicate]
      split <;> rfl), h4, (Below.refl _ _).grown HG4.out (Nat.le_refl _) (fun q hq => by cases hq)⟩)
  rw [hgP]
  clear HR4 HG4 hgP
  go_wp2
  go_loopw [9, 10] (fun v9 v10 wr => ∃ i : Nat, i ≤ F ∧ v10 = .int .i64 (i : Nat) ∧ v9 = .int .i64 (cnS s sh i : Nat) ∧ Hid (∃ M : List Int, M.length = F ∧ (∀ f, f < i → M.getD f 0 = plF s sh f) ∧ (∀ f, M.getD f 0 = 0 ∨ f < i) ∧ wr.ownsRow w2.heap.size 3 1 (.slice (some ⟨gP, 0, none⟩) F F) F (intsV M) ∧ Below w2.heap.size w2 wr)) (fun _ v10 _ => F - (intOf v10).toNat)
  case atStart => exact ⟨0, Nat.zero_le _, rfl, rfl, HS4⟩
  case round =>
    clear HS4
    rename World => W1
    obtain ⟨i, hi, rfl, rfl, hin⟩ := hrel
    obtain ⟨M, hMl, hMi, hM0, hMo, hMb⟩ := hin.out
    have HMl := hidS hMl
    have HMi := hidS hMi
    have HM0 := hidS hM0
    have HMb := hidS hMb
    have HMo := hidS hMo
    clear hin
    by_cases hil : i < F
    · have hii : (i : Int) < (F : Int) := by omega
      have hii0 : (0 : Int) ≤ (i : Int) := by omega
      have hadd : IntKind.i64.wrap ((i : Int) + 1) = (i : Int) + 1 := IntWalk.i64_in _ (by omega)
      obtain ⟨n, hn⟩ : ∃ n, cnS s sh i = n := ⟨_, rfl⟩
      have hnx := cnS_next s sh i
      have hnle := cnS_le s sh i
      rw [hn] at hnx hnle ⊢
      have hadd2 : IntKind.i64.wrap ((n : Int) + 1) = (n : Int) + 1 := IntWalk.i64_in _ (by omega)
      have c8 := HSC.out W1 hMb i hil
      have ls : gO < W1.heap.size := Nat.lt_of_lt_of_le hgO hMb.size
      obtain ⟨z, hz⟩ : ∃ z, s i = z := ⟨_, rfl⟩
      rw [hz] at c8
      have HNX := hidS hnx
      have HZ := hidS hz
      have HN := hidS hn
      by_cases hzs : z = sh
      · have hze : ((z : Int) == (sh : Int)) = true := by rw [hzs]; simp
        have lp : gP < W1.heap.size := (hMo.lt gP rfl).2
        have y0 : W1.cell? ⟨gP, i, none⟩ = some (.int .i64 (M.getD i 0)) := (hMo.cellAt i (by omega)).trans (intsV_get M i (by omega))
        have z0 : W1.frozen? ⟨gP, i, none⟩ = false := hMo.frozenAt i
        have hst := hMo.stored i (.int .i64 (n : Nat))
        rw [intsV_set] at hst
        have HNW : Hid (∃ M' : List Int, M'.length = F ∧ (∀ f, f < i + 1 → M'.getD f 0 = plF s sh f) ∧ (∀ f, M'.getD f 0 = 0 ∨ f < i + 1) ∧ (W1.setCell ⟨gP, i, none⟩ (.int .i64 (n : Nat))).ownsRow w2.heap.size 3 1 (.slice (some ⟨gP, 0, none⟩) F F) F (intsV M') ∧ Below w2.heap.size w2 (W1.setCell ⟨gP, i, none⟩ (.int .i64 (n : Nat)))) := (by
          refine ⟨M.set i (n : Nat), by rw [List.length_set]; exact HMl.out, fun f hf => ?_, fun f => ?_, hst.1, HMb.out.grown hst.2 HMb.out.size (fun q hq => by have := Option.some.inj hq; omega)⟩
          · rw [getS_put]
            by_cases e : i = f ∧ i < M.length
            · rw [if_pos e, ← e.1]
              unfold plF
              rw [HZ.out, if_pos hzs, HN.out]
            · rw [if_neg e]
              refine HMi.out f ?_
              rcases Nat.lt_or_ge f i with q | q
              · exact q
              · exact absurd ⟨by omega, by rw [HMl.out]; omega⟩ e
          · rw [getS_put]
            by_cases e : i = f ∧ i < M.length
            · exact Or.inr (by omega)
            · rw [if_neg e]
              rcases HM0.out f with q | q
              · exact Or.inl q
              · exact Or.inr (by omega))
        have hnn : cnS s sh (i + 1) = n + 1 := by rw [HNX.out, HZ.out, if_pos hzs]
        have HNN := hidS hnn
        clear hMl hMi hM0 hMo hMb hnx hz hn hst hzs hnn
        go_wp2
        go_roundw
        all_goals first
          | (simp only [intOf]; omega)
          | exact ⟨i + 1, by omega, by go_num, by rw [HNN.out]; go_num, HNW⟩
      · have hze : ((z : Int) == (sh : Int)) = false := beq_eq_false_iff_ne.2 (by omega)
        have HNW : Hid (∃ M' : List Int, M'.length = F ∧ (∀ f, f < i + 1 → M'.getD f 0 = plF s sh f) ∧ (∀ f, M'.getD f 0 = 0 ∨ f < i + 1) ∧ W1.ownsRow w2.heap.size 3 1 (.slice (some ⟨gP, 0, none⟩) F F) F (intsV M') ∧ Below w2.heap.size w2 W1) := (by
          refine ⟨M, HMl.out, fun f hf => ?_, fun f => (HM0.out f).imp id (fun q => by omega), HMo.out, HMb.out⟩
          rcases Nat.lt_or_ge f i with q | q
          · exact HMi.out f q
          · have e : f = i := by omega
            subst e
            unfold plF
            rw [HZ.out, if_neg hzs]
            rcases HM0.out f with q | q
            · exact q
            · omega)
        have hnn : cnS s sh (i + 1) = n := by rw [HNX.out, HZ.out, if_neg hzs]; omega
        have HNN := hidS hnn
        clear hMl hMi hM0 hMo hMb hnx hz hn hzs hnn
        go_wp2
        go_roundw
        all_goals first
          | (simp only [intOf]; omega)
          | exact ⟨i + 1, by omega, by go_num, by rw [HNN.out], HNW⟩
    · obtain rfl : i = F := by omega
      have HPC : Hid (∀ W, Below W1.heap.size W1 W → ∀ f, f < i → W.cell? ⟨gP, f, none⟩ = some (.int .i64 (plF s sh f))) := fun W hW f hf => by
        have e := (HMo.out.cellAt f (by omega)).trans (intsV_get M f (by rw [HMl.out]; exact hf))
        rw [HMi.out f hf] at e
        exact bcell hW (HMo.out.lt gP rfl).2 e
      have lgP := (hMo.lt gP rfl).2
      have sW1 := hMb.size
      clear hMl hMi hM0 hMo hMb HMl HMi HM0 HMo
      rw [HMM.out]
      have HT0 : Hid (TabP W1.heap.size 0 m (fun _ => 0) (fun _ _ => 0) (.slice none 0 0) W1 ∧ Below W1.heap.size W1 W1) := ⟨TabP.nil _ _ _ _ _, Below.refl _ _⟩
      go_wp2
      go_loopw [11, 12] (fun v11 v12 wr => ∃ (k : Nat) (gs : Nat → Nat), k ≤ m ∧ v12 = .int .i64 (k : Nat) ∧ Hid (TabP W1.heap.size k m gs (fun _ _ => 0) v11 wr ∧ Below W1.heap.size W1 wr)) (fun _ v12 _ => m - (intOf v12).toNat)
      case atStart => exact ⟨0, fun _ => 0, Nat.zero_le _, rfl, HT0⟩
      case round =>
        clear HT0
        rename World => W3
        obtain ⟨k, gs, hkm, rfl, htb⟩ := hrel
        obtain ⟨av, cv, ev⟩ := own_capS htb.out.1.outer
        subst ev
        have HTB := hidS htb.out.1
        have HBB := hidS htb.out.2
        have sB := htb.out.2.size
        clear htb
        by_cases hkl : k < m
        · have hki : (k : Int) < (m : Int) := by omega
          have hadd3 : IntKind.i64.wrap ((k : Int) + 1) = (k : Int) + 1 := IntWalk.i64_in _ (by omega)
          go_wp2_with (first
            | (at_make; refine wpList_make_full _ rfl _ _ 41 rfl W1.heap.size 3 i2 (.int .i64 0) 1 Try.underlying41 hk hx0 hx1 .i64 .i64 _ _ m rfl rfl rfl rfl (by rw [hx2]; omega) (by unfold maxLen; omega) (by omega) ?_; intro w4 hrow4 hg4
               rw [made_intsS] at hrow4
               have HROW := hidS hrow4
               have HT4 := hidS (HTB.out.any hg4)
               have HNE : Hid (∀ j, j < k → gs j ≠ W3.heap.size) := (fun j hj e => by have := ((HTB.out.rows j hj).lt (gs j) rfl).2; omega)
               have HON : Hid (∀ u ∈ [Value.slice (some ⟨W3.heap.size, 0, none⟩) m m], u.oneCell' = true) := own_oneS hrow4
               have HB4 := hidS (HBB.out.grown hg4 sB (fun q hq => by cases hq))
               have s4 := HB4.out.size
               clear hrow4 hg4)
            | (at_builtin; refine wpList_append_own _ rfl _ _ 30 rfl W1.heap.size 41 i1 (.slice none 0 0) 1 24 Try.underlying30 hj hy0 hy1 hy2 rfl (by decide) _ _ _ rfl (HT4.out.outer.alloc _) ⟨w4.heap.size, 0, none⟩ 1 1 [Value.slice (some ⟨W3.heap.size, 0, none⟩) m m] rfl rfl (new_cell1 _ _ _) HON.out (by unfold maxLen; omega) (by omega) (by simp; omega) ?_; intro v8 w8 hown8 hg8 _; refine Hid.out ?_))
          refine Lib.hid ?_
          have hA := HT4.out.outer.alloc (.cells #[Value.slice (some ⟨W3.heap.size, 0, none⟩) m m] 41)
          have hrow : w4.ownsRow W1.heap.size 3 1 (.slice (some ⟨W3.heap.size, 0, none⟩) m m) m (intsV (mapI m ((fun (_ _ : Nat) => (0 : Int)) k))) := by
            rw [mapI_zero m _ (fun _ _ => rfl)]
            exact HROW.out
          have HFIN : Hid (TabP W1.heap.size (k + 1) m (fun j => if j = k then W3.heap.size else gs j) (fun _ _ => 0) v8 w8 ∧ Below W1.heap.size W1 w8) := ⟨(HT4.out.any (World.grownBy_alloc _ _ none)).more (hrow.alloc _) HNE.out hg8 hown8, (HB4.out.alloc s4 _).grown hg8 (by simp; omega) (fun q hq => (hA.lt q hq).1)⟩
          clear hg8 hown8 hA hrow
          obtain ⟨a9, c9, rfl⟩ := own_capS HFIN.out.1.outer
          go_wp2
          go_roundw
          all_goals first
            | (simp only [intOf]; omega)
            | exact ⟨k + 1, _, by omega, by go_num, HFIN⟩
        · obtain rfl : k = m := by omega
          obtain ⟨gt, ct, ev, hct, hTO⟩ := HTB.out.whole hm1
          injection ev with ev1 ev2 ev3
          subst ev1 ev3
          have HTO := hidS hTO
          have hgtl := hTO.outer.lt gt rfl
          clear hTO HTB ev2
          have HW3 : Hid (∀ W, Below W1.heap.size W1 W → Below w.heap.size w W ∧ RgAt W g3 C ∧ W.cell? ⟨w.heap.size, 0, none⟩ = some (.slice (some ⟨b, off, none⟩) C.length cap) ∧ W.cell? ⟨w.heap.size, 1, none⟩ = some (.int .i64 loops) ∧ w.heap.size < W.heap.size ∧ (∀ f, f < i → W.cell? ⟨gO, f, none⟩ = some (.int .i64 (s f : Nat))) ∧ (∀ f, f < i → W.cell? ⟨gP, f, none⟩ = some (.int .i64 (plF s sh f))) ∧ gO < W.heap.size ∧ gP < W.heap.size) := fun W hW => by
            have h2 := HMb.out.trans (hW.mono sW1)
            have hV2 := HB2.out.trans (h2.mono HB2.out.size)
            obtain ⟨e0, e1⟩ := HSV.out W hV2
            exact ⟨HWV.out W hV2, HR2.out.on h2, e0, e1, by have := hV2.size; omega, HSC.out W h2, HPC.out W hW, by have := h2.size; omega, by have := hW.size; omega⟩
          go_upto_region 15 with (fail)
          go_wp2
          go_loopw [13, 14] (fun v13 v14 wr => ∃ c : Nat, c ≤ C.length ∧ v14 = .int .i64 (c : Nat) ∧ v13 = .int .i64 (goF C s sh c) ∧ Hid (TabO W1.heap.size gt cv k k gs (goT C s sh c) wr ∧ Below W1.heap.size W1 wr)) (fun _ v14 _ => C.length - (intOf v14).toNat)
          case atStart => exact ⟨0, Nat.zero_le _, rfl, rfl, HTO.out, HBB.out⟩
          case round =>
            clear HTO HBB
            rename World => W5
            obtain ⟨c, hc, rfl, rfl, hin⟩ := hrel
            have HTBc := hidS hin.out.1
            have HBab := hidS hin.out.2
            clear hin
            obtain ⟨-, -, y0, y1, ly, -⟩ := HW3.out W5 HBab.out
            by_cases hcl2 : c < C.length
            · have hci : (c : Int) < (C.length : Int) := by omega
              have hadd4 : IntKind.i64.wrap ((c : Int) + 1) = (c : Int) + 1 := IntWalk.i64_in _ (by omega)
              have HA0 := hidS (HFA.out g3 c3 c 0 hcl2 (by decide))
              have HA1 := hidS (HFA.out g3 c3 c 1 hcl2 (by decide))
              have HA2 := hidS (HFA.out g3 c3 c 2 hcl2 (by decide))
              have HA3 := hidS (HFA.out g3 c3 c 3 hcl2 (by decide))
              have htu := HTU.out c hcl2
              simp only [Nat.reduceAdd, Nat.reduceMod] at htu
              have hl0 := HCL.out c 0 hcl2 (by decide)
              have hs0 := HS2.out (cor C c 0)
              have hs1' := HS2.out (cor C c 1)
              obtain ⟨wo, hwo⟩ : ∃ wo, woM C s c sh = wo := ⟨_, rfl⟩
              have hw1 := woM_one C s c sh
              have hws := HWS.out c hcl2
              obtain ⟨q0, e0⟩ : ∃ q, cor C c 0 = q := ⟨_, rfl⟩
              obtain ⟨q1, e1⟩ : ∃ q, cor C c 1 = q := ⟨_, rfl⟩
              obtain ⟨q2, e2⟩ : ∃ q, cor C c 2 = q := ⟨_, rfl⟩
              obtain ⟨q3, e3⟩ : ∃ q, cor C c 3 = q := ⟨_, rfl⟩
              rw [e0] at HA0 htu hl0 hs0
              rw [e1] at HA1 htu hs1'
              rw [e2] at HA2
              rw [e3] at HA3
              have HWE : Hid ((s q0 ≠ sh → wo = (1, q1, q3)) ∧ (s q0 = sh → wo = (-1, q0, q2))) := (by
                have hh : (s q1 = sh → wo = (1, q1, q3)) ∧ (s q1 ≠ sh → wo = (-1, q0, q2)) := by
                  rw [← hwo]
                  unfold woM
                  rw [e0, e1, e2, e3]
                  exact ⟨fun h => by rw [if_pos h], fun h => by rw [if_neg h]⟩
                exact ⟨fun h => hh.1 (by omega), fun h => hh.2 (by omega)⟩)
              rw [hwo] at hw1 hws
              have HWOE := hidS hwo
              obtain ⟨wv, f1, f2⟩ := wo
              dsimp only at hw1 hws
              clear hwo e0 e1 e2 e3 htu
              have HSa : Hid (∀ W, Below W5.heap.size W5 W → (fun X : World => X.cell? ⟨w.heap.size, 0, none⟩ = some (.slice (some ⟨b, off, none⟩) C.length cap) ∧ X.cell? ⟨w.heap.size, 1, none⟩ = some (.int .i64 loops)) W) := fun W hW => by
                obtain ⟨-, -, e0, e1, -⟩ := HW3.out W (HBab.out.trans (hW.mono HBab.out.size))
                exact ⟨e0, e1⟩
              have HDa : Hid (Below W5.heap.size W5 W5.drew) := (Below.refl _ _).drew
              have HXa : Hid (∀ W, Below W5.heap.size W5 W → Below w.heap.size w W ∧ RgAt W g3 C) := fun W hW => by
                obtain ⟨e0, e1, -⟩ := HW3.out W (HBab.out.trans (hW.mono HBab.out.size))
                exact ⟨e0, e1⟩
              go_upto_region 19 with (fail)
              clear y0 y1 ly
              refine rhd HSa HDa.out (fun hHeld => ?_)
              refine tq 62 0 (h := ?_)
              simp only [List.setIfInBounds_toArray, List.set_cons_succ, List.set_cons_zero]
              refine tq 63 1 (h := ?_)
              simp only [List.setIfInBounds_toArray, List.set_cons_succ, List.set_cons_zero]
              refine tq 64 2 (h := ?_)
              simp only [List.setIfInBounds_toArray, List.set_cons_succ, List.set_cons_zero]
              refine tq 65 3 (h := ?_)
              simp only [List.setIfInBounds_toArray, List.set_cons_succ, List.set_cons_zero]
              refine tq 67 5 (h := ?_)
              simp only [List.setIfInBounds_toArray, List.set_cons_succ, List.set_cons_zero]
              refine tq 68 6 (h := ?_)
              simp only [List.setIfInBounds_toArray, List.set_cons_succ, List.set_cons_zero]
              refine tq 69 7 (h := ?_)
              simp only [List.setIfInBounds_toArray, List.set_cons_succ, List.set_cons_zero]
              refine tq 70 8 (h := ?_)
              simp only [List.setIfInBounds_toArray, List.set_cons_succ, List.set_cons_zero]
              clear hHeld
              refine rd1 4 (fun K hK => ?_)
              go_simp
              go_wp2_with (go_at_call 22; refine (HA0.out _ (HXa.out _ HDa.out).1 (HXa.out _ HDa.out).2).mono ?_; rintro e9 w7 ⟨rfl, hb7⟩)
              have HBw7 := hidS (HDa.out.trans (hb7.mono HDa.out.size))
              clear hb7
              refine hK.out _ _ (HSa.out _ HBw7.out) (fun hHeld => ?_)
              clear hK K hHeld
              try simp only [Act.put]
              refine rd1 9 (fun K hK => ?_)
              go_simp
              go_wp2_with (go_at_call 22; refine (HA2.out _ (HXa.out _ HBw7.out).1 (HXa.out _ HBw7.out).2).mono ?_; rintro e9 w8 ⟨rfl, hb8⟩)
              have HBw8 := hidS (HBw7.out.trans (hb8.mono HBw7.out.size))
              clear hb8
              refine hK.out _ _ (HSa.out _ HBw8.out) (fun hHeld => ?_)
              clear hK K
              try simp only [Act.put]
              refine tq 15 10 (h := ?_)
              simp only [List.setIfInBounds_toArray, List.set_cons_succ, List.set_cons_zero]
              refine tq 16 11 (h := ?_)
              simp only [List.setIfInBounds_toArray, List.set_cons_succ, List.set_cons_zero]
              refine tq 17 12 (h := ?_)
              simp only [List.setIfInBounds_toArray, List.set_cons_succ, List.set_cons_zero]
              refine wpAnyH_done (by kernel_rfl) ?_ _
              clear hHeld
              have HBb := hidS (HBab.out.trans (HBw8.out.mono HBab.out.size))
              obtain ⟨-, -, -, -, -, hsc, -, lgO, -⟩ := HW3.out w8 HBb.out
              have y2 := hsc q0 hl0
              have hq0i : (q0 : Int) < (i : Int) := by omega
              clear hsc
              obtain ⟨z, hz⟩ : ∃ z, s q0 = z := ⟨_, rfl⟩
              rw [hz] at y2 HWE
              clear hz
              go_upto_if 77 with (fail)
              go_cut [15, 16, 17] from 55 to 164 (fun s15 s16 s17 wx => s15 = .int .i64 (f1 : Nat) ∧ s16 = .int .i64 (f2 : Nat) ∧ s17 = .int .i64 wv ∧ Hid (Below w8.heap.size w8 wx))
              case first =>
                by_cases hzs : z = sh
                · have hne : ((z : Int) != (sh : Int)) = false := by rw [hzs]; simp
                  have he := HWE.out.2 hzs
                  have HE := hidS he
                  clear he hzs
                  go_wp2
                  go_meet
                  obtain ⟨rfl, rfl, rfl⟩ : wv = _ ∧ f1 = _ ∧ f2 = _ := by have h := HE.out; rw [Prod.mk.injEq, Prod.mk.injEq] at h; exact h
                  exact ⟨rfl, rfl, rfl, Below.refl _ _⟩
                · have hne : ((z : Int) != (sh : Int)) = true := by
                    have : ((z : Int) == (sh : Int)) = false := beq_eq_false_iff_ne.2 (by omega)
                    simp only [bne, this]
                    rfl
                  have he := HWE.out.1 hzs
                  have HE := hidS he
                  clear he hzs
                  have HBbb := HBb
                  have HSb : Hid (∀ W, Below w8.heap.size w8 W → (fun X : World => X.cell? ⟨w.heap.size, 0, none⟩ = some (.slice (some ⟨b, off, none⟩) C.length cap) ∧ X.cell? ⟨w.heap.size, 1, none⟩ = some (.int .i64 loops)) W) := fun W hW => by
                    obtain ⟨-, -, e0, e1, -⟩ := HW3.out W (HBbb.out.trans (hW.mono HBbb.out.size))
                    exact ⟨e0, e1⟩
                  have HDb : Hid (Below w8.heap.size w8 w8.drew) := (Below.refl _ _).drew
                  have HXb : Hid (∀ W, Below w8.heap.size w8 W → Below w.heap.size w W ∧ RgAt W g3 C) := fun W hW => by
                    obtain ⟨e0, e1, -⟩ := HW3.out W (HBbb.out.trans (hW.mono HBbb.out.size))
                    exact ⟨e0, e1⟩
                  go_upto_region 21 with (fail)
                  clear y2
                  refine rhd HSb HDb.out (fun hHeld => ?_)
                  refine tq 78 0 (h := ?_)
                  simp only [List.setIfInBounds_toArray, List.set_cons_succ, List.set_cons_zero]
                  refine tq 79 1 (h := ?_)
                  simp only [List.setIfInBounds_toArray, List.set_cons_succ, List.set_cons_zero]
                  refine tq 80 2 (h := ?_)
                  simp only [List.setIfInBounds_toArray, List.set_cons_succ, List.set_cons_zero]
                  refine tq 81 3 (h := ?_)
                  simp only [List.setIfInBounds_toArray, List.set_cons_succ, List.set_cons_zero]
                  refine tq 83 5 (h := ?_)
                  simp only [List.setIfInBounds_toArray, List.set_cons_succ, List.set_cons_zero]
                  refine tq 84 6 (h := ?_)
                  simp only [List.setIfInBounds_toArray, List.set_cons_succ, List.set_cons_zero]
                  refine tq 85 7 (h := ?_)
                  simp only [List.setIfInBounds_toArray, List.set_cons_succ, List.set_cons_zero]
                  refine tq 86 8 (h := ?_)
                  simp only [List.setIfInBounds_toArray, List.set_cons_succ, List.set_cons_zero]
                  clear hHeld
                  refine rd1 4 (fun K hK => ?_)
                  go_simp
                  go_wp2_with (go_at_call 22; refine (HA1.out _ (HXb.out _ HDb.out).1 (HXb.out _ HDb.out).2).mono ?_; rintro e9 w9 ⟨rfl, hb7⟩)
                  have HBw9 := hidS (HDb.out.trans (hb7.mono HDb.out.size))
                  clear hb7
                  refine hK.out _ _ (HSb.out _ HBw9.out) (fun hHeld => ?_)
                  clear hK K hHeld
                  try simp only [Act.put]
                  refine rd1 9 (fun K hK => ?_)
                  go_simp
                  go_wp2_with (go_at_call 22; refine (HA3.out _ (HXb.out _ HBw9.out).1 (HXb.out _ HBw9.out).2).mono ?_; rintro e9 w10 ⟨rfl, hb8⟩)
                  have HBw10 := hidS (HBw9.out.trans (hb8.mono HBw9.out.size))
                  clear hb8
                  refine hK.out _ _ (HSb.out _ HBw10.out) (fun hHeld => ?_)
                  clear hK K
                  try simp only [Act.put]
                  refine tq 15 10 (h := ?_)
                  simp only [List.setIfInBounds_toArray, List.set_cons_succ, List.set_cons_zero]
                  refine tq 16 11 (h := ?_)
                  simp only [List.setIfInBounds_toArray, List.set_cons_succ, List.set_cons_zero]
                  refine tq 17 12 (h := ?_)
                  simp only [List.setIfInBounds_toArray, List.set_cons_succ, List.set_cons_zero]
                  refine wpAnyH_done (by kernel_rfl) ?_ _
                  clear hHeld
                  go_wp2
                  go_meet
                  obtain ⟨rfl, rfl, rfl⟩ : wv = _ ∧ f1 = _ ∧ f2 = _ := by have h := HE.out; rw [Prod.mk.injEq, Prod.mk.injEq] at h; exact h
                  exact ⟨by first | rfl | simp, by first | rfl | simp, by first | rfl | simp, HBw10.out⟩
              case rest =>
                rename World => X0
                obtain ⟨rfl, rfl, rfl, hbx⟩ := hcut
                have HBX := hidS (HBb.out.trans (hbx.out.mono HBb.out.size))
                have HT0 := hidS (HTBc.out.any (grown_below (HBw8.out.trans (hbx.out.mono HBw8.out.size)) none))
                clear hbx y2 HTBc
                have hp1 := HLT.out f1 hws.2.2.1 hws.1
                have hp2 := HLT.out f2 hws.2.2.2 hws.2.1
                have pl1 : plF s sh f1 = ((cnS s sh f1 : Nat) : Int) := by unfold plF; rw [if_pos hws.1]
                have pl2 : plF s sh f2 = ((cnS s sh f2 : Nat) : Int) := by unfold plF; rw [if_pos hws.2.1]
                have hff2 : cnS s sh f1 = cnS s sh f2 → f1 = f2 := fun e => by
                  rcases Nat.lt_trichotomy f1 f2 with g | g | g
                  · have := cnS_lt s sh g hws.1; omega
                  · exact g
                  · have := cnS_lt s sh g hws.2.1; omega
                have hff3 : f1 = f2 → cnS s sh f1 = cnS s sh f2 := fun e => by rw [e]
                have HTL := hidS (goT_le C s sh c)
                have HFL := hidS (goF_le C s sh c)
                obtain ⟨i1', hi⟩ : ∃ i, cnS s sh f1 = i := ⟨_, rfl⟩
                obtain ⟨j1', hj1⟩ : ∃ j, cnS s sh f2 = j := ⟨_, rfl⟩
                rw [hi] at hp1 pl1 hff2 hff3
                rw [hj1] at hp2 pl2 hff2 hff3
                obtain ⟨T, hT⟩ : ∃ T, goT C s sh c = T := ⟨_, rfl⟩
                obtain ⟨fx, hfx⟩ : ∃ fx, goF C s sh c = fx := ⟨_, rfl⟩
                have HNT : Hid (goT C s sh (c + 1) = goS T i1' j1' wv) := (by
                  show goS _ _ _ _ = _
                  rw [HWOE.out, hi, hj1, hT])
                obtain ⟨pl, hpl⟩ : ∃ pl, (C.getD c Cr.none).plus = pl := ⟨_, rfl⟩
                have HNF : Hid (goF C s sh (c + 1) = fx + (if pl = decide (wv < 0) then wv else 0)) := (by
                  show goF C s sh c + _ = _
                  rw [HWOE.out, hpl, hfx])
                rw [hT] at HTL HT0
                rw [hfx] at HFL ⊢
                have hf1i : (f1 : Int) < (i : Int) := by have := hws.2.2.1; omega
                have hf2i : (f2 : Int) < (i : Int) := by have := hws.2.2.2; omega
                have HF2 := hidS hff2
                have HF3 := hidS hff3
                have HPL := hidS hpl
                have HPL1 := hidS pl1
                have HPL2 := hidS pl2
                have him : i1' < k := hp1
                have hjm : j1' < k := hp2
                clear hT hfx hi hj1 hpl hff2 hff3 pl1 pl2
                go_upto_if 90 with (fail)
                go_cut [] from 55 to 164 (fun wx => Hid (TabO W1.heap.size gt cv k k gs (goT C s sh (c + 1)) wx ∧ Below W1.heap.size W1 wx))
                case first =>
                  by_cases hff : f1 = f2
                  · have hne : ((f1 : Int) != (f2 : Int)) = false := by rw [hff]; simp
                    have HTN : Hid (TabO W1.heap.size gt cv k k gs (goT C s sh (c + 1)) X0 ∧ Below W1.heap.size W1 X0) := (by
                      rw [HNT.out]
                      unfold goS
                      rw [if_pos (HF3.out hff)]
                      exact ⟨HT0.out, HBX.out⟩)
                    clear hff
                    go_wp2
                    go_meet
                    exact HTN
                  · have hne : ((f1 : Int) != (f2 : Int)) = true := by
                      have : ((f1 : Int) == (f2 : Int)) = false := beq_eq_false_iff_ne.2 (by omega)
                      simp only [bne, this]
                      rfl
                    have hij : i1' ≠ j1' := fun e => hff (HF2.out e)
                    have HIJ := hidS hij
                    clear hff hij
                    have HSP : Hid (∀ W, Below X0.heap.size X0 W → (fun Y : World => Y.cell? ⟨gP, f1, none⟩ = some (.int .i64 (i1' : Nat)) ∧ Y.cell? ⟨gP, f2, none⟩ = some (.int .i64 (j1' : Nat))) W) := fun W hW => by
                      obtain ⟨-, -, -, -, -, -, hpc, -, -⟩ := HW3.out W (HBX.out.trans (hW.mono HBX.out.size))
                      have g1 := hpc f1 hws.2.2.1
                      have g2 := hpc f2 hws.2.2.2
                      rw [HPL1.out] at g1
                      rw [HPL2.out] at g2
                      exact ⟨g1, g2⟩
                    have HDX : Hid (Below X0.heap.size X0 X0.drew) := (Below.refl _ _).drew
                    have lgPX : gP < X0.heap.size := by obtain ⟨-, -, -, -, -, -, -, -, e⟩ := HW3.out X0 HBX.out; exact e
                    go_upto_region 23 with (fail)
                    refine rhd HSP HDX.out (fun hHeld => ?_)
                    refine tq 91 0 (h := ?_)
                    simp only [List.setIfInBounds_toArray, List.set_cons_succ, List.set_cons_zero]
                    refine tq 92 1 (h := ?_)
                    simp only [List.setIfInBounds_toArray, List.set_cons_succ, List.set_cons_zero]
                    refine tq 93 2 (h := ?_)
                    simp only [List.setIfInBounds_toArray, List.set_cons_succ, List.set_cons_zero]
                    refine tq 94 3 (h := ?_)
                    simp only [List.setIfInBounds_toArray, List.set_cons_succ, List.set_cons_zero]
                    refine tq 95 4 (h := ?_)
                    simp only [List.setIfInBounds_toArray, List.set_cons_succ, List.set_cons_zero]
                    refine tq 96 5 (h := ?_)
                    simp only [List.setIfInBounds_toArray, List.set_cons_succ, List.set_cons_zero]
                    refine tq 97 6 (h := ?_)
                    simp only [List.setIfInBounds_toArray, List.set_cons_succ, List.set_cons_zero]
                    refine tq 98 7 (h := ?_)
                    simp only [List.setIfInBounds_toArray, List.set_cons_succ, List.set_cons_zero]
                    refine tq 18 8 (h := ?_)
                    simp only [List.setIfInBounds_toArray, List.set_cons_succ, List.set_cons_zero]
                    refine tq 19 9 (h := ?_)
                    simp only [List.setIfInBounds_toArray, List.set_cons_succ, List.set_cons_zero]
                    refine wpAnyH_done (by kernel_rfl) ?_ _
                    clear hHeld
                    obtain ⟨Y0, hY0⟩ : ∃ Y0, X0.drew = Y0 := ⟨_, rfl⟩
                    rw [hY0] at HDX ⊢
                    have H1 := hidS (HT0.out.any (grown_below HDX.out none))
                    have HBY := hidS (HBX.out.trans (HDX.out.mono HBX.out.size))
                    have hii2 : (i1' : Int) < (k : Int) := by omega
                    have hjj2 : (j1' : Int) < (k : Int) := by omega
                    obtain ⟨bb1, bb2, bb3, -⟩ := goD_le (i := i1') (j := j1') HTL.out hw1
                    have hb1 := HTL.out
                    have hb2 := bb1
                    have hb3 := bb2
                    have hb4 := bb3
                    have HGS := hidS (show goT C s sh (c + 1) = goD T i1' j1' wv by rw [HNT.out]; unfold goS; rw [if_neg HIJ.out])
                    obtain ⟨TA, hTA⟩ : ∃ TA, goA T i1' j1' wv = TA := ⟨_, rfl⟩
                    obtain ⟨TB, hTB⟩ : ∃ TB, goB T i1' j1' wv = TB := ⟨_, rfl⟩
                    obtain ⟨TC, hTC⟩ : ∃ TC, goC T i1' j1' wv = TC := ⟨_, rfl⟩
                    obtain ⟨TD, hTD⟩ : ∃ TD, goD T i1' j1' wv = TD := ⟨_, rfl⟩
                    have eTA : TA = up1 T i1' j1' (T i1' j1' - wv) := by rw [← hTA]; rfl
                    have eTB : TB = up1 TA j1' i1' (TA j1' i1' - wv) := by rw [← hTB, ← hTA]; rfl
                    have eTC : TC = up1 TB i1' i1' (TB i1' i1' + wv) := by rw [← hTC, ← hTB]; rfl
                    have eTD : TD = up1 TC j1' j1' (TC j1' j1' + wv) := by rw [← hTD, ← hTC]; rfl
                    rw [hTA] at hb2
                    rw [hTB] at hb3
                    rw [hTC] at hb4
                    rw [hTD] at HGS
                    clear bb1 bb2 bb3 hTA hTB hTC hTD hY0
                    have HETA := hidS eTA
                    have HETB := hidS eTB
                    have HETC := hidS eTC
                    have HETD := hidS eTD
                    clear eTA eTB eTC eTD
                    have hi1'm := him
                    have hj1'm := hjm
                    have t1a : Y0.cell? ⟨gt, i1', none⟩ = some (.slice (some ⟨gs i1', 0, none⟩) k k) := H1.out.cellO i1' hi1'm
                    have t1b : Y0.cell? ⟨gs i1', j1', none⟩ = some (.int .i64 (T i1' j1')) := H1.out.cellR i1' j1' hi1'm hj1'm
                    have t1c : Y0.frozen? ⟨gs i1', j1', none⟩ = false := (H1.out.rows i1' hi1'm).frozenAt j1'
                    have t1d : gs i1' < Y0.heap.size := ((H1.out.rows i1' hi1'm).lt (gs i1') rfl).2
                    have t1e : gt < Y0.heap.size := (H1.out.outer.lt gt rfl).2
                    have hw1 : IntKind.i64.wrap (T i1' j1' - wv) = T i1' j1' - wv := IntWalk.i64_in _ (by have := hb1 i1' j1'; omega)
                    have hset1 := H1.out.set (T' := TA) i1' j1' (T i1' j1' - wv) hi1'm (fun a b _ _ => by rw [HETA.out]; rfl)
                    obtain ⟨X1, hX1⟩ : ∃ X1, Y0.setCell ⟨gs i1', j1', none⟩ (.int .i64 (T i1' j1' - wv)) = X1 := ⟨_, rfl⟩
                    rw [hX1] at hset1
                    have HX1 := hidS hX1
                    have H2 := hidS hset1.1
                    have HG1 := hidS hset1.2
                    have gl1 := ((H1.out.rows i1' hi1'm).lt (gs i1') rfl).1
                    clear hset1 hX1
                    go_upto_region 25 with (fail)
                    rw [HX1.out]
                    clear t1a t1b t1c t1d t1e hw1
                    have t2a : X1.cell? ⟨gt, j1', none⟩ = some (.slice (some ⟨gs j1', 0, none⟩) k k) := H2.out.cellO j1' hj1'm
                    have t2b : X1.cell? ⟨gs j1', i1', none⟩ = some (.int .i64 (TA j1' i1')) := H2.out.cellR j1' i1' hj1'm hi1'm
                    have t2c : X1.frozen? ⟨gs j1', i1', none⟩ = false := (H2.out.rows j1' hj1'm).frozenAt i1'
                    have t2d : gs j1' < X1.heap.size := ((H2.out.rows j1' hj1'm).lt (gs j1') rfl).2
                    have t2e : gt < X1.heap.size := (H2.out.outer.lt gt rfl).2
                    have hw2 : IntKind.i64.wrap (TA j1' i1' - wv) = TA j1' i1' - wv := IntWalk.i64_in _ (by have := hb2 j1' i1'; omega)
                    have hset2 := H2.out.set (T' := TB) j1' i1' (TA j1' i1' - wv) hj1'm (fun a b _ _ => by rw [HETB.out]; rfl)
                    obtain ⟨X2, hX2⟩ : ∃ X2, X1.setCell ⟨gs j1', i1', none⟩ (.int .i64 (TA j1' i1' - wv)) = X2 := ⟨_, rfl⟩
                    rw [hX2] at hset2
                    have HX2 := hidS hX2
                    have H3 := hidS hset2.1
                    have HG2 := hidS hset2.2
                    have gl2 := ((H2.out.rows j1' hj1'm).lt (gs j1') rfl).1
                    clear hset2 hX2
                    go_upto_region 26 with (fail)
                    rw [HX2.out]
                    clear t2a t2b t2c t2d t2e hw2
                    have t3a : X2.cell? ⟨gt, i1', none⟩ = some (.slice (some ⟨gs i1', 0, none⟩) k k) := H3.out.cellO i1' hi1'm
                    have t3b : X2.cell? ⟨gs i1', i1', none⟩ = some (.int .i64 (TB i1' i1')) := H3.out.cellR i1' i1' hi1'm hi1'm
                    have t3c : X2.frozen? ⟨gs i1', i1', none⟩ = false := (H3.out.rows i1' hi1'm).frozenAt i1'
                    have t3d : gs i1' < X2.heap.size := ((H3.out.rows i1' hi1'm).lt (gs i1') rfl).2
                    have t3e : gt < X2.heap.size := (H3.out.outer.lt gt rfl).2
                    have hw3 : IntKind.i64.wrap (TB i1' i1' + wv) = TB i1' i1' + wv := IntWalk.i64_in _ (by have := hb3 i1' i1'; omega)
                    have hset3 := H3.out.set (T' := TC) i1' i1' (TB i1' i1' + wv) hi1'm (fun a b _ _ => by rw [HETC.out]; rfl)
                    obtain ⟨X3, hX3⟩ : ∃ X3, X2.setCell ⟨gs i1', i1', none⟩ (.int .i64 (TB i1' i1' + wv)) = X3 := ⟨_, rfl⟩
                    rw [hX3] at hset3
                    have HX3 := hidS hX3
                    have H4 := hidS hset3.1
                    have HG3 := hidS hset3.2
                    have gl3 := ((H3.out.rows i1' hi1'm).lt (gs i1') rfl).1
                    clear hset3 hX3
                    go_upto_region 27 with (fail)
                    rw [HX3.out]
                    clear t3a t3b t3c t3d t3e hw3
                    have t4a : X3.cell? ⟨gt, j1', none⟩ = some (.slice (some ⟨gs j1', 0, none⟩) k k) := H4.out.cellO j1' hj1'm
                    have t4b : X3.cell? ⟨gs j1', j1', none⟩ = some (.int .i64 (TC j1' j1')) := H4.out.cellR j1' j1' hj1'm hj1'm
                    have t4c : X3.frozen? ⟨gs j1', j1', none⟩ = false := (H4.out.rows j1' hj1'm).frozenAt j1'
                    have t4d : gs j1' < X3.heap.size := ((H4.out.rows j1' hj1'm).lt (gs j1') rfl).2
                    have t4e : gt < X3.heap.size := (H4.out.outer.lt gt rfl).2
                    have hw4 : IntKind.i64.wrap (TC j1' j1' + wv) = TC j1' j1' + wv := IntWalk.i64_in _ (by have := hb4 j1' j1'; omega)
                    have hset4 := H4.out.set (T' := TD) j1' j1' (TC j1' j1' + wv) hj1'm (fun a b _ _ => by rw [HETD.out]; rfl)
                    obtain ⟨X4, hX4⟩ : ∃ X4, X3.setCell ⟨gs j1', j1', none⟩ (.int .i64 (TC j1' j1' + wv)) = X4 := ⟨_, rfl⟩
                    rw [hX4] at hset4
                    have HX4 := hidS hX4
                    have H5 := hidS hset4.1
                    have HG4 := hidS hset4.2
                    have gl4 := ((H4.out.rows j1' hj1'm).lt (gs j1') rfl).1
                    clear hset4 hX4
                    have HTN : Hid (TabO W1.heap.size gt cv k k gs (goT C s sh (c + 1)) X4 ∧ Below W1.heap.size W1 X4) := (by
                      rw [HGS.out]
                      exact ⟨H5.out, (((HBY.out.grown HG1.out HBY.out.size (fun q hq => by have := Option.some.inj hq; omega)).grown HG2.out (by have := HBY.out.size; have := HG1.out.size; omega) (fun q hq => by have := Option.some.inj hq; omega)).grown HG3.out (by have := HBY.out.size; have := HG1.out.size; have := HG2.out.size; omega) (fun q hq => by have := Option.some.inj hq; omega)).grown HG4.out (by have := HBY.out.size; have := HG1.out.size; have := HG2.out.size; have := HG3.out.size; omega) (fun q hq => by have := Option.some.inj hq; omega)⟩)
                    go_wp2
                    rw [HX4.out]
                    go_meet
                    exact HTN
                case rest =>
                  rename World => X9
                  have HTN := hidS hcut.out.1
                  have HBN := hidS hcut.out.2
                  clear hcut
                  obtain ⟨hbw9, -, y8, y9, ly9, -⟩ := HW3.out X9 HBN.out
                  have hx9 := (HCA.out X9 hbw9 c hcl2).2.2.2.2
                  rw [HPL.out] at hx9
                  have lb9 : b < X9.heap.size := Nat.lt_of_lt_of_le hbw hbw9.size
                  have hfw : IntKind.i64.wrap (fx + wv) = fx + wv := IntWalk.i64_in _ (by have := HFL.out; omega)
                  have HTBN : Hid (TabO W1.heap.size gt cv k k gs (goT C s sh (c + 1)) X9 ∧ Below W1.heap.size W1 X9) := ⟨HTN.out, HBN.out⟩
                  rcases hw1 with h1 | h1
                  · have ee1 : (wv == -1) = false := by rw [h1]; rfl
                    have ee2 : (wv == 1) = true := by rw [h1]; rfl
                    have hd : decide (wv < 0) = false := by rw [h1]; rfl
                    rw [hd] at HNF
                    clear h1 hd
                    cases pl
                    all_goals
                      go_wp2
                      go_roundw
                    all_goals first
                      | (simp only [intOf]; omega)
                      | exact ⟨c + 1, by omega, by go_num, by rw [HNF.out]; simp, HTBN⟩
                  · have ee1 : (wv == -1) = true := by rw [h1]; rfl
                    have ee2 : (wv == 1) = false := by rw [h1]; rfl
                    have hd : decide (wv < 0) = true := by rw [h1]; rfl
                    rw [hd] at HNF
                    clear h1 hd
                    cases pl
                    all_goals
                      go_wp2
                      go_roundw
                    all_goals first
                      | (simp only [intOf]; omega)
                      | exact ⟨c + 1, by omega, by go_num, by rw [HNF.out]; simp, HTBN⟩
            · obtain rfl : c = C.length := by omega
              obtain ⟨hbw5, -⟩ := HW3.out W5 HBab.out
              have HBW5 := hidS hbw5
              have sW0 : w.heap.size ≤ W1.heap.size := by have := (HWV.out _ HB2.out).size; omega
              clear hbw5
              go_wp2
              exact bodyPost_ret (v := .tuple #[.slice (some ⟨gt, 0, none⟩) k cv, .int .i64 (goF C s sh C.length)]) (by simp [results, Try.results8, go_sem]) rfl ⟨gt, cv, gs, rfl, ⟨own_low HTBc.out.outer sW0, fun q hq => own_low (HTBc.out.rows q hq) sW0, HTBc.out.inj⟩, HBW5.out⟩
end Go.Proofs.Ytlcogbcpmneknaa
