/- The walk of ref.ShadesOf. Made by gensr2.py. -/
import Derived.Test.YtlcogbcpmneknaaSQ2P
namespace Go.Proofs.Ytlcogbcpmneknaa
open Go.RowKit Go.Maps

set_option maxHeartbeats 16000000 in
set_option maxRecDepth 100000 in
theorem shadesOf_any (a : Option Addr) (cap : Nat) (C : List Cr) (loops : Int) (s : Nat → Nat) (w : World) (hm : mayD C loops = true) (hp : planarB C = true) (ho : oneB C loops = true) (hs : Shd C s) (h : Crs w w.heap.size (.slice a C.length cap) C) :
    Calls Try.prog 21 #[.agg #[.slice a C.length cap, .int .i64 loops]] w fun e w' => ∃ gO, e = .returned (.slice (some ⟨gO, 0, none⟩) (facesM C).length (facesM C).length) ∧ w'.ownsRow w.heap.size 3 1 (.slice (some ⟨gO, 0, none⟩) (facesM C).length (facesM C).length) (facesM C).length (intsV (shL s (facesM C).length)) ∧ Below w.heap.size w w' := by
  obtain ⟨s1, -, -, -⟩ := sizeB_iff (may_size hm)
  obtain ⟨h0, -, -⟩ := one_con hm ho
  have hFe := faces_few hm hp ho
  obtain ⟨b, off, ha, hbw, hCA⟩ := crs_some h h0
  subst ha
  have HFO := hidS (fun (W : World) (hW : Below w.heap.size w W) => facesOf_any (some ⟨b, off, none⟩) cap C loops W hm (h.up hW))
  have HDR := hidS (fun (W : World) (B : Nat) (v : Value) (hD : DartsOwn W B v (facesM C)) => darts_rg hm (by omega) hD)
  have HFA := hidS (fun (g3 c3 c t : Nat) (hc : c < C.length) (ht : t < 4) (W : World) (hW : Below w.heap.size w W) (hR : RgAt W g3 C) => faceAt_any b off cap C loops g3 c3 c t W hm (by omega) hc ht (Nat.lt_of_lt_of_le hbw hW.size) (hCA.on hW hbw) hR)
  have HST := hidS (fun c k L M (hh : SwAt C s c k L M) hc hk => hh.step hm hs hc hk)
  have HMO := hidS (fun L M (hh : SwAt C s C.length 0 L M) hL h0 k hk => hh.more hm ho hL h0 k hk)
  have HCL := hidS (fun c t hc ht => cor_lt hm c t hc ht)
  have HCN := hidS (fun c k hc hk => cor_next hm hs c k hc hk)
  have HS2 := hidS hs.two
  have hs0 := hs.zero
  obtain ⟨F, hF⟩ : ∃ F, (facesM C).length = F := ⟨_, rfl⟩
  have HF := hidS hF
  rw [hF] at HFA HMO HCL hFe HDR ⊢
  have hF9 : F ≤ 18 := by omega
  have hF1 : 2 ≤ F := by omega
  have HS0 := hidS hs0
  obtain ⟨i2, hk, hx0, hx1, hx2⟩ := info_parts infoIntS
  obtain ⟨V, hV⟩ : ∃ V, w.alloc (.cells #[.slice (some ⟨b, off, none⟩) C.length cap, .int .i64 loops] 24) = V := ⟨_, rfl⟩
  have hB : Below w.heap.size w V := by rw [← hV]; exact (Below.refl _ _).alloc (Nat.le_refl _) _
  have k0 : V.heap[w.heap.size]? = some (.cells #[.slice (some ⟨b, off, none⟩) C.length cap, .int .i64 loops] 24 (0, 0)) := by rw [← hV]; exact alloc_at rfl
  have lV : w.heap.size < V.heap.size := by rw [← hV]; simp
  have v0 : V.cell? ⟨w.heap.size, 0, none⟩ = some (.slice (some ⟨b, off, none⟩) C.length cap) := block_cell k0 rfl
  have v1 : V.cell? ⟨w.heap.size, 1, none⟩ = some (.int .i64 loops) := block_cell k0 rfl
  have HV := hidS hV
  have HB := hidS hB
  have HK0 := hidS k0
  clear h hCA hm hp ho hs hV hB k0 hF hFe hs0
  go_enter Try.func21, Try.ntmps21
  go_upto_region 1 with (fail)
  rw [HV.out]
  go_upto_region 2 with (go_at_call 20; refine (HFO.out _ HB.out).mono ?_; rintro e9 w3 ⟨v3, rfl, hd3, hb3⟩
                         obtain ⟨g3, c3, e3, hr3⟩ := HDR.out _ _ _ hd3
                         subst e3
                         have HR3 := hidS hr3
                         have HB3 := hidS hb3
                         have s3 := hb3.size
                         clear hd3 hr3 hb3)
  clear v0 v1
  go_upto_region 3 with (first
    | (at_make; refine wpList_make_full _ rfl _ _ 41 rfl w3.heap.size 3 i2 (.int .i64 0) 1 Try.underlying41 hk hx0 hx1 .i64 .i64 _ _ F rfl rfl rfl rfl (by rw [hx2]; omega) (by unfold maxLen; omega) (by simp) ?_; intro w4 hrow4 hg4
       have HR4 := hidS hrow4
       have HG4 := hidS hg4
       clear hrow4 hg4))
  obtain ⟨gO, hgO⟩ : ∃ gO, w3.heap.size = gO := ⟨_, rfl⟩
  have hgO2 : w3.heap.size ≤ gO := by omega
  have HS4 : Hid (∃ M : List Int, M.length = F ∧ (∀ f, f < 0 → M.getD f 0 = -1) ∧ w4.ownsRow w3.heap.size 3 1 (.slice (some ⟨gO, 0, none⟩) F F) F (intsV M) ∧ Below w3.heap.size w3 w4) := (by
    have h4 := HR4.out
    rw [made_intsS] at h4
    rw [← hgO]
    exact ⟨_, by simp, fun f hf => absurd hf (Nat.not_lt_zero _), h4, (Below.refl _ _).grown HG4.out (Nat.le_refl _) (fun q hq => by cases hq)⟩)
  rw [hgO]
  have HWB : Hid (∀ W, Below w3.heap.size w3 W → Below w.heap.size w W ∧ RgAt W g3 C ∧ W.cell? ⟨w.heap.size, 0, none⟩ = some (.slice (some ⟨b, off, none⟩) C.length cap) ∧ W.cell? ⟨w.heap.size, 1, none⟩ = some (.int .i64 loops) ∧ w.heap.size < W.heap.size) := fun W hW => by
    have e0 := (hW.block _ (by omega)).trans ((HB3.out.block _ lV).trans HK0.out)
    exact ⟨HB.out.trans ((HB3.out.trans (hW.mono s3)).mono (by omega)), HR3.out.on hW, block_cell e0 rfl, block_cell e0 rfl, (Array.getElem?_eq_some_iff.1 e0).1⟩
  clear HR4 HG4 hgO
  go_wp2
  go_loopw [5] (fun v5 wr => ∃ i : Nat, i ≤ F ∧ v5 = .int .i64 (i : Nat) ∧ Hid (∃ M : List Int, M.length = F ∧ (∀ f, f < i → M.getD f 0 = -1) ∧ wr.ownsRow w3.heap.size 3 1 (.slice (some ⟨gO, 0, none⟩) F F) F (intsV M) ∧ Below w3.heap.size w3 wr)) (fun v5 _ => F - (intOf v5).toNat)
  case atStart => exact ⟨0, Nat.zero_le _, rfl, HS4⟩
  case round =>
    clear HS4
    rename World => W1
    obtain ⟨i, hi, rfl, hin⟩ := hrel
    obtain ⟨M, hMl, hMi, hMo, hMb⟩ := hin.out
    have lO : gO < W1.heap.size := (hMo.lt gO rfl).2
    by_cases hil : i < F
    · have hii : (i : Int) < (F : Int) := by omega
      have hii0 : (0 : Int) ≤ (i : Int) := by omega
      have hadd : IntKind.i64.wrap ((i : Int) + 1) = (i : Int) + 1 := IntWalk.i64_in _ (by omega)
      have y0 : W1.cell? ⟨gO, i, none⟩ = some (.int .i64 (M.getD i 0)) := (hMo.cellAt i (by omega)).trans (intsV_get M i (by omega))
      have z0 : W1.frozen? ⟨gO, i, none⟩ = false := hMo.frozenAt i
      have hst := hMo.stored i (.int .i64 (-1))
      rw [intsV_set] at hst
      have HNW : Hid (∃ M' : List Int, M'.length = F ∧ (∀ f, f < i + 1 → M'.getD f 0 = -1) ∧ (W1.setCell ⟨gO, i, none⟩ (.int .i64 (-1))).ownsRow w3.heap.size 3 1 (.slice (some ⟨gO, 0, none⟩) F F) F (intsV M') ∧ Below w3.heap.size w3 (W1.setCell ⟨gO, i, none⟩ (.int .i64 (-1)))) := ⟨M.set i (-1), by rw [List.length_set]; exact hMl, fun f hf => by
          rw [getS_put]
          by_cases e : i = f ∧ i < M.length
          · rw [if_pos e]
          · rw [if_neg e]
            refine hMi f ?_
            rcases Nat.lt_or_ge f i with g | g
            · exact g
            · exact absurd ⟨by omega, by omega⟩ e, hst.1, hMb.grown hst.2 hMb.size (fun q hq => by have := Option.some.inj hq; omega)⟩
      clear hin hMl hMi hMo hMb hst
      go_wp2
      go_roundw
      all_goals first
        | (simp only [intOf]; omega)
        | exact ⟨i + 1, by omega, by go_num, HNW⟩
    · obtain rfl : i = F := by omega
      have hst := hMo.stored 0 (.int .i64 0)
      rw [intsV_set] at hst
      have y0 : W1.cell? ⟨gO, 0, none⟩ = some (.int .i64 (M.getD 0 0)) := (hMo.cellAt 0 (by omega)).trans (intsV_get M 0 (by omega))
      have z0 : W1.frozen? ⟨gO, 0, none⟩ = false := hMo.frozenAt 0
      have hFi : (0 : Int) < (i : Int) := by omega
      obtain ⟨Z, hZ⟩ : ∃ Z, W1.setCell ⟨gO, 0, none⟩ (.int .i64 0) = Z := ⟨_, rfl⟩
      rw [hZ] at hst
      have HZ := hidS hZ
      have hsdM : Sd s i M := ⟨hMl, fun f hf => Or.inl (hMi f hf)⟩
      have hsd0 : Sd s i (M.set 0 0) := by
        have e := hsdM.set 0
        rw [HS0.out] at e
        exact e
      have hun : uns (M.set 0 0) ≤ i - 1 - 0 := by
        have e := uns_set M 0 0 (by omega) (hMi 0 (by omega)) (by decide)
        have e2 : uns M ≤ M.length := List.countP_le_length
        omega
      have HR0 : Hid (∃ M : List Int, (Sd s i M ∧ M.getD 0 0 ≠ -1 ∧ uns M ≤ i - 1 - 0) ∧ Z.ownsRow w3.heap.size 3 1 (.slice (some ⟨gO, 0, none⟩) i i) i (intsV M) ∧ Below w3.heap.size w3 Z) := ⟨M.set 0 0, ⟨hsd0, by rw [getS_put, if_pos ⟨rfl, by omega⟩]; decide, hun⟩, hst.1, hMb.grown hst.2 hMb.size (fun q hq => by have := Option.some.inj hq; omega)⟩
      clear hin hMl hMi hMo hMb hst hZ hsdM hsd0 hun
      go_upto_region 8 with (fail)
      rw [HZ.out]
      clear y0 z0 lO
      obtain ⟨F, hFF⟩ : ∃ F, i = F := ⟨_, rfl⟩
      subst hFF
      go_wp2
      go_loopw [6] (fun v6 wr => ∃ r : Nat, r ≤ i ∧ v6 = .int .i64 (r : Nat) ∧ Hid (∃ M : List Int, (Sd s i M ∧ M.getD 0 0 ≠ -1 ∧ uns M ≤ i - 1 - r) ∧ wr.ownsRow w3.heap.size 3 1 (.slice (some ⟨gO, 0, none⟩) i i) i (intsV M) ∧ Below w3.heap.size w3 wr)) (fun v6 _ => i - (intOf v6).toNat)
      case atStart => exact ⟨0, Nat.zero_le _, rfl, HR0⟩
      case round =>
        clear HR0
        rename World => W2
        obtain ⟨r, hr, rfl, hin⟩ := hrel
        by_cases hrl : r < i
        · have hri : (r : Int) < (i : Int) := by omega
          have hadd : IntKind.i64.wrap ((r : Int) + 1) = (r : Int) + 1 := IntWalk.i64_in _ (by omega)
          obtain ⟨L, ⟨hL1, hL2, hL3⟩, hLo, hLb⟩ := hin.out
          have HL1 := hidS hL1
          have HL2 := hidS hL2
          have HL3 := hidS hL3
          have HC0 : Hid (∃ M : List Int, SwAt C s 0 0 L M ∧ W2.ownsRow w3.heap.size 3 1 (.slice (some ⟨gO, 0, none⟩) i i) i (intsV M) ∧ Below w3.heap.size w3 W2) := ⟨L, SwAt.start (by rw [HF.out]; exact hL1), hLo, hLb⟩
          clear hin hL1 hL2 hL3 hLo hLb
          go_upto_region 11 with (fail)
          go_wp2
          go_loopw [7] (fun v7 wr => ∃ c : Nat, c ≤ C.length ∧ v7 = .int .i64 (c : Nat) ∧ Hid (∃ M : List Int, SwAt C s c 0 L M ∧ wr.ownsRow w3.heap.size 3 1 (.slice (some ⟨gO, 0, none⟩) i i) i (intsV M) ∧ Below w3.heap.size w3 wr)) (fun v7 _ => C.length - (intOf v7).toNat)
          case atStart => exact ⟨0, Nat.zero_le _, rfl, HC0⟩
          case round =>
            clear HC0
            rename World => W5
            obtain ⟨c, hc, rfl, hin⟩ := hrel
            have hW5 := hin.out
            obtain ⟨-, -, -, hb5⟩ := hW5
            obtain ⟨-, -, y0, y1, ly⟩ := HWB.out W5 hb5
            by_cases hcl : c < C.length
            · have hci : (c : Int) < (C.length : Int) := by omega
              have hadd2 : IntKind.i64.wrap ((c : Int) + 1) = (c : Int) + 1 := IntWalk.i64_in _ (by omega)
              have HK0' := hidS hin.out
              clear hin hb5
              go_upto_region 14 with (fail)
              clear y0 y1 ly
              go_wp2
              go_loopw [8] (fun v8 wr => ∃ k : Nat, k ≤ 4 ∧ v8 = .int .i64 (k : Nat) ∧ Hid (∃ M : List Int, SwAt C s c k L M ∧ wr.ownsRow w3.heap.size 3 1 (.slice (some ⟨gO, 0, none⟩) i i) i (intsV M) ∧ Below w3.heap.size w3 wr)) (fun v8 _ => 4 - (intOf v8).toNat)
              case atStart => exact ⟨0, by omega, rfl, HK0'⟩
              case round =>
                clear HK0'
                rename World => W6
                obtain ⟨k, hk4, rfl, hin⟩ := hrel
                by_cases hkl : k < 4
                · have hki : (k : Int) < 4 := by omega
                  have hadd3 : IntKind.i64.wrap ((k : Int) + 1) = (k : Int) + 1 := IntWalk.i64_in _ (by omega)
                  obtain ⟨t1, ht1⟩ : ∃ t1, (k + 1) % 4 = t1 := ⟨_, rfl⟩
                  have hmod : ((k : Int) + 1).tmod 4 = ((t1 : Nat) : Int) := by
                    have : k = 0 ∨ k = 1 ∨ k = 2 ∨ k = 3 := by omega
                    rcases this with rfl | rfl | rfl | rfl <;> (subst ht1; rfl)
                  have ht4 : t1 < 4 := by omega
                  obtain ⟨M, hsw, hMo, hMb⟩ := hin.out
                  have hst := HST.out c k L M hsw hcl hkl
                  have hcn := HCN.out c k hcl hkl
                  rw [ht1] at hst hcn
                  have hxl := HCL.out c k hcl hkl
                  have hyl := HCL.out c t1 hcl ht4
                  have HA := hidS (HFA.out g3 c3 c k hcl hkl)
                  have HA2 := hidS (HFA.out g3 c3 c t1 hcl ht4)
                  have hx2 := HS2.out (cor C c k)
                  obtain ⟨x, ex⟩ : ∃ x, cor C c k = x := ⟨_, rfl⟩
                  obtain ⟨y, ey⟩ : ∃ y, cor C c t1 = y := ⟨_, rfl⟩
                  rw [ex] at hxl hcn hst HA hx2
                  rw [ey] at hyl hcn hst HA2
                  have hsd : Sd s i M := by have := hsw.sd; rw [HF.out] at this; exact this
                  obtain ⟨hsA, -, -, -⟩ := sw_step hsd hxl hyl hcn hx2
                  have HSW := hidS hst
                  have HSD := hidS hsd
                  have HSA := hidS hsA
                  have HMO := hidS hMo
                  have HMB := hidS hMb
                  have sB := hMb.size
                  have HS6 : Hid (∀ W, Below W6.heap.size W6 W → (fun X : World => X.cell? ⟨w.heap.size, 0, none⟩ = some (.slice (some ⟨b, off, none⟩) C.length cap) ∧ X.cell? ⟨w.heap.size, 1, none⟩ = some (.int .i64 loops)) W) := fun W hW => by
                    obtain ⟨-, -, e0, e1, -⟩ := HWB.out W (HMB.out.trans (hW.mono sB))
                    exact ⟨e0, e1⟩
                  have HDV : Hid (Below W6.heap.size W6 W6.drew) := (Below.refl _ _).drew
                  have HX6 : Hid (∀ W, Below W6.heap.size W6 W → Below w.heap.size w W ∧ RgAt W g3 C) := fun W hW => by
                    obtain ⟨e0, e1, -⟩ := HWB.out W (HMB.out.trans (hW.mono sB))
                    exact ⟨e0, e1⟩
                  clear hin hsw hMo hMb hst hcn hsd hsA ex ey ht1 hx2
                  go_upto_region 17 with (fail)
                  refine rhd HS6 HDV.out (fun hHeld => ?_)
                  refine tq 44 0 (h := ?_)
                  simp only [List.setIfInBounds_toArray, List.set_cons_succ, List.set_cons_zero]
                  refine tq 45 1 (h := ?_)
                  simp only [List.setIfInBounds_toArray, List.set_cons_succ, List.set_cons_zero]
                  refine tq 46 2 (h := ?_)
                  simp only [List.setIfInBounds_toArray, List.set_cons_succ, List.set_cons_zero]
                  refine tq 47 3 (h := ?_)
                  simp only [List.setIfInBounds_toArray, List.set_cons_succ, List.set_cons_zero]
                  refine tq 48 4 (h := ?_)
                  simp only [List.setIfInBounds_toArray, List.set_cons_succ, List.set_cons_zero]
                  refine tq 50 6 (h := ?_)
                  simp only [List.setIfInBounds_toArray, List.set_cons_succ, List.set_cons_zero]
                  refine tq 51 7 (h := ?_)
                  simp only [List.setIfInBounds_toArray, List.set_cons_succ, List.set_cons_zero]
                  refine tq 52 8 (h := ?_)
                  simp only [List.setIfInBounds_toArray, List.set_cons_succ, List.set_cons_zero]
                  refine tq 53 9 (h := ?_)
                  simp only [List.setIfInBounds_toArray, List.set_cons_succ, List.set_cons_zero]
                  refine tq 54 10 (h := ?_)
                  simp only [List.setIfInBounds_toArray, List.set_cons_succ, List.set_cons_zero]
                  refine tq 55 11 (h := ?_)
                  simp only [List.setIfInBounds_toArray, List.set_cons_succ, List.set_cons_zero]
                  refine tq 56 12 (h := ?_)
                  simp only [List.setIfInBounds_toArray, List.set_cons_succ, List.set_cons_zero]
                  clear hHeld
                  refine rd1 5 (fun K hK => ?_)
                  go_simp
                  go_wp2_with (go_at_call 22; refine (HA.out _ (HX6.out _ HDV.out).1 (HX6.out _ HDV.out).2).mono ?_; rintro e9 w7 ⟨rfl, hb7⟩)
                  have HB7 := hidS (HDV.out.trans (hb7.mono HDV.out.size))
                  clear hb7
                  refine hK.out _ _ (HS6.out _ HB7.out) (fun hHeld => ?_)
                  clear hK K hHeld
                  try simp only [Act.put]
                  refine rd1 13 (fun K hK => ?_)
                  go_simp
                  go_wp2_with (go_at_call 22; refine (HA2.out _ (HX6.out _ HB7.out).1 (HX6.out _ HB7.out).2).mono ?_; rintro e9 w8 ⟨rfl, hb8⟩)
                  have HB8 := hidS (HB7.out.trans (hb8.mono HB7.out.size))
                  clear hb8
                  refine hK.out _ _ (HS6.out _ HB8.out) (fun hHeld => ?_)
                  clear hK K
                  try simp only [Act.put]
                  refine tq 9 14 (h := ?_)
                  simp only [List.setIfInBounds_toArray, List.set_cons_succ, List.set_cons_zero]
                  refine tq 10 15 (h := ?_)
                  simp only [List.setIfInBounds_toArray, List.set_cons_succ, List.set_cons_zero]
                  refine wpAnyH_done (by kernel_rfl) ?_ _
                  clear hHeld
                  have HO8 := hidS (own_any HMO.out (grown_below HB8.out none))
                  have HB83 := hidS (HMB.out.trans (HB8.out.mono sB))
                  have lO8 : gO < w8.heap.size := (HO8.out.lt gO rfl).2
                  have hxi : (x : Int) < (i : Int) := by omega
                  have hyi : (y : Int) < (i : Int) := by omega
                  have hmx : -1 ≤ M.getD x 0 ∧ M.getD x 0 ≤ 1 := by
                    rcases HSD.out.2 x hxl with e | e
                    · omega
                    · have := HS2.out x; omega
                  have a1 : w8.cell? ⟨gO, x, none⟩ = some (.int .i64 (M.getD x 0)) := (HO8.out.cellAt x (by omega)).trans (intsV_get M x (by rw [HSD.out.1]; exact hxl))
                  have a2 : w8.cell? ⟨gO, y, none⟩ = some (.int .i64 (M.getD y 0)) := (HO8.out.cellAt y (by omega)).trans (intsV_get M y (by rw [HSD.out.1]; exact hyl))
                  have a3 : w8.frozen? ⟨gO, y, none⟩ = false := HO8.out.frozenAt y
                  obtain ⟨mx, hmx'⟩ : ∃ mx, M.getD x 0 = mx := ⟨_, rfl⟩
                  rw [hmx'] at hmx a1
                  have HMX := hidS hmx'
                  clear hmx'
                  by_cases hx0 : 0 ≤ mx
                  · have hge : decide (0 ≤ mx) = true := decide_eq_true hx0
                    have hw : IntKind.i64.wrap (1 - mx) = 1 - mx := IntWalk.i64_in _ (by omega)
                    have hst := HO8.out.stored y (.int .i64 (1 - mx))
                    rw [intsV_set] at hst
                    obtain ⟨Y1, hY1⟩ : ∃ Y1, w8.setCell ⟨gO, y, none⟩ (.int .i64 (1 - mx)) = Y1 := ⟨_, rfl⟩
                    rw [hY1] at hst
                    have HY1 := hidS hY1
                    have HO9 := hidS hst.1
                    have HB9 := hidS (HB83.out.grown hst.2 HB83.out.size (fun q hq => by have := Option.some.inj hq; omega))
                    have HEA : Hid (swA M x y = M.set y (1 - mx)) := (by unfold swA; rw [HMX.out, if_pos hx0]; exact rfl)
                    have HS9 : Hid (Sd s i (M.set y (1 - mx))) := (by rw [← HEA.out]; exact HSA.out)
                    generalize M.getD y 0 = my0 at a2
                    clear hst hY1 hx0
                    go_upto_region 20 with (fail)
                    rw [HY1.out]
                    clear a1 a2 a3 hge hw
                    have hmy : -1 ≤ (M.set y (1 - mx)).getD y 0 ∧ (M.set y (1 - mx)).getD y 0 ≤ 1 := by
                      rcases HS9.out.2 y hyl with e | e
                      · omega
                      · have := HS2.out y; omega
                    have b1 : Y1.cell? ⟨gO, y, none⟩ = some (.int .i64 ((M.set y (1 - mx)).getD y 0)) := (HO9.out.cellAt y (by omega)).trans (intsV_get _ y (by rw [HS9.out.1]; exact hyl))
                    have b2 : Y1.cell? ⟨gO, x, none⟩ = some (.int .i64 ((M.set y (1 - mx)).getD x 0)) := (HO9.out.cellAt x (by omega)).trans (intsV_get _ x (by rw [HS9.out.1]; exact hxl))
                    have b3 : Y1.frozen? ⟨gO, x, none⟩ = false := HO9.out.frozenAt x
                    have lO : gO < Y1.heap.size := (HO9.out.lt gO rfl).2
                    obtain ⟨my, hmy'⟩ : ∃ my, (M.set y (1 - mx)).getD y 0 = my := ⟨_, rfl⟩
                    rw [hmy'] at hmy b1
                    generalize (M.set y (1 - mx)).getD x 0 = mx2 at b2
                    have HMY := hidS hmy'
                    clear hmy'
                    by_cases hy0 : 0 ≤ my
                    · have hge2 : decide (0 ≤ my) = true := decide_eq_true hy0
                      have hw2 : IntKind.i64.wrap (1 - my) = 1 - my := IntWalk.i64_in _ (by omega)
                      have hst2 := HO9.out.stored x (.int .i64 (1 - my))
                      rw [intsV_set] at hst2
                      have HNW : Hid (∃ M' : List Int, SwAt C s c (k + 1) L M' ∧ (Y1.setCell ⟨gO, x, none⟩ (.int .i64 (1 - my))).ownsRow w3.heap.size 3 1 (.slice (some ⟨gO, 0, none⟩) i i) i (intsV M') ∧ Below w3.heap.size w3 (Y1.setCell ⟨gO, x, none⟩ (.int .i64 (1 - my)))) := (by
                        have e : swB M x y = (M.set y (1 - mx)).set x (1 - my) := by
                          unfold swB
                          rw [HEA.out, HMY.out, if_pos hy0]
                        refine ⟨swB M x y, HSW.out, ?_, HB9.out.grown hst2.2 HB9.out.size (fun q hq => by have := Option.some.inj hq; omega)⟩
                        rw [e]
                        exact hst2.1)
                      clear hst2 hy0
                      go_wp2
                      go_roundw
                      all_goals first
                        | (simp only [intOf]; omega)
                        | exact ⟨k + 1, by omega, by go_num, HNW⟩
                    · have hge2 : decide (0 ≤ my) = false := decide_eq_false hy0
                      have HNW : Hid (∃ M' : List Int, SwAt C s c (k + 1) L M' ∧ Y1.ownsRow w3.heap.size 3 1 (.slice (some ⟨gO, 0, none⟩) i i) i (intsV M') ∧ Below w3.heap.size w3 Y1) := (by
                        have e : swB M x y = M.set y (1 - mx) := by
                          unfold swB
                          rw [HEA.out, HMY.out, if_neg hy0]
                        refine ⟨swB M x y, HSW.out, ?_, HB9.out⟩
                        rw [e]
                        exact HO9.out)
                      clear hy0
                      go_wp2
                      go_roundw
                      all_goals first
                        | (simp only [intOf]; omega)
                        | exact ⟨k + 1, by omega, by go_num, HNW⟩
                  · have hge : decide (0 ≤ mx) = false := decide_eq_false hx0
                    have HEA : Hid (swA M x y = M) := (by unfold swA; rw [HMX.out, if_neg hx0]; exact rfl)
                    clear hx0
                    go_upto_region 20 with (fail)
                    clear a1 a2 a3 hge
                    have hmy : -1 ≤ (M).getD y 0 ∧ (M).getD y 0 ≤ 1 := by
                      rcases HSD.out.2 y hyl with e | e
                      · omega
                      · have := HS2.out y; omega
                    have b1 : w8.cell? ⟨gO, y, none⟩ = some (.int .i64 ((M).getD y 0)) := (HO8.out.cellAt y (by omega)).trans (intsV_get _ y (by rw [HSD.out.1]; exact hyl))
                    have b2 : w8.cell? ⟨gO, x, none⟩ = some (.int .i64 ((M).getD x 0)) := (HO8.out.cellAt x (by omega)).trans (intsV_get _ x (by rw [HSD.out.1]; exact hxl))
                    have b3 : w8.frozen? ⟨gO, x, none⟩ = false := HO8.out.frozenAt x
                    have lO : gO < w8.heap.size := (HO8.out.lt gO rfl).2
                    obtain ⟨my, hmy'⟩ : ∃ my, (M).getD y 0 = my := ⟨_, rfl⟩
                    rw [hmy'] at hmy b1
                    generalize (M).getD x 0 = mx2 at b2
                    have HMY := hidS hmy'
                    clear hmy'
                    by_cases hy0 : 0 ≤ my
                    · have hge2 : decide (0 ≤ my) = true := decide_eq_true hy0
                      have hw2 : IntKind.i64.wrap (1 - my) = 1 - my := IntWalk.i64_in _ (by omega)
                      have hst2 := HO8.out.stored x (.int .i64 (1 - my))
                      rw [intsV_set] at hst2
                      have HNW : Hid (∃ M' : List Int, SwAt C s c (k + 1) L M' ∧ (w8.setCell ⟨gO, x, none⟩ (.int .i64 (1 - my))).ownsRow w3.heap.size 3 1 (.slice (some ⟨gO, 0, none⟩) i i) i (intsV M') ∧ Below w3.heap.size w3 (w8.setCell ⟨gO, x, none⟩ (.int .i64 (1 - my)))) := (by
                        have e : swB M x y = (M).set x (1 - my) := by
                          unfold swB
                          rw [HEA.out, HMY.out, if_pos hy0]
                        refine ⟨swB M x y, HSW.out, ?_, HB83.out.grown hst2.2 HB83.out.size (fun q hq => by have := Option.some.inj hq; omega)⟩
                        rw [e]
                        exact hst2.1)
                      clear hst2 hy0
                      go_wp2
                      go_roundw
                      all_goals first
                        | (simp only [intOf]; omega)
                        | exact ⟨k + 1, by omega, by go_num, HNW⟩
                    · have hge2 : decide (0 ≤ my) = false := decide_eq_false hy0
                      have HNW : Hid (∃ M' : List Int, SwAt C s c (k + 1) L M' ∧ w8.ownsRow w3.heap.size 3 1 (.slice (some ⟨gO, 0, none⟩) i i) i (intsV M') ∧ Below w3.heap.size w3 w8) := (by
                        have e : swB M x y = M := by
                          unfold swB
                          rw [HEA.out, HMY.out, if_neg hy0]
                        refine ⟨swB M x y, HSW.out, ?_, HB83.out⟩
                        rw [e]
                        exact HO8.out)
                      clear hy0
                      go_wp2
                      go_roundw
                      all_goals first
                        | (simp only [intOf]; omega)
                        | exact ⟨k + 1, by omega, by go_num, HNW⟩
                · obtain rfl : k = 4 := by omega
                  have HKN : Hid (∃ M : List Int, SwAt C s (c + 1) 0 L M ∧ W6.ownsRow w3.heap.size 3 1 (.slice (some ⟨gO, 0, none⟩) i i) i (intsV M) ∧ Below w3.heap.size w3 W6) := (by
                    obtain ⟨M, h1, h2, h3⟩ := hin.out
                    exact ⟨M, h1.next, h2, h3⟩)
                  clear hin
                  go_wp2
                  go_roundw
                  all_goals first
                    | (simp only [intOf]; omega)
                    | exact ⟨c + 1, by omega, by go_num, HKN⟩
            · obtain rfl : c = C.length := by omega
              have HRN : Hid (∃ M : List Int, (Sd s i M ∧ M.getD 0 0 ≠ -1 ∧ uns M ≤ i - 1 - (r + 1)) ∧ W5.ownsRow w3.heap.size 3 1 (.slice (some ⟨gO, 0, none⟩) i i) i (intsV M) ∧ Below w3.heap.size w3 W5) := (by
                obtain ⟨M, h1, h2, h3⟩ := hin.out
                have hsd := h1.sd
                rw [HF.out] at hsd
                exact ⟨M, ⟨hsd, h1.keep 0 (by rw [HF.out]; omega) HL2.out, HMO.out L M h1 HL1.out.1 HL2.out _ (by have := HL3.out; omega)⟩, h2, h3⟩)
              clear hin hb5
              go_wp2
              go_roundw
              all_goals first
                | (simp only [intOf]; omega)
                | exact ⟨r + 1, by omega, by go_num, HRN⟩
        · obtain rfl : r = i := by omega
          obtain ⟨M, ⟨h1, h2, h3⟩, h4, h5⟩ := hin.out
          have hMM := sd_all h1 (by omega)
          rw [hMM] at h4
          have HO9 := hidS (own_low h4 (show w.heap.size ≤ w3.heap.size by omega))
          have HB9 := hidS (HWB.out W2 h5).1
          clear hin h1 h2 h3 h4 h5 hMM
          go_wp2
          go_ret
          exact ⟨gO, rfl, HO9.out, HB9.out⟩
end Go.Proofs.Ytlcogbcpmneknaa
