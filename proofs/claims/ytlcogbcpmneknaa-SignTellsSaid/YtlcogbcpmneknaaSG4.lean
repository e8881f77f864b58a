/- The walk of sign.chartOf where it answers. -/
import Derived.Test.YtlcogbcpmneknaaSG3
namespace Go.Proofs.Ytlcogbcpmneknaa
open Go.RowKit Go.Maps

theorem makeD (w : World) : (Instr.makeMap 40 none).run Try.prog w = .ok (.map (some w.heap.size)) (w.alloc (.map #[] 0)) := rfl
theorem faceRingsS : FaceRingsOk := fun a cap C loops gF cF gT cT w hm hD => faceRings_ok a cap C loops gF cF gT cT w hm hD
theorem made_intsS (n : Nat) : (madeCells (Value.int .i64 0).cells (n * 1)).toList = intsV (List.replicate n 0) := by
  apply List.ext_getElem?
  intro j
  rw [Nat.mul_one]
  by_cases hj : j < n
  · simp [madeCells, intsV, Value.cells, hj, Nat.mod_one]
  · rw [List.getElem?_eq_none (by simp [madeCells]; omega), List.getElem?_eq_none (by simp [intsV]; omega)]

/-- The faces under way: which darts the map holds, which faces are marked. -/
structure SfAt (w Z W : World) (gM gS m F : Nat) (C : List Cr) (S : Nat → Prop) (i : Nat) : Prop where
  mp : MapD W gM m S (fo C)
  sh : ∃ L : List Int, L.length = F ∧ (∀ f, f < i → L.getD f 0 = -1) ∧ W.ownsRow 0 3 1 (.slice (some ⟨gS, 0, none⟩) F F) F (intsV L)
  keep : ∀ q, q < Z.heap.size → q ≠ gM → q ≠ gS → W.heap[q]? = Z.heap[q]?
  size : Z.heap.size ≤ W.heap.size
  bel : Below w.heap.size w W
theorem SfAt.grown {w Z W W' : World} {gM gS m F i : Nat} {C : List Cr} {S : Nat → Prop} (h : SfAt w Z W gM gS m F C S i) (hM : w.heap.size ≤ Z.heap.size) (hg : W.grownBy W' none) : SfAt w Z W' gM gS m F C S i := by
  obtain ⟨L, h1, h2, h3⟩ := h.sh
  exact ⟨h.mp.kept hg (by simp), ⟨L, h1, h2, own_any h3 hg⟩, fun q hq a b => (hg.block q (Nat.lt_of_lt_of_le hq h.size) (by simp)).trans (h.keep q hq a b), Nat.le_trans h.size hg.size, h.bel.grown hg (Nat.le_trans hM h.size) (fun q hq => by cases hq)⟩
theorem face_mem {C : List Cr} {loops : Int} (hm : mayD C loops = true) {i : Nat} (hi : i < (facesM C).length) : 0 < ((facesM C).getD i []).length ∧ (∀ k, k < ((facesM C).getD i []).length → 1 ≤ ((facesM C).getD i []).getD k 0 ∧ ((facesM C).getD i []).getD k 0 ≤ 4 * C.length ∧ fo C (((facesM C).getD i []).getD k 0) = i) ∧ (∀ j, 1 ≤ j → j ≤ 4 * C.length → fo C j = i → ∃ k, k < ((facesM C).getD i []).length ∧ ((facesM C).getD i []).getD k 0 = j) := by
  obtain ⟨-, hh⟩ := facesM_facts hm
  obtain ⟨g1, -, g3⟩ := hh i hi
  refine ⟨g1, fun k hk => ?_, fun j h1 h2 e => ?_⟩
  · have hb := g3 k hk
    exact ⟨hb.1, hb.2, (pt_mem (walks_once (fd C) (4 * C.length) _ hb.1 hb.2) hi).1 (at_mem hk)⟩
  · have hmem := (pt_mem (walks_once (fd C) (4 * C.length) j h1 h2) hi).2 e
    obtain ⟨k, hk, e2⟩ := List.mem_iff_getElem.1 hmem
    have hk2 : k < ((facesM C).getD i []).length := hk
    exact ⟨k, hk2, by rw [List.getD_eq_getElem?_getD, List.getElem?_eq_getElem hk2]; exact e2⟩

set_option maxHeartbeats 16000000 in
set_option maxRecDepth 100000 in
theorem chart_yes (v : Value) (C : List Cr) (loops : Int) (s : Nat → Nat) (w : World) (hm : mayD C loops = true) (hp : planarB C = true) (ho : oneB C loops = true) (hs : Shd C s) (h : Crs w w.heap.size v C) :
    Calls Try.prog 11 #[.agg #[v, .int .i64 loops]] w fun e w' => ∃ a cap gF cF gT cT gM gS, e = .returned (.tuple #[chV a cap C loops gF cF gT cT gM gS, .int .i64 0]) ∧ Ch w' a cap C gF gT gM gS (shL s (facesM C).length) ∧ w.heap.size ≤ gS ∧ w.heap.size ≤ gM ∧ Below w.heap.size w w' := by
  obtain ⟨s1, -, -, -⟩ := sizeB_iff (may_size hm)
  obtain ⟨F, hF⟩ : ∃ F, (facesM C).length = F := ⟨_, rfl⟩
  have hF2 : F = C.length + 2 := by rw [← hF]; exact faces_few hm hp ho
  have hF9 : F ≤ 18 := by omega
  have hF1 : 2 ≤ F := by omega
  have HF := hidS hF
  obtain ⟨a0, cap0, rfl, hn, hx⟩ := h
  have HC : Hid (Crs w w.heap.size (.slice a0 C.length cap0) C) := ⟨a0, cap0, rfl, hn, hx⟩
  have hS0 := fun W (hW : Crs W W.heap.size (.slice a0 C.length cap0) C) => single_some faceRingsS (.slice a0 C.length cap0) C loops W (by unfold noN; rw [if_pos hm, if_pos hp]) hW
  rw [ho] at hS0
  unfold SingleOut drV at hS0
  dsimp only at hS0
  have HS := hidS hS0
  have HFR := hidS (fun a cap gF cF gT cT W (hD : Dr W a cap C gF gT) => faceRings_ok a cap C loops gF cF gT cT W hm hD)
  unfold drV at HFR
  have HM := hidS hm
  have HO := hidS ho
  have HSH := hidS hs
  have HP := hidS hp
  obtain ⟨i2, hk, hx0, hx1, hx2⟩ := info_parts infoIntS
  obtain ⟨V, hV⟩ : ∃ V, (w.alloc (.cells #[.slice a0 C.length cap0, .int .i64 loops] 24)).alloc (.cells #[.slice none 0 0, .int .i64 0, .slice none 0 0, .slice none 0 0, .map none, .slice none 0 0] 43) = V := ⟨_, rfl⟩
  have hB : Below w.heap.size w V := by rw [← hV]; exact below2 _ _ _
  have hsV : V.heap.size = w.heap.size + 2 := by rw [← hV]; simp
  have k0 : V.heap[w.heap.size]? = some (.cells #[.slice a0 C.length cap0, .int .i64 loops] 24 (0, 0)) := by rw [← hV]; exact alloc_old (alloc_at rfl)
  have k1 : V.heap[w.heap.size + 1]? = some (.cells #[.slice none 0 0, .int .i64 0, .slice none 0 0, .slice none 0 0, .map none, .slice none 0 0] 43 (0, 0)) := by rw [← hV]; exact alloc_at (by simp)
  have v0 : V.cell? ⟨w.heap.size, 0, none⟩ = some (.slice a0 C.length cap0) := block_cell k0 rfl
  have v1 : V.cell? ⟨w.heap.size, 1, none⟩ = some (.int .i64 loops) := block_cell k0 rfl
  have lV : w.heap.size < V.heap.size := by omega
  have HV := hidS hV
  have HB := hidS hB
  have HK1 := hidS k1
  clear hV hB k0 k1 hS0 hx hm hp ho hs hF hF2
  go_enter Try.func11, Try.ntmps11
  go_upto_region 1 with (fail)
  rw [HV.out]
  go_upto_region 4 with (go_at_call 25; refine (HS.out _ (HC.out.up HB.out)).mono ?_; rintro e9 w2 ⟨⟨a, cap, gF, cF, gT, cT, rfl, hd2⟩, hb2⟩; have HB2 := hidS hb2; have HD2 := hidS hd2; clear hb2 hd2)
  obtain ⟨X, hX⟩ : ∃ X, w2.alloc (.cells #[.slice a C.length cap, .int .i64 loops, .slice (some ⟨gF, 0, none⟩) (2 * C.length + 1) cF, .slice (some ⟨gT, 0, none⟩) (2 * C.length + 1) cT] 39) = X := ⟨_, rfl⟩
  have hb2X : Below w2.heap.size w2 X := by rw [← hX]; exact (Below.refl _ _).alloc (Nat.le_refl _) _
  have kX : X.heap[w2.heap.size]? = some (.cells #[.slice a C.length cap, .int .i64 loops, .slice (some ⟨gF, 0, none⟩) (2 * C.length + 1) cF, .slice (some ⟨gT, 0, none⟩) (2 * C.length + 1) cT] 39 (0, 0)) := by rw [← hX]; exact alloc_at rfl
  have x0 : X.cell? ⟨w2.heap.size, 0, none⟩ = some (.slice a C.length cap) := block_cell kX rfl
  have x1 : X.cell? ⟨w2.heap.size, 1, none⟩ = some (.int .i64 loops) := block_cell kX rfl
  have x2 : X.cell? ⟨w2.heap.size, 2, none⟩ = some (.slice (some ⟨gF, 0, none⟩) (2 * C.length + 1) cF) := block_cell kX rfl
  have x3 : X.cell? ⟨w2.heap.size, 3, none⟩ = some (.slice (some ⟨gT, 0, none⟩) (2 * C.length + 1) cT) := block_cell kX rfl
  have lX : w2.heap.size < X.heap.size := (Array.getElem?_eq_some_iff.1 kX).1
  have HVX := hidS (HB2.out.trans (hb2X.mono HB2.out.size))
  have H2X := hidS hb2X
  have HDX := hidS (HD2.out.on hb2X)
  have HKX := hidS kX
  have s2 := HB2.out.size
  rw [hX]
  clear hX kX v0 v1 hb2X
  have hmk := makeD
  go_upto_region 5 with (fail)
  clear hmk
  obtain ⟨Y, hY⟩ : ∃ Y, (X.alloc (.map #[] 0)).alloc (.cells #[.slice a C.length cap, .int .i64 loops, .slice (some ⟨gF, 0, none⟩) (2 * C.length + 1) cF, .slice (some ⟨gT, 0, none⟩) (2 * C.length + 1) cT, .map (some X.heap.size), .slice none 0 0] 43) = Y := ⟨_, rfl⟩
  have hbXY : Below X.heap.size X Y := by rw [← hY]; exact below2 _ _ _
  have kY : Y.heap[X.heap.size + 1]? = some (.cells #[.slice a C.length cap, .int .i64 loops, .slice (some ⟨gF, 0, none⟩) (2 * C.length + 1) cF, .slice (some ⟨gT, 0, none⟩) (2 * C.length + 1) cT, .map (some X.heap.size), .slice none 0 0] 43 (0, 0)) := by rw [← hY]; exact alloc_at (by simp)
  have HMP : Hid (MapD Y X.heap.size 0 (fun _ => False) (fo C)) := (by rw [← hY]; exact (MapD.made X (fo C)).kept (World.grownBy_alloc _ _ none) (by simp))
  have sY : Y.heap.size = X.heap.size + 2 := by rw [← hY]; simp
  have kXY := (hbXY.block _ lX).trans HKX.out
  have y0 : Y.cell? ⟨w2.heap.size, 0, none⟩ = some (.slice a C.length cap) := block_cell kXY rfl
  have y1 : Y.cell? ⟨w2.heap.size, 1, none⟩ = some (.int .i64 loops) := block_cell kXY rfl
  have y2 : Y.cell? ⟨w2.heap.size, 2, none⟩ = some (.slice (some ⟨gF, 0, none⟩) (2 * C.length + 1) cF) := block_cell kXY rfl
  have y3 : Y.cell? ⟨w2.heap.size, 3, none⟩ = some (.slice (some ⟨gT, 0, none⟩) (2 * C.length + 1) cT) := block_cell kXY rfl
  have lY : w2.heap.size < Y.heap.size := by omega
  have HKY := hidS kY
  have HVY := hidS (HVX.out.trans (hbXY.mono HVX.out.size))
  have HXY := hidS hbXY
  have HDY := hidS (HDX.out.on hbXY)
  rw [hY]
  clear hY hbXY kY kXY x0 x1 x2 x3
  go_upto_region 6 with (go_at_call 26; refine (HFR.out a cap gF cF gT cT _ HDY.out).mono ?_; rintro e9 w3 ⟨v3, rfl, hf3, hb3⟩
                         obtain ⟨ys, hyl, hyo, hye⟩ := hf3
                         rw [hyl, HF.out] at hyo
                         obtain ⟨a3, c3, e3⟩ := own_capS hyo
                         subst e3
                         have HYO := hidS hyo
                         have HYE := hidS hye
                         have HYL := hidS hyl
                         have HB3 := hidS hb3
                         have s3 := hb3.size
                         clear hyl hyo hye hb3)
  have HD3 := hidS (HDY.out.on HB3.out)
  have HM3 := hidS (HMP.out.kept (grown_below HB3.out none) (by simp))
  have k3 := (HB3.out.block _ (by omega)).trans HKY.out
  have HK3 := hidS k3
  have HV3 := hidS (HVY.out.trans (HB3.out.mono HVY.out.size))
  clear y0 y1 y2 y3
  go_upto_region 7 with (first
    | (at_make; refine wpList_make_full _ rfl _ _ 41 rfl w3.heap.size 3 i2 (.int .i64 0) 1 Try.underlying41 hk hx0 hx1 .i64 .i64 _ _ F rfl rfl rfl rfl (by rw [hx2]; omega) (by unfold maxLen; omega) (by simp) ?_; intro w4 hrow4 hg4
       have HR4 := hidS hrow4
       have HG4 := hidS hg4
       have s4 := hg4.size
       have k4 := (hg4.block _ (by omega) (by simp)).trans HK3.out
       have q5 : w4.cell? ⟨X.heap.size + 1, 5, none⟩ = some (.slice none 0 0) := block_cell k4 rfl
       have f5 : w4.frozen? ⟨X.heap.size + 1, 5, none⟩ = false := block_frozen k4
       have l5 : X.heap.size + 1 < w4.heap.size := by omega
       have HK4 := hidS k4
       clear hrow4 hg4 k4))
  obtain ⟨gM, hgM⟩ : ∃ gM, X.heap.size = gM := ⟨_, rfl⟩
  obtain ⟨gS, hgS⟩ : ∃ gS, w3.heap.size = gS := ⟨_, rfl⟩
  rw [hgM] at sY HM3 q5 f5 l5 HK4 ⊢
  rw [hgS] at HR4 s4 ⊢
  have hMS : gM + 2 ≤ gS := by omega
  obtain ⟨Z, hZ⟩ : ∃ Z, w4.setCell ⟨gM + 1, 5, none⟩ (.slice (some ⟨gS, 0, none⟩) F F) = Z := ⟨_, rfl⟩
  have hgZ : w4.grownBy Z (some (gM + 1)) := by rw [← hZ]; exact set_grown _ _ _ _
  have kZ : Z.heap[gM + 1]? = some (.cells #[.slice a C.length cap, .int .i64 loops, .slice (some ⟨gF, 0, none⟩) (2 * C.length + 1) cF, .slice (some ⟨gT, 0, none⟩) (2 * C.length + 1) cT, .map (some gM), .slice (some ⟨gS, 0, none⟩) F F] 43 (0, 0)) := by rw [← hZ, set_block HK4.out]; rfl
  rw [hZ]
  have sZ := hgZ.size
  have hgs4 := (HR4.out.lt gS rfl).2
  have HRZ : Hid (Z.ownsRow 0 3 1 (.slice (some ⟨gS, 0, none⟩) F F) F (intsV (List.replicate F 0))) := (by
    have h := HR4.out
    rw [made_intsS] at h
    exact own_low (h.kept hgZ (Or.inr (fun e => by have : gS = gM + 1 := Option.some.inj e; omega))) (Nat.zero_le _))
  have HMZ := hidS ((HM3.out.kept HG4.out (by simp)).kept hgZ (fun e => by have := Option.some.inj e; omega))
  have hlt3 := HD3.out.ltF
  have hlt3' := HD3.out.ltT
  have HVZ : Hid (Below w2.heap.size w2 Z) := ((H2X.out.trans ((HXY.out.trans (HB3.out.mono (by omega))).mono (by omega))).grown HG4.out (by omega) (fun q hq => by cases hq)).grown hgZ (by omega) (fun q hq => by have := Option.some.inj hq; omega)
  have far3 : ∀ (q : Nat), q < w3.heap.size → q ≠ gM + 1 → Z.heap[q]? = w3.heap[q]? := fun q hq hne => (hgZ.block q (by omega) (fun e => hne (Option.some.inj e))).trans (HG4.out.block q (by omega) (by simp))
  have HFAR := hidS far3
  obtain ⟨g3, c3', e3, hg3a, hg3b⟩ := own_block HYO.out (by omega)
  injection e3 with e31 e32 e33
  subst e31
  have HRD : Hid (∀ W : World, (∀ q, q < Z.heap.size → q ≠ gM → q ≠ gS → W.heap[q]? = Z.heap[q]?) → ∀ i, i < F → ∃ gi ci, W.cell? ⟨g3, i, none⟩ = some (.slice (some ⟨gi, 0, none⟩) ((facesM C).getD i []).length ci) ∧ (Y.heap.size ≤ gi ∧ gi < gS) ∧ ∀ k, k < ((facesM C).getD i []).length → W.cell? ⟨gi, k * 2, none⟩ = some (.int .i64 (dA (((facesM C).getD i []).getD k 0) : Nat)) ∧ W.cell? ⟨gi, k * 2 + 1, none⟩ = some (.bool (dB (((facesM C).getD i []).getD k 0)))) := fun W hW i hi => by
    have hcl : ∀ q j u, q < w3.heap.size → Y.heap.size ≤ q → w3.cell? ⟨q, j, none⟩ = some u → W.cell? ⟨q, j, none⟩ = some u := fun q j u hq1 hq2 hu => by
      have e := (hW q (by omega) (by omega) (by omega)).trans (HFAR.out q hq1 (by omega))
      simp only [World.cell?] at hu ⊢
      rw [e]
      exact hu
    have hface := face_mem HM.out (i := i) (by rw [HF.out]; exact hi)
    have hye := HYE.out i (by rw [HF.out]; exact hi)
    obtain ⟨gi, ci, ei, hga, hgb⟩ := own_block hye hface.1
    have h1 := HYO.out.cellAt i (by omega)
    have hyl : i < ys.length := by rw [HYL.out, HF.out]; exact hi
    have e4 : ys[i]? = some (ys.getD i (.bool false)) := by rw [List.getD_eq_getElem?_getD, List.getElem?_eq_getElem hyl]; rfl
    rw [e4, ei] at h1
    rw [ei] at hye
    refine ⟨gi, ci, hcl g3 i _ hg3b hg3a h1, ⟨hga, by omega⟩, fun k hk => ?_⟩
    have g := vflat_get (dd ((facesM C).getD i [])) k (by rw [dd_len]; exact hk)
    rw [dd_get _ k hk] at g
    exact ⟨hcl gi _ _ hgb hga ((hye.cellAt (k * 2) (by omega)).trans g.1), hcl gi _ _ hgb hga ((hye.cellAt (k * 2 + 1) (by omega)).trans g.2)⟩
  have HS0 : Hid (SfAt w2 Z Z gM gS 0 F C (fun j => j ≤ 4 * C.length ∧ fo C j < 0) 0) := ⟨HMZ.out.congr (Nat.le_refl _) (fun x _ hx => absurd hx.2 (Nat.not_lt_zero _)), ⟨_, by simp, fun f hf => absurd hf (Nat.not_lt_zero _), HRZ.out⟩, fun _ _ _ _ => rfl, Nat.le_refl _, HVZ.out⟩
  have HKZ := hidS kZ
  have hsZ3 : gS < Z.heap.size := by omega
  have hwZ : w.heap.size + 2 ≤ Z.heap.size := by omega
  have hwM : w.heap.size + 2 ≤ gM := by omega
  clear q5 f5 l5 hgZ kZ hZ far3 HR4 HRZ HMZ HM3 e32 e33 HG4 HK4
  go_wp2
  go_loopw [32] (fun v32 wr => ∃ i : Nat, i ≤ F ∧ v32 = .int .i64 (i : Nat) ∧ Hid (SfAt w2 Z wr gM gS (100 * i) F C (fun j => j ≤ 4 * C.length ∧ fo C j < i) i)) (fun v32 _ => F - (intOf v32).toNat)
  case atStart => exact ⟨0, Nat.zero_le _, rfl, HS0⟩
  case round =>
    clear HS0
    rename World => W1
    obtain ⟨i, hi, rfl, hsf⟩ := hrel
    by_cases hil : i < F
    · have hii : (i : Int) < (F : Int) := by omega
      have hii0 : (0 : Int) ≤ (i : Int) := by omega
      obtain ⟨l, hl⟩ : ∃ l, (facesM C).getD i [] = l := ⟨_, rfl⟩
      have hface := face_mem HM.out (i := i) (by rw [HF.out]; exact hil)
      rw [hl] at hface
      have hl9 : l.length ≤ 65 := by
        obtain ⟨-, hff⟩ := facesM_facts HM.out
        have h := (hff i (by rw [HF.out]; exact hil)).2.1
        rw [hl] at h
        omega
      obtain ⟨gi, ci, hr0, hr1, hr2⟩ := HRD.out W1 hsf.out.keep i hil
      rw [hl] at hr0 hr2
      obtain ⟨n, hn9⟩ : ∃ n, l.length = n := ⟨_, rfl⟩
      have HLN := hidS hn9
      rw [hn9] at hr0 hr2 hface hl9
      have HRW := hidS hr2
      have HFC := hidS hface
      have HKG := hidS (hsf.out.keep gi (by omega) (by omega) (by omega))
      have hcb := (hsf.out.keep (gM + 1) (by omega) (by omega) (by omega)).trans HKZ.out
      have b4 : W1.cell? ⟨gM + 1, 4, none⟩ = some (.map (some gM)) := block_cell hcb rfl
      have b5 : W1.cell? ⟨gM + 1, 5, none⟩ = some (.slice (some ⟨gS, 0, none⟩) F F) := block_cell hcb rfl
      have lw1 := hsf.out.size
      have lc : gM + 1 < W1.heap.size := by omega
      have lg3 : g3 < W1.heap.size := by omega
      have lgs : gS < W1.heap.size := by omega
      obtain ⟨L, hLl, hLi, hLo⟩ := hsf.out.sh
      have w0 : W1.cell? ⟨gS, i, none⟩ = some (.int .i64 (L.getD i 0)) := (hLo.cellAt i (by omega)).trans (intsV_get L i (by omega))
      have z0 : W1.frozen? ⟨gS, i, none⟩ = false := hLo.frozenAt i
      have hst := hLo.stored i (.int .i64 (-1))
      rw [intsV_set] at hst
      obtain ⟨W2, hW2⟩ : ∃ W2, W1.setCell ⟨gS, i, none⟩ (.int .i64 (-1)) = W2 := ⟨_, rfl⟩
      rw [hW2] at hst
      have HW2 := hidS hW2
      have HS2 : Hid (SfAt w2 Z W2 gM gS (100 * i) F C (fun j => j ≤ 4 * C.length ∧ fo C j < i) (i + 1)) := ⟨hsf.out.mp.kept hst.2 (fun e => by have := Option.some.inj e; omega), ⟨L.set i (-1), by rw [List.length_set]; exact hLl, fun f hf => by
          rw [getS_put]
          by_cases e : i = f ∧ i < L.length
          · rw [if_pos e]
          · rw [if_neg e]
            refine hLi f ?_
            rcases Nat.lt_or_ge f i with q | q
            · exact q
            · exact absurd ⟨by omega, by omega⟩ e, hst.1⟩, fun q hq h1 h2 => (hst.2.block q (by omega) (fun e => h2 (Option.some.inj e))).trans (hsf.out.keep q hq h1 h2), Nat.le_trans hsf.out.size hst.2.size, hsf.out.bel.grown hst.2 (by omega) (fun q hq => by have := Option.some.inj hq; omega)⟩
      clear hst hLo hLi hLl hW2 hcb hsf hface hr2
      go_upto_region 11 with (fail)
      rw [HW2.out]
      clear b4 b5 w0 z0 hr0
      have HSI : Hid (SfAt w2 Z W2 gM gS (100 * i + 0) F C (fun j => j ≤ 4 * C.length ∧ (fo C j < i ∨ (fo C j = i ∧ ∃ k, k < 0 ∧ l.getD k 0 = j))) (i + 1)) := ⟨HS2.out.mp.congr (Nat.le_refl _) (fun x _ hx => by
          rcases hx with ⟨h0, h | ⟨-, k, h, -⟩⟩
          · exact ⟨⟨h0, h⟩, rfl⟩
          · exact absurd h (Nat.not_lt_zero _)), HS2.out.sh, HS2.out.keep, HS2.out.size, HS2.out.bel⟩
      go_wp2
      go_loopw [43] (fun v43 ws => ∃ k : Nat, k ≤ n ∧ v43 = .int .i64 (k : Nat) ∧ Hid (SfAt w2 Z ws gM gS (100 * i + k) F C (fun j => j ≤ 4 * C.length ∧ (fo C j < i ∨ (fo C j = i ∧ ∃ q, q < k ∧ l.getD q 0 = j))) (i + 1))) (fun v43 _ => n - (intOf v43).toNat)
      case atStart => exact ⟨0, Nat.zero_le _, rfl, HSI⟩
      case round =>
        clear HSI HS2
        rename World => W3
        obtain ⟨k, hk, rfl, hsf⟩ := hrel
        by_cases hkl : k < n
        · have hki : (k : Int) < (n : Int) := by omega
          have hki0 : (0 : Int) ≤ (k : Int) := by omega
          have hadd : IntKind.i64.wrap ((k : Int) + 1) = (k : Int) + 1 := IntWalk.i64_in _ (by omega)
          obtain ⟨x, hx⟩ : ∃ x, l.getD k 0 = x := ⟨_, rfl⟩
          have hx3 := HFC.out.2.1 k hkl
          rw [hx] at hx3
          obtain ⟨xA, hxA⟩ : ∃ q, dA x = q := ⟨_, rfl⟩
          obtain ⟨xB, hxB⟩ : ∃ q, dB x = q := ⟨_, rfl⟩
          have hblk : W3.heap[gi]? = W1.heap[gi]? := (hsf.out.keep gi (by omega) (by omega) (by omega)).trans HKG.out.symm
          have hcel : ∀ j u, W1.cell? ⟨gi, j, none⟩ = some u → W3.cell? ⟨gi, j, none⟩ = some u := fun j u hu => by
            simp only [World.cell?] at hu ⊢
            rw [hblk]
            exact hu
          have hrr := HRW.out k hkl
          rw [hx, hxA, hxB] at hrr
          have c0 := hcel _ _ hrr.1
          have c1 := hcel _ _ hrr.2
          have lsz := hsf.out.size
          have lgi : gi < W3.heap.size := by omega
          have hkb := (hsf.out.keep (gM + 1) (by omega) (by omega) (by omega)).trans HKZ.out
          obtain ⟨V3, hV3⟩ : ∃ V3, W3.alloc (.cells #[.int .i64 (xA : Nat), .bool xB] 67) = V3 := ⟨_, rfl⟩
          have hg3' : W3.grownBy V3 none := by rw [← hV3]; exact World.grownBy_alloc _ _ none
          have kd : V3.heap[W3.heap.size]? = some (.cells #[.int .i64 (xA : Nat), .bool xB] 67 (0, 0)) := by rw [← hV3]; exact alloc_at rfl
          have kb := (hg3'.block (gM + 1) (by omega) (by simp)).trans hkb
          have lV3 : W3.heap.size < V3.heap.size := by rw [← hV3]; simp
          have hSV := hsf.out.grown (by omega) hg3'
          obtain ⟨w', hrun, hmp, hgw⟩ := hSV.mp.put x i hx3.1 (by omega) (by omega) (by omega)
          unfold dtV at hrun
          rw [hxA, hxB] at hrun
          have d0 : V3.cell? ⟨W3.heap.size, 0, none⟩ = some (.int .i64 (xA : Nat)) := block_cell kd rfl
          have d1 : V3.cell? ⟨W3.heap.size, 1, none⟩ = some (.bool xB) := block_cell kd rfl
          have d4 : V3.cell? ⟨gM + 1, 4, none⟩ = some (.map (some gM)) := block_cell kb rfl
          have ld : gM + 1 < V3.heap.size := by omega
          have HSN : Hid (SfAt w2 Z w' gM gS (100 * i + (k + 1)) F C (fun j => j ≤ 4 * C.length ∧ (fo C j < i ∨ (fo C j = i ∧ ∃ q, q < k + 1 ∧ l.getD q 0 = j))) (i + 1)) := ⟨hmp.congr (Nat.le_refl _) (fun y _ hy => by
              by_cases e : y = x
              · exact ⟨Or.inl e, by show fo C y = if y = x then i else fo C y; rw [if_pos e, e]; exact hx3.2.2⟩
              · refine ⟨Or.inr ?_, by show fo C y = if y = x then i else fo C y; rw [if_neg e]⟩
                rcases hy with ⟨h0, h | ⟨h1, q, h2, h3⟩⟩
                · exact ⟨h0, Or.inl h⟩
                · refine ⟨h0, Or.inr ⟨h1, q, ?_, h3⟩⟩
                  rcases Nat.lt_or_ge q k with g | g
                  · exact g
                  · have : q = k := by omega
                    subst this
                    exact absurd (h3.symm.trans hx) e), (by
              obtain ⟨L, h1, h2, h3⟩ := hSV.sh
              exact ⟨L, h1, h2, h3.kept hgw (Or.inr (fun e => by have : gS = gM := Option.some.inj e; omega))⟩), fun q hq h1 h2 => (hgw.block q (by have := hSV.size; omega) (fun e => h1 (Option.some.inj e))).trans (hSV.keep q hq h1 h2), Nat.le_trans hSV.size hgw.size, hSV.bel.grown hgw (by have := hSV.size; omega) (fun q hq => by have := Option.some.inj hq; omega)⟩
          have HV3 := hidS hV3
          clear hrr hcel hblk hkb hg3' kd kb hSV hmp hgw hV3 hsf hx hxA hxB hx3
          go_upto_region 14 with (fail)
          rw [HV3.out]
          clear c0 c1
          go_wp2
          go_roundw
          all_goals first
            | (simp only [intOf]; omega)
            | exact ⟨k + 1, by omega, by go_num, HSN⟩
        · obtain rfl : k = n := by omega
          have hadd : IntKind.i64.wrap ((i : Int) + 1) = (i : Int) + 1 := IntWalk.i64_in _ (by omega)
          have HSE : Hid (SfAt w2 Z W3 gM gS (100 * (i + 1)) F C (fun j => j ≤ 4 * C.length ∧ fo C j < i + 1) (i + 1)) := ⟨hsf.out.mp.congr (by omega) (fun x h1 hx => ⟨⟨hx.1, by
              rcases Nat.lt_or_ge (fo C x) i with q | q
              · exact Or.inl q
              · have e : fo C x = i := by have := hx.2; omega
                exact Or.inr ⟨e, HFC.out.2.2 x h1 hx.1 e⟩⟩, rfl⟩), hsf.out.sh, hsf.out.keep, hsf.out.size, hsf.out.bel⟩
          clear hsf
          go_wp2
          go_roundw
          all_goals first
            | (simp only [intOf]; omega)
            | exact ⟨i + 1, by omega, by go_num, HSE⟩
    · obtain rfl : i = F := by omega
      obtain ⟨L, hLl, hLi, hLo⟩ := hsf.out.sh
      have hwd := HD2.out.on hsf.out.bel
      have hltF := HD2.out.ltF
      have hltT := HD2.out.ltT
      have hcross := HD2.out.cross
      have hblkA : ∀ ad, 0 < C.length → a = some ad → ad.block < w2.heap.size := fun ad hp e => by
        obtain ⟨b, off, h1, h2, -⟩ := hcross hp
        rw [h1] at e
        rw [← Option.some.inj e]
        exact h2
      have hCh : Ch W1 a cap C gF gT gM gS L := ⟨hwd, hsf.out.mp.congr (by omega) (fun x h1 hx => ⟨⟨hx, by rw [← HF.out]; exact fo_lt x h1 hx⟩, rfl⟩), by rw [HF.out]; exact hLo, by omega, by omega, by omega, fun hp ad e => by have := hblkA ad hp e; omega⟩
      have hSd : Sd s (facesM C).length L := ⟨by rw [HF.out]; exact hLl, fun f hf => Or.inl (hLi f (by rw [← HF.out]; exact hf))⟩
      have hspr := spread_all C loops s HM.out HSH.out (uns L) a cap gF cF gT cT gM gS 0 L W1 (Nat.le_refl _) (by rw [HF.out]; omega) (hLi 0 (by omega)) hSd hCh
      rw [HSH.out.zero] at hspr
      unfold chV at hspr
      rw [HF.out] at hspr
      have HSPR := hidS hspr
      have HLI := hidS hLi
      have hcb := (hsf.out.keep (gM + 1) (by omega) (by omega) (by omega)).trans HKZ.out
      have HCB := hidS hcb
      have b0 : W1.cell? ⟨gM + 1, 0, none⟩ = some (.slice a C.length cap) := block_cell hcb rfl
      have b1 : W1.cell? ⟨gM + 1, 1, none⟩ = some (.int .i64 loops) := block_cell hcb rfl
      have b2 : W1.cell? ⟨gM + 1, 2, none⟩ = some (.slice (some ⟨gF, 0, none⟩) (2 * C.length + 1) cF) := block_cell hcb rfl
      have b3 : W1.cell? ⟨gM + 1, 3, none⟩ = some (.slice (some ⟨gT, 0, none⟩) (2 * C.length + 1) cT) := block_cell hcb rfl
      have b4 : W1.cell? ⟨gM + 1, 4, none⟩ = some (.map (some gM)) := block_cell hcb rfl
      have b5 : W1.cell? ⟨gM + 1, 5, none⟩ = some (.slice (some ⟨gS, 0, none⟩) i i) := block_cell hcb rfl
      have lw1 := hsf.out.size
      have lc : gM + 1 < W1.heap.size := by omega
      have k2 := (HB2.out.block _ (by omega)).trans HK1.out
      have HK2 := hidS k2
      have kr := (hsf.out.bel.block _ (by omega)).trans k2
      have HKR := hidS kr
      have HBW := hidS (HB.out.trans ((HB2.out.trans (hsf.out.bel.mono HB2.out.size)).mono (by omega)))
      have HBA := hidS hblkA
      have HD2' := hidS HD2.out
      clear hspr hCh hSd hwd hLo hLi hsf hcross hblkA hcb k2 kr
      go_upto_region 18 with (go_at_call 27; refine HSPR.out.mono ?_; rintro e9 w9 ⟨rfl, L', hpd, hch9, hg9⟩
                              have HPD := hidS hpd
                              have HC9 := hidS hch9
                              have HG9 := hidS hg9
                              have s9 := hg9.size
                              clear hpd hch9 hg9)
      have hLL := HPD.out.all HM.out HO.out (fun g hg => HLI.out g (by rw [← HF.out]; exact hg))
      have kc := (HG9.out.block (gM + 1) lc (fun e => by have := Option.some.inj e; omega)).trans HCB.out
      have kr := (HG9.out.block (w.heap.size + 1) (by omega) (fun e => by have := Option.some.inj e; omega)).trans HKR.out
      have n1 : gF ≠ w.heap.size + 1 := fun e => by
        have t := (HD2'.out.from_ 0 (by rw [ends_length]; omega)).1
        have q : w2.cell? ⟨w.heap.size + 1, 0, none⟩ = some (.slice none 0 0) := block_cell HK2.out rfl
        rw [e] at t
        simp only [Nat.zero_mul, Nat.add_zero] at t
        rw [q] at t
        cases t
      have n2 : gT ≠ w.heap.size + 1 := fun e => by
        have t := (HD2'.out.to 0 (by rw [ends_length]; omega)).1
        have q : w2.cell? ⟨w.heap.size + 1, 0, none⟩ = some (.slice none 0 0) := block_cell HK2.out rfl
        rw [e] at t
        simp only [Nat.zero_mul, Nat.add_zero] at t
        rw [q] at t
        cases t
      have n3 : 0 < C.length → ∀ ad, a = some ad → ad.block ≠ w.heap.size + 1 := fun hp ad e e2 => by
        obtain ⟨b, off, h1, h2, h3⟩ := HD2'.out.cross hp
        rw [h1] at e
        have e3 := Option.some.inj e
        subst e3
        simp only at e2
        subst e2
        obtain ⟨t0, t1, -⟩ := h3 0 hp
        simp only [Nat.zero_mul, Nat.add_zero] at t0 t1
        have hb : ∀ j, w2.cell? ⟨w.heap.size + 1, j, none⟩ = (#[Value.slice none 0 0, .int .i64 0, .slice none 0 0, .slice none 0 0, .map none, .slice none 0 0])[j]? := fun j => by simp only [World.cell?, HK2.out]; rfl
        rw [hb] at t0 t1
        match off, t0, t1 with
        | 0, t0, _ => cases t0
        | 1, _, t1 => cases t1
        | 2, t0, _ => cases t0
        | 3, t0, _ => cases t0
        | 4, t0, _ => cases t0
        | 5, t0, _ => cases t0
        | k + 6, t0, _ => simp at t0
      have hgR := st6_grown w9 (w.heap.size + 1) (.slice a C.length cap) (.int .i64 loops) (.slice (some ⟨gF, 0, none⟩) (2 * C.length + 1) cF) (.slice (some ⟨gT, 0, none⟩) (2 * C.length + 1) cT) (.map (some gM)) (.slice (some ⟨gS, 0, none⟩) i i)
      have hcF := HC9.out.off hgR ⟨fun e => n1 (Option.some.inj e).symm, fun e => n2 (Option.some.inj e).symm, fun e => by have := Option.some.inj e; omega, fun e => by have := Option.some.inj e; omega, fun hp ad e e2 => n3 hp ad e (Option.some.inj e2).symm⟩
      rw [hLL] at hcF
      have hbF := (HBW.out.grown HG9.out (by omega) (fun q hq => by have := Option.some.inj hq; omega)).grown hgR (by omega) (fun q hq => by have := Option.some.inj hq; omega)
      have HFIN : Hid (Ch _ a cap C gF gT gM gS (shL s (facesM C).length) ∧ w.heap.size ≤ gS ∧ w.heap.size ≤ gM ∧ Below w.heap.size w _) := ⟨hcF, by omega, by omega, hbF⟩
      have hst6 := st6_block (d0 := .slice a C.length cap) (d1 := .int .i64 loops) (d2 := .slice (some ⟨gF, 0, none⟩) (2 * C.length + 1) cF) (d3 := .slice (some ⟨gT, 0, none⟩) (2 * C.length + 1) cT) (d4 := .map (some gM)) (d5 := .slice (some ⟨gS, 0, none⟩) i i) kr
      have HST6 := hidS hst6
      have y0 : w9.cell? ⟨gM + 1, 0, none⟩ = some (.slice a C.length cap) := block_cell kc rfl
      have y1 : w9.cell? ⟨gM + 1, 1, none⟩ = some (.int .i64 loops) := block_cell kc rfl
      have y2 : w9.cell? ⟨gM + 1, 2, none⟩ = some (.slice (some ⟨gF, 0, none⟩) (2 * C.length + 1) cF) := block_cell kc rfl
      have y3 : w9.cell? ⟨gM + 1, 3, none⟩ = some (.slice (some ⟨gT, 0, none⟩) (2 * C.length + 1) cT) := block_cell kc rfl
      have y4 : w9.cell? ⟨gM + 1, 4, none⟩ = some (.map (some gM)) := block_cell kc rfl
      have y5 : w9.cell? ⟨gM + 1, 5, none⟩ = some (.slice (some ⟨gS, 0, none⟩) i i) := block_cell kc rfl
      have x0 : w9.cell? ⟨w.heap.size + 1, 0, none⟩ = some (.slice none 0 0) := block_cell kr rfl
      have x1 : w9.cell? ⟨w.heap.size + 1, 1, none⟩ = some (.int .i64 0) := block_cell kr rfl
      have x2 : w9.cell? ⟨w.heap.size + 1, 2, none⟩ = some (.slice none 0 0) := block_cell kr rfl
      have x3 : w9.cell? ⟨w.heap.size + 1, 3, none⟩ = some (.slice none 0 0) := block_cell kr rfl
      have x4 : w9.cell? ⟨w.heap.size + 1, 4, none⟩ = some (.map none) := block_cell kr rfl
      have x5 : w9.cell? ⟨w.heap.size + 1, 5, none⟩ = some (.slice none 0 0) := block_cell kr rfl
      have z0 : w9.frozen? ⟨w.heap.size + 1, 0, none⟩ = false := block_frozen kr
      have z1 : w9.frozen? ⟨w.heap.size + 1, 1, none⟩ = false := block_frozen kr
      have z2 : w9.frozen? ⟨w.heap.size + 1, 2, none⟩ = false := block_frozen kr
      have z3 : w9.frozen? ⟨w.heap.size + 1, 3, none⟩ = false := block_frozen kr
      have z4 : w9.frozen? ⟨w.heap.size + 1, 4, none⟩ = false := block_frozen kr
      have z5 : w9.frozen? ⟨w.heap.size + 1, 5, none⟩ = false := block_frozen kr
      have l9 : gM + 1 < w9.heap.size := by omega
      have l8 : w.heap.size + 1 < w9.heap.size := by omega
      clear hst6 hcF hbF hgR n1 n2 n3 kc kr hLL b0 b1 b2 b3 b4 b5
      go_wp2
      refine bodyPost_ret (res_chart HST6.out rfl rfl) rfl ⟨a, cap, gF, cF, gT, cT, gM, gS, ?_, HFIN.out⟩
      unfold chV
      rw [HF.out]
end Go.Proofs.Ytlcogbcpmneknaa
