/- The walk of ref.faceAt. -/
import Derived.Test.YtlcogbcpmneknaaSQ1P
import Derived.Test.YtlcogbcpmneknaaF4P
import Derived.Test.YtlcogbcpmneknaaW6P
namespace Go.Proofs.Ytlcogbcpmneknaa
open Go.RowKit Go.Maps

theorem d_sameS {i j : Nat} (h1 : 1 ≤ i) (h2 : 1 ≤ j) : (((dA i : Nat) : Int) == ((dA j : Nat) : Int) && dB i == dB j) = decide (i = j) := by
  by_cases h : i = j
  · subst h
    simp
  · have : ¬ (dA i = dA j ∧ dB i = dB j) := fun ⟨e1, e2⟩ => h (by rw [← mk_d h1, ← mk_d h2, e1, e2])
    simp only [h, decide_false]
    cases hb : (((dA i : Nat) : Int) == ((dA j : Nat) : Int) && dB i == dB j) with
    | false => rfl
    | true =>
      simp at hb
      exact absurd ⟨by omega, hb.2⟩ this
theorem eqlS {i j : Nat} (h1 : 1 ≤ i) (h2 : 1 ≤ j) (w : World) : (binOp .eql 67 (.agg #[.int .i64 (dA i : Nat), .bool (dB i)]) (.agg #[.int .i64 (dA j : Nat), .bool (dB j)])).run Try.prog w = .ok (.bool (decide (i = j))) w := by
  rw [run_eql_struct, eqDart, d_sameS h1 h2]
  simp [Result.andThen]
theorem like_anyS {P : Program} {ops : Array Oper} {Q : Exit → Act → World → Prop} {md : Region.Mode} {S : World → Prop} {fuel : Nat} {l l' : Array Bool} {a : Act} {w : World} (e : l = l') (h : wpAnyH P md ops Q S fuel l' a w) : wpAnyH P md ops Q S fuel l a w := e ▸ h
/-- Faces in memory, to be read. -/
structure RgAt (W : World) (g : Nat) (C : List Cr) : Prop where
  lt : g < W.heap.size
  row : ∀ i, i < (facesM C).length → ∃ gi ci, W.cell? ⟨g, i, none⟩ = some (.slice (some ⟨gi, 0, none⟩) ((facesM C).getD i []).length ci) ∧ gi < W.heap.size ∧ ∀ k, k < ((facesM C).getD i []).length → W.cell? ⟨gi, k * 2, none⟩ = some (.int .i64 (dA (((facesM C).getD i []).getD k 0) : Nat)) ∧ W.cell? ⟨gi, k * 2 + 1, none⟩ = some (.bool (dB (((facesM C).getD i []).getD k 0)))
theorem RgAt.on {W W' : World} {g : Nat} {C : List Cr} (h : RgAt W g C) (hb : Below W.heap.size W W') : RgAt W' g C :=
  ⟨Nat.lt_of_lt_of_le h.lt hb.size, fun i hi => by
    obtain ⟨gi, ci, h1, h2, h3⟩ := h.row i hi
    exact ⟨gi, ci, bcell hb h.lt h1, Nat.lt_of_lt_of_le h2 hb.size, fun k hk => ⟨bcell hb h2 (h3 k hk).1, bcell hb h2 (h3 k hk).2⟩⟩⟩
theorem darts_rg {C : List Cr} {loops : Int} {W : World} {B : Nat} {v : Value} (hm : mayD C loops = true) (h0 : 0 < (facesM C).length) (h : DartsOwn W B v (facesM C)) : ∃ g c, v = .slice (some ⟨g, 0, none⟩) (facesM C).length c ∧ RgAt W g C := by
  obtain ⟨ys, hl, ho, he⟩ := h
  rw [hl] at ho
  obtain ⟨g, c, rfl, hg1, hg2⟩ := own_block ho h0
  refine ⟨g, c, rfl, hg2, fun i hi => ?_⟩
  have hface := face_mem hm (i := i) hi
  have hye := he i hi
  obtain ⟨gi, ci, ei, hga, hgb⟩ := own_block hye hface.1
  have h1 := ho.cellAt i (by omega)
  have e4 : ys[i]? = some (ys.getD i (.bool false)) := by rw [List.getD_eq_getElem?_getD, List.getElem?_eq_getElem (by omega)]; rfl
  rw [e4, ei] at h1
  rw [ei] at hye
  refine ⟨gi, ci, h1, hgb, fun k hk => ?_⟩
  have g := vflat_get (dd ((facesM C).getD i [])) k (by rw [dd_len]; exact hk)
  rw [dd_get _ k hk] at g
  exact ⟨(hye.cellAt (k * 2) (by omega)).trans g.1, (hye.cellAt (k * 2 + 1) (by omega)).trans g.2⟩
/-- The box of the dart that is sought. -/
structure FbAt (V W : World) (g : Nat) : Prop where
  b : W.heap[g]? = some (.cells #[.int .i64 0, .bool false] 67 (0, 0))
  l : V.heap.size ≤ g
  bel : Below V.heap.size V W

set_option maxHeartbeats 8000000 in
set_option maxRecDepth 100000 in
theorem faceAt_any (b off cap : Nat) (C : List Cr) (loops : Int) (g3 c3 : Nat) (c t : Nat) (w : World) (hm : mayD C loops = true) (hF9 : (facesM C).length ≤ 18) (hc : c < C.length) (ht : t < 4) (hbw : b < w.heap.size) (hC : CrossAt w b off C) (hR : RgAt w g3 C) :
    Calls Try.prog 22 #[.slice (some ⟨g3, 0, none⟩) (facesM C).length c3, .agg #[.slice (some ⟨b, off, none⟩) C.length cap, .int .i64 loops], .agg #[.int .i64 (c : Nat), .int .i64 (t : Nat)]] w fun e w' => e = .returned (.int .i64 (cor C c t : Nat)) ∧ Below w.heap.size w w' := by
  obtain ⟨s1, -, -, -⟩ := sizeB_iff (may_size hm)
  have hes := en_side hm c t hc ht
  have har := arc_at hm c t hc ht
  have hmk := mk_le (p := (C.getD c Cr.none).comes t) hes.2.2.1 hes.2.2.2
  obtain ⟨x, hx⟩ : ∃ x, mkD (aAt C c t) ((C.getD c Cr.none).comes t) = x := ⟨_, rfl⟩
  have hxA : dA x = aAt C c t := by rw [← hx, dA_mk hes.2.2.1]
  have hxB : dB x = (C.getD c Cr.none).comes t := by rw [← hx, dB_mk hes.2.2.1]
  rw [hx] at hmk
  have hco : cor C c t = fo C x := by unfold cor; rw [hx]
  have HAR := hidS (fun (W : World) (hW : Below w.heap.size w W) => arcAt_any b off cap loops C c t W hc ht (Nat.lt_of_lt_of_le hbw hW.size) (hC.on hW hbw))
  have HEN := hidS (fun (W : World) (hW : Below w.heap.size w W) => entry_any b off cap loops C c t W hc ht (Nat.lt_of_lt_of_le hbw hW.size) (hC.on hW hbw))
  rw [har, ← hxA] at HAR
  rw [← hxB] at HEN
  obtain ⟨xA, eA⟩ : ∃ q, dA x = q := ⟨_, rfl⟩
  obtain ⟨xB, eB⟩ : ∃ q, dB x = q := ⟨_, rfl⟩
  obtain ⟨q, hq⟩ : ∃ q, cor C c t = q := ⟨_, rfl⟩
  have hqx : fo C x = q := by rw [← hco, hq]
  have hqF : q < (facesM C).length := by rw [← hqx]; exact fo_lt x hmk.1 hmk.2
  rw [hq]
  rw [eA] at HAR
  rw [eB] at HEN
  have HEQ := hidS (fun (y : Nat) (hy : 1 ≤ y) (W : World) => eqlS hy hmk.1 W)
  rw [eA, eB] at HEQ
  have HRW := hidS (fun (W : World) (hW : Below w.heap.size w W) => hR.on hW)
  have HFC := hidS (fun i hi => face_mem hm (i := i) hi)
  have HQX := hidS hqx
  have HBD : Hid (∀ i, i < (facesM C).length → ((facesM C).getD i []).length ≤ 65) := fun i hi => by
    obtain ⟨-, hff⟩ := facesM_facts hm
    have h := (hff i hi).2.1
    omega
  have HMK := hidS hmk
  obtain ⟨F, hF⟩ : ∃ F, (facesM C).length = F := ⟨_, rfl⟩
  have HF := hidS hF
  rw [hF] at HFC HBD hqF hF9 ⊢
  have hRl := hR.lt
  obtain ⟨V, hV⟩ : ∃ V, (w.alloc (.cells #[.slice (some ⟨b, off, none⟩) C.length cap, .int .i64 loops] 24)).alloc (.cells #[.int .i64 (c : Nat), .int .i64 (t : Nat)] 56) = V := ⟨_, rfl⟩
  have hB : Below w.heap.size w V := by rw [← hV]; exact below2 _ _ _
  have k0 : V.heap[w.heap.size]? = some (.cells #[.slice (some ⟨b, off, none⟩) C.length cap, .int .i64 loops] 24 (0, 0)) := by rw [← hV]; exact alloc_old (alloc_at rfl)
  have k1 : V.heap[w.heap.size + 1]? = some (.cells #[.int .i64 (c : Nat), .int .i64 (t : Nat)] 56 (0, 0)) := by rw [← hV]; exact alloc_at (by simp)
  have lV : w.heap.size + 2 ≤ V.heap.size := by rw [← hV]; simp
  have HSV : Hid (∀ W, Below V.heap.size V W → (fun X : World => X.cell? ⟨w.heap.size, 0, none⟩ = some (.slice (some ⟨b, off, none⟩) C.length cap) ∧ X.cell? ⟨w.heap.size, 1, none⟩ = some (.int .i64 loops) ∧ X.cell? ⟨w.heap.size + 1, 0, none⟩ = some (.int .i64 (c : Nat)) ∧ X.cell? ⟨w.heap.size + 1, 1, none⟩ = some (.int .i64 (t : Nat))) W) := fun W hW => by
    have e0 := (hW.block _ (by omega)).trans k0
    have e1 := (hW.block _ (by omega)).trans k1
    exact ⟨block_cell e0 rfl, block_cell e0 rfl, block_cell e1 rfl, block_cell e1 rfl⟩
  have HV := hidS hV
  have HB := hidS hB
  have HDV : Hid (Below V.heap.size V V.drew) := (Below.refl _ _).drew
  have HWV : Hid (∀ W, Below V.heap.size V W → Below w.heap.size w W) := fun W hW => HB.out.trans (hW.mono (by omega))
  clear hm hx hxA hxB hmk hco hC hR hV hB k0 k1 hes har eA eB hq hqx hF
  go_enter Try.func22, Try.ntmps22
  go_upto_region 1 with (fail)
  rw [HV.out]
  apply cut_one
  case h =>
    intro key
    refine rhd HSV HDV.out (fun hHeld => ?_)
    refine tk 0 (h := ?_)
    refine tk 1 (h := ?_)
    refine tk 3 (h := ?_)
    refine tk 4 (h := ?_)
    try simp only [Act.put]
    clear hHeld
    refine rd2 2 7 (fun K hK => ?_) (fun K hK => ?_)
    · go_simp
      go_wp2_with (go_at_call 24; refine (HAR.out _ (HWV.out _ HDV.out)).mono ?_; rintro e9 w1 ⟨rfl, hb1⟩)
      have HB1 := hidS (HDV.out.trans (hb1.mono HDV.out.size))
      clear hb1
      refine hK.out _ _ (HSV.out _ HB1.out) (fun hHeld => ?_)
      clear hK K hHeld
      try simp only [Act.put]
      refine rd2 5 7 (fun K hK => ?_) (fun K hK => ?_)
      · go_simp
        go_wp2_with (go_at_call 39; refine (HEN.out _ (HWV.out _ HB1.out)).mono ?_; rintro e9 w2 ⟨rfl, hb2⟩)
        have HB2 := hidS (HB1.out.trans (hb2.mono HB1.out.size))
        clear hb2
        refine hK.out _ _ (HSV.out _ HB2.out) (fun hHeld => ?_)
        clear hK K
        try simp only [Act.put]
        refine tk 6 (h := ?_)
        try simp only [Act.put]
        clear hHeld
        refine rd1 7 (fun K hK => ?_)
        have HB3 := hidS (HB2.out.alloc HB2.out.size (.cells #[.int .i64 0, .bool false] 67))
        have HFN : Hid (FbAt V (w2.alloc (.cells #[.int .i64 0, .bool false] 67)) w2.heap.size) := ⟨alloc_at rfl, HB2.out.size, HB3.out⟩
        go_simp
        refine hK.out _ _ (HSV.out _ HB3.out) (fun hHeld => ?_)
        clear hK K hHeld
        try simp only [Act.put]
        refine like_anyS (l' := #[true, true, true, true, true, true, true, true, false]) (by kernel_rfl) ?_
        revert HFN
        generalize w2.alloc (.cells #[.int .i64 0, .bool false] 67) = Wz
        generalize w2.heap.size = g5
        revert Wz g5
        exact key.out
      · have HB3 := hidS (HB1.out.alloc HB1.out.size (.cells #[.int .i64 0, .bool false] 67))
        have HG3 : Hid ((w1.alloc (.cells #[.int .i64 0, .bool false] 67)).heap[w1.heap.size]? = some (.cells #[.int .i64 0, .bool false] 67 (0, 0))) := alloc_at rfl
        go_simp
        refine hK.out _ _ (HSV.out _ HB3.out) (fun hHeld => ?_)
        clear hK K hHeld
        try simp only [Act.put]
        refine rd1 5 (fun K hK => ?_)
        go_simp
        go_wp2_with (go_at_call 39; refine (HEN.out _ (HWV.out _ HB3.out)).mono ?_; rintro e9 w2 ⟨rfl, hb2⟩)
        have HB2 := hidS (HB3.out.trans (hb2.mono HB3.out.size))
        have HFN : Hid (FbAt V w2 w1.heap.size) := ⟨(hb2.block _ (Array.getElem?_eq_some_iff.1 HG3.out).1).trans HG3.out, HB1.out.size, HB2.out⟩
        clear hb2
        refine hK.out _ _ (HSV.out _ HB2.out) (fun hHeld => ?_)
        clear hK K
        try simp only [Act.put]
        refine tk 6 (h := ?_)
        try simp only [Act.put]
        clear hHeld
        refine like_anyS (l' := #[true, true, true, true, true, true, true, true, false]) (by kernel_rfl) ?_
        exact key.out _ _ HFN
    · have HB3 := hidS (HDV.out.alloc HDV.out.size (.cells #[.int .i64 0, .bool false] 67))
      have HG3 : Hid ((V.drew.alloc (.cells #[.int .i64 0, .bool false] 67)).heap[V.heap.size]? = some (.cells #[.int .i64 0, .bool false] 67 (0, 0))) := alloc_at (by simp)
      go_simp
      refine hK.out _ _ (HSV.out _ HB3.out) (fun hHeld => ?_)
      clear hK K hHeld
      try simp only [Act.put]
      refine rd1 2 (fun K hK => ?_)
      go_simp
      go_wp2_with (go_at_call 24; refine (HAR.out _ (HWV.out _ HB3.out)).mono ?_; rintro e9 w1 ⟨rfl, hb1⟩)
      have HB1 := hidS (HB3.out.trans (hb1.mono HB3.out.size))
      have HG1 := hidS ((hb1.block _ (Array.getElem?_eq_some_iff.1 HG3.out).1).trans HG3.out)
      clear hb1
      refine hK.out _ _ (HSV.out _ HB1.out) (fun hHeld => ?_)
      clear hK K hHeld
      try simp only [Act.put]
      refine rd1 5 (fun K hK => ?_)
      go_simp
      go_wp2_with (go_at_call 39; refine (HEN.out _ (HWV.out _ HB1.out)).mono ?_; rintro e9 w2 ⟨rfl, hb2⟩)
      have HB2 := hidS (HB1.out.trans (hb2.mono HB1.out.size))
      have HFN : Hid (FbAt V w2 V.heap.size) := ⟨(hb2.block _ (Array.getElem?_eq_some_iff.1 HG1.out).1).trans HG1.out, Nat.le_refl _, HB2.out⟩
      clear hb2
      refine hK.out _ _ (HSV.out _ HB2.out) (fun hHeld => ?_)
      clear hK K
      try simp only [Act.put]
      refine tk 6 (h := ?_)
      try simp only [Act.put]
      clear hHeld
      refine like_anyS (l' := #[true, true, true, true, true, true, true, true, false]) (by kernel_rfl) ?_
      exact key.out _ _ HFN
  intro Wz g5 HZ
  have hHeld := HSV.out _ HZ.out.bel
  have r0 : Wz.cell? ⟨g5, 0, none⟩ = some (.int .i64 0) := block_cell HZ.out.b rfl
  have r1 : Wz.cell? ⟨g5, 1, none⟩ = some (.bool false) := block_cell HZ.out.b rfl
  have f0 : Wz.frozen? ⟨g5, 0, none⟩ = false := block_frozen HZ.out.b
  have f1 : Wz.frozen? ⟨g5, 1, none⟩ = false := block_frozen HZ.out.b
  have lg : g5 < Wz.heap.size := (Array.getElem?_eq_some_iff.1 HZ.out.b).1
  obtain ⟨Y, hY⟩ : ∃ Y, (Wz.setCell ⟨g5, 0, none⟩ (.int .i64 (xA : Nat))).setCell ⟨g5, 1, none⟩ (.bool xB) = Y := ⟨_, rfl⟩
  have HY := hidS hY
  have hgY : Wz.grownBy Y (some g5) := by rw [← hY]; exact st2_grown _ _ _ _ _
  have hKY : Y.heap[g5]? = some (.cells #[.int .i64 (xA : Nat), .bool xB] 67 (0, 0)) := by rw [← hY, set_block (set_block HZ.out.b)]; rfl
  have HBY := hidS (HZ.out.bel.grown hgY HZ.out.bel.size (fun q hq => by have := Option.some.inj hq; have := HZ.out.l; omega))
  have HKY := hidS hKY
  have lgY : g5 < Y.heap.size := (Array.getElem?_eq_some_iff.1 hKY).1
  clear hY hgY hKY
  refine rd1 8 (fun K hK => ?_)
  go_simp
  rw [HY.out]
  refine hK.out _ _ (HSV.out _ HBY.out) (fun hHeld => ?_)
  clear hK K r0 r1 f0 f1 lg hHeld
  try simp only [Act.put]
  refine wpAnyH_done (by kernel_rfl) ?_ _
  have HWY := hidS (HWV.out _ HBY.out)
  have sY := HWY.out.size
  clear HSV HDV HZ HAR HEN
  go_wp2
  go_loopw [8] (fun v8 wr => ∃ i : Nat, i ≤ q ∧ v8 = .int .i64 (i : Nat) ∧ Hid (Below Y.heap.size Y wr)) (fun v8 _ => F - (intOf v8).toNat)
  case atStart => exact ⟨0, Nat.zero_le _, rfl, Below.refl _ _⟩
  case round =>
    rename World => W1
    obtain ⟨i, hi, rfl, hbW⟩ := hrel
    have hil : i < F := by omega
    have hii : (i : Int) < (F : Int) := by omega
    have hii0 : (0 : Int) ≤ (i : Int) := by omega
    have hadd : IntKind.i64.wrap ((i : Int) + 1) = (i : Int) + 1 := IntWalk.i64_in _ (by omega)
    obtain ⟨l, hl⟩ : ∃ l, (facesM C).getD i [] = l := ⟨_, rfl⟩
    have hface := HFC.out i hil
    rw [hl] at hface
    have HBW := hidS hbW.out
    have HFL := hidS hface
    have HRL := hidS (fun (W : World) (hW : Below w.heap.size w W) => (HRW.out W hW).row i (by rw [HF.out]; exact hil))
    rw [hl] at HRL
    obtain ⟨n, hn⟩ : ∃ n, l.length = n := ⟨_, rfl⟩
    have hn65 := HBD.out i hil
    rw [hl, hn] at hn65
    rw [hn] at HFL HRL
    clear hbW hface hl hn
    go_upto_region 5 with (fail)
    go_wp2
    go_loopw [9] (fun v9 ws => ∃ k : Nat, k ≤ n ∧ v9 = .int .i64 (k : Nat) ∧ Hid (∀ j, j < k → l.getD j 0 ≠ x) ∧ Hid (Below Y.heap.size Y ws)) (fun v9 _ => n - (intOf v9).toNat)
    case atStart => exact ⟨0, Nat.zero_le _, rfl, fun j hj => absurd hj (Nat.not_lt_zero _), HBW.out⟩
    case round =>
      rename World => W3
      obtain ⟨k, hk, rfl, hnot, hbW3⟩ := hrel
      have hw3 := HWY.out.trans (hbW3.out.mono sY)
      obtain ⟨gi, ci, e1, e2, e3⟩ := HRL.out W3 hw3
      have lg3 : g3 < W3.heap.size := Nat.lt_of_lt_of_le hRl hw3.size
      have hd := (hbW3.out.block _ lgY).trans HKY.out
      have d0 : W3.cell? ⟨g5, 0, none⟩ = some (.int .i64 (xA : Nat)) := block_cell hd rfl
      have d1 : W3.cell? ⟨g5, 1, none⟩ = some (.bool xB) := block_cell hd rfl
      have lg5 : g5 < W3.heap.size := (Array.getElem?_eq_some_iff.1 hd).1
      have HNOT := hidS hnot.out
      have HB3 := hidS hbW3.out
      by_cases hkl : k < n
      · have hki : (k : Int) < (n : Int) := by omega
        have hki0 : (0 : Int) ≤ (k : Int) := by omega
        have hadd2 : IntKind.i64.wrap ((k : Int) + 1) = (k : Int) + 1 := IntWalk.i64_in _ (by omega)
        have hcell := e3 k hkl
        have hy := HFL.out.2.1 k hkl
        obtain ⟨y, hye⟩ : ∃ y, l.getD k 0 = y := ⟨_, rfl⟩
        rw [hye] at hcell hy
        have heq := HEQ.out y hy.1
        obtain ⟨t8, ht8⟩ : ∃ t8, decide (y = x) = t8 := ⟨_, rfl⟩
        rw [ht8] at heq
        have m0 := hcell.1
        have m1 := hcell.2
        generalize dA y = yA at m0 heq
        generalize dB y = yB at m1 heq
        have HY8 := hidS ht8
        have HYE := hidS hye
        have HY3 := hidS hy.2.2
        clear hcell e3 hw3 hd hnot hbW3 ht8 hye hy
        go_upto_region 8 with (fail)
        go_quiet (fail)
        clear m0 m1 heq e1 d0 d1
        cases t8
        · have hne : l.getD k 0 ≠ x := by rw [HYE.out]; exact of_decide_eq_false HY8.out
          have HNN : Hid (∀ j, j < k + 1 → l.getD j 0 ≠ x) := fun j hj => by
            rcases Nat.lt_or_ge j k with g | g
            · exact HNOT.out j g
            · have e : j = k := by omega
              subst e
              exact hne
          clear hne
          go_wp2
          go_roundw
          all_goals first
            | (simp only [intOf]; omega)
            | exact ⟨k + 1, by omega, by go_num, HNN, below_drewN HB3.out _⟩
        · have hyx : y = x := of_decide_eq_true HY8.out
          have hqi : q = i := by rw [← HQX.out, ← hyx]; exact HY3.out
          have HQI := hidS hqi
          clear hyx hqi
          go_wp2
          go_ret
          exact ⟨by rw [HQI.out]; rfl, HWY.out.trans ((below_drewN HB3.out _).mono sY)⟩
      · obtain rfl : k = n := by omega
        have hiq : i + 1 ≤ q := by
          rcases Nat.lt_or_ge i q with g | g
          · exact g
          · exfalso
            have e : i = q := by omega
            obtain ⟨k', h1, h2⟩ := HFL.out.2.2 x HMK.out.1 HMK.out.2 (by rw [HQX.out, e])
            exact HNOT.out k' h1 h2
        clear e3 hw3 hd hnot hbW3
        go_wp2
        go_roundw
        all_goals first
          | (simp only [intOf]; omega)
          | exact ⟨i + 1, by omega, by go_num, HB3.out⟩
end Go.Proofs.Ytlcogbcpmneknaa
