/- The statement CodeDarts: its walk. -/
import Derived.Test.YtdbpiggohncjiaaA0
import Derived.Test.YtdbpiggohncjiaaC13P
namespace Go.Proofs.Ytdbpiggohncjiaa
open Go.RowKit

/-- The darts of the first j faces, and of the next one the first i. -/
def preF (L : List (List Nat)) (j i : Nat) : List Nat := (L.take j).flatten ++ (L.getD j []).take i
theorem preF_next (L : List (List Nat)) (j i : Nat) (hi : i < (L.getD j []).length) : preF L j (i + 1) = preF L j i ++ [(L.getD j []).getD i 0] := by
  unfold preF
  generalize L.getD j [] = l at hi
  rw [List.append_assoc, List.take_add_one, List.getD_eq_getElem?_getD, List.getElem?_eq_getElem hi]
  rfl
theorem preF_row (L : List (List Nat)) (j : Nat) (hj : j < L.length) : preF L j (L.getD j []).length = preF L (j + 1) 0 := by
  unfold preF
  rw [List.take_length, List.take_zero, List.append_nil, List.take_add_one, List.getElem?_eq_getElem hj, List.flatten_append]
  simp [List.getD, hj]
theorem preF_pre (L : List (List Nat)) (j i : Nat) (hj : j < L.length) : preF L j i <+: L.flatten := by
  have e : L.flatten = (L.take j).flatten ++ ((L.getD j []) ++ (L.drop (j + 1)).flatten) := by
    have h1 : L.flatten = (L.take j).flatten ++ (L.drop j).flatten := by rw [← List.flatten_append, List.take_append_drop]
    rw [h1, List.drop_eq_getElem_cons hj, List.flatten_cons, List.getD_eq_getElem?_getD, List.getElem?_eq_getElem hj]
    rfl
  rw [e]
  unfold preF
  have h2 : (L.getD j []).take i <+: (L.getD j []) ++ (L.drop (j + 1)).flatten := (List.take_prefix i _).trans (List.prefix_append _ _)
  exact (List.prefix_append_right_inj _).2 h2
theorem faces_nodup (C : List Cr) (loops : Int) (hm : mayD C loops = true) : (facesM C).flatten.Nodup ∧ (∀ x, x ∈ (facesM C).flatten → 1 ≤ x ∧ x ≤ 4 * C.length) ∧ (facesM C).flatten.length = 4 * C.length := by
  obtain ⟨hl, hf⟩ := facesM_facts hm
  have hin : ∀ x, x ∈ (facesM C).flatten → 1 ≤ x ∧ x ≤ 4 * C.length := fun x hx => by
    obtain ⟨l, hlm, hxl⟩ := List.mem_flatten.1 hx
    obtain ⟨j, hj, rfl⟩ := List.getElem_of_mem hlm
    obtain ⟨k, hk, rfl⟩ := List.getElem_of_mem hxl
    have h := (hf j hj).2.2 k (by rw [List.getD_eq_getElem?_getD, List.getElem?_eq_getElem hj]; exact hk)
    rw [List.getD_eq_getElem?_getD (l := facesM C), List.getElem?_eq_getElem hj] at h
    simp only [Option.getD_some] at h
    rw [List.getD_eq_getElem?_getD, List.getElem?_eq_getElem hk] at h
    exact h
  have hc : ∀ x, 1 ≤ x → x ≤ 4 * C.length → (facesM C).flatten.count x = 1 := fun x h1 h2 => walks_once (fd C) (4 * C.length) x h1 h2
  have hnd : (facesM C).flatten.Nodup := List.nodup_iff_count.2 fun x => by
    by_cases h : x ∈ (facesM C).flatten
    · rw [hc x (hin x h).1 (hin x h).2]; exact Nat.le_refl _
    · rw [List.count_eq_zero_of_not_mem h]; exact Nat.zero_le _
  refine ⟨hnd, hin, ?_⟩
  have hp : (facesM C).flatten.Perm ((List.range (4 * C.length)).map (· + 1)) := by
    refine List.perm_iff_count.2 fun x => ?_
    by_cases h : 1 ≤ x ∧ x ≤ 4 * C.length
    · have hn2 : ((List.range (4 * C.length)).map (· + 1)).Nodup := by
        unfold List.Nodup
        rw [List.pairwise_map]
        exact List.nodup_range.imp (fun hne e => hne (by omega))
      rw [hc x h.1 h.2, List.Nodup.count hn2, if_pos (List.mem_map.2 ⟨x - 1, List.mem_range.2 (by omega), by omega⟩)]
    · rw [List.count_eq_zero_of_not_mem (fun e => h (hin x e)), List.count_eq_zero_of_not_mem (fun e => by
        obtain ⟨y, hy, rfl⟩ := List.mem_map.1 e
        have := List.mem_range.1 hy
        exact h ⟨by omega, by omega⟩)]
  rw [hp.length_eq]
  simp
theorem mapB_one (m : Nat) (l : List Nat) (c : Nat) : (mapB m fun i => decide (i ∈ l.map (· + 1))).set (c + 1) true = mapB m fun i => decide (i ∈ (l ++ [c]).map (· + 1)) := by
  rw [mapB_set, List.map_append]
  rfl

set_option maxHeartbeats 4000000 in
set_option maxRecDepth 100000 in
theorem codeDarts_no (v : Value) (C : List Cr) (loops : Int) (w : World) (hm : mayD C loops = false) (h : Crs w w.heap.size v C) :
    Calls Try.prog 4 #[.agg #[v, .int .i64 loops]] w fun e w' => e = .returned (.bool true) ∧ Below w.heap.size w w' := by
  have HM : Hid (mayD C loops = false) := hm
  obtain ⟨a, cap, rfl⟩ : ∃ a cap, v = .slice a C.length cap := by obtain ⟨a, cap, e, -, -⟩ := h; exact ⟨a, cap, e⟩
  obtain ⟨X, hX⟩ : ∃ X, X = w.alloc (.cells #[.slice a C.length cap, .int .i64 loops] 35) := ⟨_, rfl⟩
  have HX : Hid (X = w.alloc (.cells #[.slice a C.length cap, .int .i64 loops] 35)) := hX
  have hsX : w.heap.size < X.heap.size := by rw [hX]; simp
  have HBW : Hid (Below w.heap.size w X) := (by rw [hX]; exact (Below.refl _ _).alloc (Nat.le_refl _) _ : Below w.heap.size w X)
  have HT : Hid (X.heap[w.heap.size]? = some (.cells #[.slice a C.length cap, .int .i64 loops] 35 (0, 0))) := (by rw [hX]; exact alloc_at rfl : X.heap[w.heap.size]? = some (.cells #[.slice a C.length cap, .int .i64 loops] 35 (0, 0)))
  have HC : Hid (∀ w', Below X.heap.size X w' → Crs w' w'.heap.size (.slice a C.length cap) C) := fun w' hb => (h.up HBW.out).up hb
  have HF : Hid (∀ w', Below X.heap.size X w' → w'.cell? ⟨w.heap.size, 0, none⟩ = some (.slice a C.length cap) ∧ w'.cell? ⟨w.heap.size, 1, none⟩ = some (.int .i64 loops) ∧ w.heap.size < w'.heap.size) := fun w' hb => by
    have g := (hb.block _ hsX).trans HT.out
    exact ⟨block_cell g rfl, block_cell g rfl, (Array.getElem?_eq_some_iff.1 g).1⟩
  clear hX hm h
  go_enter Try.func4, Try.ntmps4
  go_upto_region 3 with (go_at_call 24; rw [← HX.out]; refine (awake_any _).mono ?_; rintro e9 w1 ⟨rfl, hb1⟩)
  have H1 : Hid (Below X.heap.size X w1) := hb1
  clear hb1
  obtain ⟨p0, p1, p2⟩ := HF.out w1 H1.out
  go_upto_region 4 with (go_at_call 25; refine (faces_no _ C loops _ HM.out (HC.out _ H1.out)).mono ?_; rintro e9 w2 ⟨rfl, hb2⟩)
  have H2 : Hid (Below X.heap.size X w2) := H1.out.trans (hb2.mono H1.out.size)
  clear hb2 p0 p1 p2
  obtain ⟨p0, p1, p2⟩ := HF.out w2 H2.out
  go_wp2_with (go_at_call 26; refine (codeMay_any _ C loops _ (HC.out _ H2.out)).mono ?_; rw [HM.out]; rintro e9 w3 ⟨rfl, hb3⟩; refine Hid.out ?_)
  refine Lib.hid ?_
  have H3 : Hid (Below w.heap.size w w3) := HBW.out.trans ((H2.out.trans (hb3.mono H2.out.size)).mono HBW.out.size)
  clear hb3
  go_wp2
  go_ret
  exact ⟨rfl, H3.out⟩

set_option maxHeartbeats 8000000 in
set_option maxRecDepth 100000 in
theorem codeDarts_yes (v : Value) (C : List Cr) (loops : Int) (w : World) (hm : mayD C loops = true) (h : Crs w w.heap.size v C) :
    Calls Try.prog 4 #[.agg #[v, .int .i64 loops]] w fun e w' => e = .returned (.bool true) ∧ Below w.heap.size w w' := by
  have HM : Hid (mayD C loops = true) := hm
  obtain ⟨s1, -, -, -⟩ := sizeB_iff (may_size hm)
  obtain ⟨i3, hl, hu0, hu1, hu2⟩ := info_parts infoBool
  obtain ⟨f1, f2, f3⟩ := faces_nodup C loops hm
  have HFN : Hid ((facesM C).flatten.Nodup) := f1
  have HFI : Hid (∀ x, x ∈ (facesM C).flatten → 1 ≤ x ∧ x ≤ 4 * C.length) := f2
  have HFL : Hid ((facesM C).flatten.length = 4 * C.length) := f3
  obtain ⟨hfl, hff⟩ := facesM_facts hm
  obtain ⟨Fs, hFs⟩ : ∃ Fs, facesM C = Fs := ⟨_, rfl⟩
  have HFs : Hid (facesM C = Fs) := hFs
  rw [hFs] at HFN HFI HFL hfl hff
  obtain ⟨a, cap, rfl⟩ : ∃ a cap, v = .slice a C.length cap := by obtain ⟨a, cap, e, -, -⟩ := h; exact ⟨a, cap, e⟩
  obtain ⟨X, hX⟩ : ∃ X, X = w.alloc (.cells #[.slice a C.length cap, .int .i64 loops] 35) := ⟨_, rfl⟩
  have HX : Hid (X = w.alloc (.cells #[.slice a C.length cap, .int .i64 loops] 35)) := hX
  have hsX : w.heap.size < X.heap.size := by rw [hX]; simp
  have HBW : Hid (Below w.heap.size w X) := (by rw [hX]; exact (Below.refl _ _).alloc (Nat.le_refl _) _ : Below w.heap.size w X)
  have HT : Hid (X.heap[w.heap.size]? = some (.cells #[.slice a C.length cap, .int .i64 loops] 35 (0, 0))) := (by rw [hX]; exact alloc_at rfl : X.heap[w.heap.size]? = some (.cells #[.slice a C.length cap, .int .i64 loops] 35 (0, 0)))
  have HC : Hid (∀ w', Below X.heap.size X w' → Crs w' w'.heap.size (.slice a C.length cap) C) := fun w' hb => (h.up HBW.out).up hb
  have HF : Hid (∀ w', Below X.heap.size X w' → w'.cell? ⟨w.heap.size, 0, none⟩ = some (.slice a C.length cap) ∧ w'.cell? ⟨w.heap.size, 1, none⟩ = some (.int .i64 loops) ∧ w.heap.size < w'.heap.size) := fun w' hb => by
    have g := (hb.block _ hsX).trans HT.out
    exact ⟨block_cell g rfl, block_cell g rfl, (Array.getElem?_eq_some_iff.1 g).1⟩
  have HFF : Hid (∀ j, j < Fs.length → 0 < (Fs.getD j []).length ∧ (Fs.getD j []).length ≤ 4 * C.length + 1 ∧ ∀ k, k < (Fs.getD j []).length → 1 ≤ (Fs.getD j []).getD k 0 ∧ (Fs.getD j []).getD k 0 ≤ 4 * C.length) := hff
  clear hX hm h hff f1 f2 f3 hFs
  go_enter Try.func4, Try.ntmps4
  go_upto_region 3 with (go_at_call 24; rw [← HX.out]; refine (awake_any _).mono ?_; rintro e9 w1 ⟨rfl, hb1⟩)
  have H1 : Hid (Below X.heap.size X w1) := hb1
  clear hb1
  obtain ⟨p0, p1, p2⟩ := HF.out w1 H1.out
  go_upto_region 4 with (go_at_call 25; refine (faces_yes faceRingsA _ C loops _ HM.out (HC.out _ H1.out)).mono ?_; rw [HFs.out]; rintro e9 w2 ⟨r, rfl, hd, hb2⟩; obtain ⟨ys, hyl, hr, hy⟩ := hd; rw [hyl] at hr; obtain ⟨a2, c2, e2⟩ := own_capS hr; subst e2)
  have H2 : Hid (Below X.heap.size X w2) := H1.out.trans (hb2.mono H1.out.size)
  have hs12 := H1.out.size
  have HR : Hid (w2.ownsRow X.heap.size 42 1 (.slice a2 Fs.length c2) Fs.length ys) := own_low hr hs12
  have HYL : Hid (ys.length = Fs.length) := hyl
  have HYR : Hid (∀ j, j < Fs.length → w2.ownsRow X.heap.size 44 2 (ys.getD j (.bool false)) (Fs.getD j []).length (vflat (dd (Fs.getD j [])))) := fun j hj => own_low (hy j hj) hs12
  clear hb2 hr hyl hy p0 p1 p2
  obtain ⟨p0, p1, p2⟩ := HF.out w2 H2.out
  go_upto_region 6 with (go_at_call 26; refine (codeMay_any _ C loops _ (HC.out _ H2.out)).mono ?_; rw [HM.out]; rintro e9 w3 ⟨rfl, hb3⟩)
  have H3 : Hid (Below X.heap.size X w3) := H2.out.trans (hb3.mono H2.out.size)
  have H23 : Hid (Below w2.heap.size w2 w3) := hb3
  clear hb3 p0 p1 p2
  obtain ⟨p0, p1, p2⟩ := HF.out w3 H3.out
  have hw1 : IntKind.i64.wrap (4 * (C.length : Int)) = 4 * (C.length : Int) := IntWalk.i64_in _ (by omega)
  have hw2 : IntKind.i64.wrap (4 * (C.length : Int) + 2) = ((4 * C.length + 2 : Nat) : Int) := by rw [IntWalk.i64_in _ (by omega)]; omega
  have hs3 : X.heap.size ≤ w3.heap.size := H3.out.size
  go_upto_region 8 with (first | (at_make; refine wpList_make_full _ rfl _ _ 41 rfl w3.heap.size 4 i3 (.bool false) 1 Try.underlying41 hl hu0 hu1 .i64 .i64 _ _ (4 * C.length + 2) rfl rfl (by first | exact hw2 | simp) (by first | exact hw2 | simp) (by rw [hu2]; omega) (by unfold maxLen; omega) (Nat.le_refl _) ?_; intro w4 hrow4 hg4))
  rw [made_false, mapB_false] at hrow4
  have HS4 : Hid (w4.ownsRow w3.heap.size 4 1 (.slice (some ⟨w3.heap.size, 0, none⟩) (4 * C.length + 2) (4 * C.length + 2)) (4 * C.length + 2) (bools (mapB (4 * C.length + 2) fun c => decide (c ∈ (preF Fs 0 0).map (· + 1)))) ∧ Below w3.heap.size w3 w4) := ⟨hrow4, (Below.refl _ _).grown hg4 (Nat.le_refl _) (fun k hk => by cases hk)⟩
  have HYW : Hid (∀ W, Below w3.heap.size w3 W → ∀ j, j < Fs.length → W.ownsRow X.heap.size 44 2 (ys.getD j (.bool false)) (Fs.getD j []).length (vflat (dd (Fs.getD j []))) ∧ W.ownsRow X.heap.size 42 1 (.slice a2 Fs.length c2) Fs.length ys) := fun W hW j hj => by
    have hg := grown_below (H23.out.trans (hW.mono H23.out.size)) none
    exact ⟨own_any (HYR.out j hj) hg, own_any HR.out hg⟩
  clear hrow4 hg4 p0 p1 p2 hw1 hw2
  go_wp2
  go_loopw [7, 8] (fun v7 v8 wr => ∃ j : Nat, j ≤ Fs.length ∧ v8 = .int .i64 (j : Nat) ∧ v7 = .int .i64 ((preF Fs j 0).length : Nat) ∧ Hid (wr.ownsRow w3.heap.size 4 1 (.slice (some ⟨w3.heap.size, 0, none⟩) (4 * C.length + 2) (4 * C.length + 2)) (4 * C.length + 2) (bools (mapB (4 * C.length + 2) fun c => decide (c ∈ (preF Fs j 0).map (· + 1)))) ∧ Below w3.heap.size w3 wr)) (fun _ v8 _ => Fs.length - (intOf v8).toNat)
  case atStart => exact ⟨0, Nat.zero_le _, rfl, rfl, HS4.out⟩
  case round =>
    clear HS4
    rename World => W5
    obtain ⟨j, hjn, rfl, rfl, hst⟩ := hrel
    have hsz5 := hst.out.2.size
    by_cases hjl : j < Fs.length
    · obtain ⟨k1, k2, k3⟩ := HFF.out j hjl
      obtain ⟨r1, r2⟩ := HYW.out W5 hst.out.2 j hjl
      obtain ⟨g2, c2', e2, hg2, hg2s⟩ := own_block r2 (by omega)
      injection e2 with e21 e22 e23
      clear e22 e23
      subst e21
      obtain ⟨g, cg, eg, hgl, hgs⟩ := own_block r1 (by omega)
      have HGV : Hid (ys.getD j (.bool false) = .slice (some ⟨g, 0, none⟩) (Fs.getD j []).length cg) := eg
      have HCJ : Hid (∀ W, Below w3.heap.size w3 W → W.cell? ⟨g2, j, none⟩ = some (.slice (some ⟨g, 0, none⟩) (Fs.getD j []).length cg) ∧ g2 < W.heap.size ∧ (∀ k, k < (Fs.getD j []).length → W.cell? ⟨g, k * 2, none⟩ = some (.int .i64 (dA ((Fs.getD j []).getD k 0) : Nat)) ∧ W.cell? ⟨g, k * 2 + 1, none⟩ = some (.bool (dB ((Fs.getD j []).getD k 0)))) ∧ g < W.heap.size) := fun W hW => by
        obtain ⟨q1, q2⟩ := HYW.out W hW j hjl
        have hyl := HYL.out
        refine ⟨?_, (q2.lt g2 rfl).2, fun k hk => ?_, ?_⟩
        · rw [q2.cellAt j (by omega), ← HGV.out, List.getD_eq_getElem?_getD, List.getElem?_eq_getElem (by omega)]; rfl
        · rw [HGV.out] at q1
          have hv := vflat_get (dd (Fs.getD j [])) k (by rw [dd_len]; exact hk)
          have hd : (dd (Fs.getD j [])).getD k (0, false) = (dA ((Fs.getD j []).getD k 0), dB ((Fs.getD j []).getD k 0)) := by
            generalize Fs.getD j [] = l at hk
            simp [dd, List.getD, hk]
          rw [hd] at hv
          exact ⟨(q1.cellAt (k * 2) (by omega)).trans hv.1, (q1.cellAt (k * 2 + 1) (by omega)).trans hv.2⟩
        · rw [HGV.out] at q1
          exact (q1.lt g rfl).2
      obtain ⟨l, hlq⟩ : ∃ l, Fs.getD j [] = l := ⟨_, rfl⟩
      have HL : Hid (Fs.getD j [] = l) := hlq
      rw [hlq] at k1 k2 k3 HCJ
      have hji : (j : Int) < (Fs.length : Int) := by omega
      have hdj : decide ((j : Int) < (Fs.length : Int)) = true := decide_eq_true hji
      have hdj2 : decide (j < Fs.length) = true := decide_eq_true hjl
      have HK3 : Hid (∀ k, k < l.length → 1 ≤ l.getD k 0 ∧ l.getD k 0 ≤ 4 * C.length) := k3
      clear r1 r2 eg HGV hlq k3
      go_wp2
      go_loopw [7, 9] (fun v7 v9 ws => ∃ k : Nat, k ≤ l.length ∧ v9 = .int .i64 (k : Nat) ∧ v7 = .int .i64 ((preF Fs j k).length : Nat) ∧ Hid (ws.ownsRow w3.heap.size 4 1 (.slice (some ⟨w3.heap.size, 0, none⟩) (4 * C.length + 2) (4 * C.length + 2)) (4 * C.length + 2) (bools (mapB (4 * C.length + 2) fun c => decide (c ∈ (preF Fs j k).map (· + 1)))) ∧ Below w3.heap.size w3 ws)) (fun _ v9 _ => l.length - (intOf v9).toNat)
      case atStart => exact ⟨0, Nat.zero_le _, rfl, rfl, hst.out⟩
      case round =>
        clear hst hsz5
        rename World => W6
        obtain ⟨k, hkn, rfl, rfl, hst⟩ := hrel
        have hsz6 := hst.out.2.size
        obtain ⟨q0, q1, q2, q3⟩ := HCJ.out W6 hst.out.2
        by_cases hkl : k < l.length
        · obtain ⟨x0, x1⟩ := q2 k hkl
          obtain ⟨d1, d2⟩ := HK3.out k hkl
          have HPN : Hid (preF Fs j (k + 1) = preF Fs j k ++ [l.getD k 0]) := (by
            have h := preF_next Fs j k
            rw [HL.out] at h
            exact h hkl : preF Fs j (k + 1) = preF Fs j k ++ [l.getD k 0])
          obtain ⟨d, hd⟩ : ∃ d, l.getD k 0 = d := ⟨_, rfl⟩
          rw [hd] at x0 x1 d1 d2 HPN
          have hpre := preF_pre Fs j (k + 1) hjl
          have hlen := hpre.length_le
          have hnd := hpre.sublist.nodup HFN.out
          rw [HPN.out] at hnd hlen
          have hnew : d ∉ preF Fs j k := fun hin => (List.nodup_append.1 hnd).2.2 d hin d (by simp) rfl
          have hlen2 : (preF Fs j k).length ≤ 100 := by rw [HFL.out] at hlen; simp only [List.length_append, List.length_cons, List.length_nil] at hlen; omega
          have hcd := code_d d1
          have hdA := dA_le d1 d2
          obtain ⟨M, hM⟩ : ∃ M, (preF Fs j k).length = M := ⟨_, rfl⟩
          have HMN : Hid ((preF Fs j (k + 1)).length = M + 1) := (by rw [HPN.out, List.length_append, hM]; rfl : (preF Fs j (k + 1)).length = M + 1)
          have hst2 := hst.out.1.stored (d + 1) (.bool true)
          rw [bools_set, mapB_one, ← HPN.out] at hst2
          have s0 := hst.out.1.cellAt (d + 1) (by omega)
          rw [bools_get _ (d + 1) (by rw [mapB_len]; omega), mapB_at _ _ _ (by omega), decide_eq_false (by
            intro hin
            obtain ⟨y, hy, e⟩ := List.mem_map.1 hin
            have : y = d := by omega
            rw [this] at hy
            exact hnew hy)] at s0
          have s1 := hst.out.1.frozenAt (d + 1)
          rw [hM] at hlen2 ⊢
          have hlb := (hst.out.1.lt w3.heap.size rfl).2
          clear hd hpre hlen hnd hnew hM q2
          have hki : (k : Int) < (l.length : Int) := by omega
          have hdk : decide ((k : Int) < (l.length : Int)) = true := decide_eq_true hki
          have hdk2 : decide (k < l.length) = true := decide_eq_true hkl
          obtain ⟨A, hA⟩ : ∃ A, dA d = A := ⟨_, rfl⟩
          obtain ⟨p, hp⟩ : ∃ p, dB d = p := ⟨_, rfl⟩
          rw [hA] at x0 hcd hdA
          rw [hp] at x1 hcd
          clear hA hp
          obtain ⟨D1, hD1⟩ : ∃ D1, d + 1 = D1 := ⟨_, rfl⟩
          have HD1 : Hid (d + 1 = D1) := hD1
          rw [hD1] at hcd s0 s1 hst2
          have t1 : decide (((D1 : Nat) : Int) < 2) = false := decide_eq_false (by omega)
          have t2 : decide (4 * (C.length : Int) + 2 ≤ ((D1 : Nat) : Int)) = false := decide_eq_false (by omega)
          have t3 : (0 : Int) ≤ (D1 : Int) := by omega
          have t4 : (D1 : Int) < ((4 * C.length + 2 : Nat) : Int) := by omega
          have t5 : (D1 : Int) < 4 * (C.length : Int) + 2 := by omega
          have wn : IntKind.i64.wrap (4 * (C.length : Int) + 2) = 4 * (C.length : Int) + 2 := IntWalk.i64_in _ (by omega)
          have wm : IntKind.i64.wrap ((M : Int) + 1) = (M : Int) + 1 := IntWalk.i64_in _ (by omega)
          cases p with
          | true =>
            have e1 : IntKind.i64.wrap (2 * (A : Int)) = (d : Int) := by rw [IntWalk.i64_in _ (by omega)]; simp only [if_true] at hcd; omega
            have e2 : IntKind.i64.wrap ((d : Int) + 1) = ((D1 : Nat) : Int) := by rw [IntWalk.i64_in _ (by omega)]; omega
            clear hcd
            go_upto_region 16 with (fail)
            obtain ⟨Y, hY⟩ : ∃ Y, Y = W6.alloc (.cells #[.int .i64 (A : Nat), .bool true] 44) := ⟨_, rfl⟩
            rw [← hY]
            have hbY : Below W6.heap.size W6 Y := by rw [hY]; exact (Below.refl _ _).alloc (Nat.le_refl _) _
            have hTY : Y.heap[W6.heap.size]? = some (.cells #[.int .i64 (A : Nat), .bool true] 44 (0, 0)) := by rw [hY]; exact alloc_at rfl
            have y0 : Y.cell? ⟨W6.heap.size, 0, none⟩ = some (.int .i64 (A : Nat)) := block_cell hTY rfl
            have y1 : Y.cell? ⟨W6.heap.size, 1, none⟩ = some (.bool true) := block_cell hTY rfl
            have ly : W6.heap.size < Y.heap.size := (Array.getElem?_eq_some_iff.1 hTY).1
            have HRY : Hid (Y.ownsRow w3.heap.size 4 1 (.slice (some ⟨w3.heap.size, 0, none⟩) (4 * C.length + 2) (4 * C.length + 2)) (4 * C.length + 2) (bools (mapB (4 * C.length + 2) fun c => decide (c ∈ (preF Fs j k).map (· + 1)))) ∧ Below w3.heap.size w3 Y) := ⟨own_any hst.out.1 (grown_below hbY none), hst.out.2.trans (hbY.mono hsz6)⟩
            have z0 : Y.cell? ⟨w3.heap.size, D1, none⟩ = some (.bool false) := bcell hbY hlb s0
            have z1 : Y.frozen? ⟨w3.heap.size, D1, none⟩ = false := HRY.out.1.frozenAt D1
            have lz : w3.heap.size < Y.heap.size := by omega
            clear hY hbY hTY x0 x1 q0 s0 s1 hst2
            have hst3 := HRY.out.1.stored D1 (.bool true)
            rw [bools_set, ← HD1.out, mapB_one, ← HPN.out, HD1.out] at hst3
            have HNX : Hid ((Y.setCell ⟨w3.heap.size, D1, none⟩ (.bool true)).ownsRow w3.heap.size 4 1 (.slice (some ⟨w3.heap.size, 0, none⟩) (4 * C.length + 2) (4 * C.length + 2)) (4 * C.length + 2) (bools (mapB (4 * C.length + 2) fun c => decide (c ∈ (preF Fs j (k + 1)).map (· + 1)))) ∧ Below w3.heap.size w3 (Y.setCell ⟨w3.heap.size, D1, none⟩ (.bool true))) := ⟨hst3.1, HRY.out.2.grown hst3.2 (by omega) (fun q hq => by have := Option.some.inj hq; omega)⟩
            clear hst3
            go_wp2
            go_roundw
            case rel => exact ⟨k + 1, by omega, by go_num, by rw [HMN.out]; go_num, HNX.out⟩
            case measure => simp only [intOf]; omega
          | false =>
            have e1 : IntKind.i64.wrap (2 * (A : Int)) = ((D1 : Nat) : Int) := by rw [IntWalk.i64_in _ (by omega)]; simp only [Bool.false_eq_true, if_false] at hcd; omega
            clear hcd
            go_upto_region 16 with (fail)
            obtain ⟨Y, hY⟩ : ∃ Y, Y = W6.alloc (.cells #[.int .i64 (A : Nat), .bool false] 44) := ⟨_, rfl⟩
            rw [← hY]
            have hbY : Below W6.heap.size W6 Y := by rw [hY]; exact (Below.refl _ _).alloc (Nat.le_refl _) _
            have hTY : Y.heap[W6.heap.size]? = some (.cells #[.int .i64 (A : Nat), .bool false] 44 (0, 0)) := by rw [hY]; exact alloc_at rfl
            have y0 : Y.cell? ⟨W6.heap.size, 0, none⟩ = some (.int .i64 (A : Nat)) := block_cell hTY rfl
            have y1 : Y.cell? ⟨W6.heap.size, 1, none⟩ = some (.bool false) := block_cell hTY rfl
            have ly : W6.heap.size < Y.heap.size := (Array.getElem?_eq_some_iff.1 hTY).1
            have HRY : Hid (Y.ownsRow w3.heap.size 4 1 (.slice (some ⟨w3.heap.size, 0, none⟩) (4 * C.length + 2) (4 * C.length + 2)) (4 * C.length + 2) (bools (mapB (4 * C.length + 2) fun c => decide (c ∈ (preF Fs j k).map (· + 1)))) ∧ Below w3.heap.size w3 Y) := ⟨own_any hst.out.1 (grown_below hbY none), hst.out.2.trans (hbY.mono hsz6)⟩
            have z0 : Y.cell? ⟨w3.heap.size, D1, none⟩ = some (.bool false) := bcell hbY hlb s0
            have z1 : Y.frozen? ⟨w3.heap.size, D1, none⟩ = false := HRY.out.1.frozenAt D1
            have lz : w3.heap.size < Y.heap.size := by omega
            clear hY hbY hTY x0 x1 q0 s0 s1 hst2
            have hst3 := HRY.out.1.stored D1 (.bool true)
            rw [bools_set, ← HD1.out, mapB_one, ← HPN.out, HD1.out] at hst3
            have HNX : Hid ((Y.setCell ⟨w3.heap.size, D1, none⟩ (.bool true)).ownsRow w3.heap.size 4 1 (.slice (some ⟨w3.heap.size, 0, none⟩) (4 * C.length + 2) (4 * C.length + 2)) (4 * C.length + 2) (bools (mapB (4 * C.length + 2) fun c => decide (c ∈ (preF Fs j (k + 1)).map (· + 1)))) ∧ Below w3.heap.size w3 (Y.setCell ⟨w3.heap.size, D1, none⟩ (.bool true))) := ⟨hst3.1, HRY.out.2.grown hst3.2 (by omega) (fun q hq => by have := Option.some.inj hq; omega)⟩
            clear hst3
            go_wp2
            go_roundw
            case rel => exact ⟨k + 1, by omega, by go_num, by rw [HMN.out]; go_num, HNX.out⟩
            case measure => simp only [intOf]; omega
        · obtain rfl : k = l.length := by omega
          have HPR : Hid (preF Fs j l.length = preF Fs (j + 1) 0) := (by
            have h := preF_row Fs j hjl
            rw [HL.out] at h
            exact h : preF Fs j l.length = preF Fs (j + 1) 0)
          have HNX : Hid (W6.ownsRow w3.heap.size 4 1 (.slice (some ⟨w3.heap.size, 0, none⟩) (4 * C.length + 2) (4 * C.length + 2)) (4 * C.length + 2) (bools (mapB (4 * C.length + 2) fun c => decide (c ∈ (preF Fs (j + 1) 0).map (· + 1)))) ∧ Below w3.heap.size w3 W6) := (by rw [← HPR.out]; exact hst.out : W6.ownsRow w3.heap.size 4 1 (.slice (some ⟨w3.heap.size, 0, none⟩) (4 * C.length + 2) (4 * C.length + 2)) (4 * C.length + 2) (bools (mapB (4 * C.length + 2) fun c => decide (c ∈ (preF Fs (j + 1) 0).map (· + 1)))) ∧ Below w3.heap.size w3 W6)
          rw [HPR.out]
          go_wp2
          go_roundw
          case rel => exact ⟨j + 1, by omega, by go_num, rfl, HNX.out⟩
          case measure => simp only [intOf]; omega
    · obtain rfl : j = Fs.length := by omega
      have HTOT : Hid ((preF Fs Fs.length 0).length = 4 * C.length) := (by unfold preF; rw [List.take_zero, List.append_nil, List.take_length]; exact HFL.out : (preF Fs Fs.length 0).length = 4 * C.length)
      rw [HTOT.out]
      have hq : (((4 * C.length : Nat) : Int) == 4 * (C.length : Int)) = true := by simp
      have HB5 : Hid (Below w.heap.size w W5) := HBW.out.trans ((H3.out.trans (hst.out.2.mono hs3)).mono HBW.out.size)
      go_wp2
      go_ret
      exact ⟨by first | rfl | simp, HB5.out⟩

theorem codeDarts_any (v : Value) (C : List Cr) (loops : Int) (w : World) (h : Crs w w.heap.size v C) :
    Calls Try.prog 4 #[.agg #[v, .int .i64 loops]] w fun e w' => e = .returned (.bool true) ∧ Below w.heap.size w w' := by
  cases hm : mayD C loops with
  | false => exact codeDarts_no v C loops w hm h
  | true => exact codeDarts_yes v C loops w hm h
end Go.Proofs.Ytdbpiggohncjiaa
