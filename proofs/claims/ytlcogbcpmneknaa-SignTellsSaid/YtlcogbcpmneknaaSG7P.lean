/- Several texts of the proof, one behind the other. -/
import Derived.Test.YtlcogbcpmneknaaSG5P
import Derived.Test.YtlcogbcpmneknaaAS0P
/- The walks of sign.chart.places and of sign.square. -/
namespace Go.Proofs.Ytlcogbcpmneknaa
open Go.RowKit Go.Maps

/-- How many faces ahead of f have the shade; the places of faces. -/
def cnS (s : Nat → Nat) (sh f : Nat) : Nat := (List.range f).countP fun g => decide (s g = sh)
theorem cnS_next (s : Nat → Nat) (sh f : Nat) : cnS s sh (f + 1) = cnS s sh f + (if s f = sh then 1 else 0) := by
  unfold cnS
  rw [List.range_succ, List.countP_append, List.countP_singleton]
  by_cases h : s f = sh <;> simp [h]
theorem cnS_le (s : Nat → Nat) (sh : Nat) : ∀ f, cnS s sh f ≤ f
  | 0 => Nat.le_refl _
  | f + 1 => by
    have h := cnS_le s sh f
    rw [cnS_next]
    split <;> omega
theorem cnS_lt (s : Nat → Nat) (sh : Nat) {f F : Nat} (hf : f < F) (h : s f = sh) : cnS s sh f < cnS s sh F := by
  induction F with
  | zero => omega
  | succ F ih =>
    rw [cnS_next]
    rcases Nat.lt_or_ge f F with q | q
    · have := ih q
      omega
    · have e : f = F := by omega
      subst e
      rw [if_pos h]
      omega
def plF (s : Nat → Nat) (sh f : Nat) : Int := if s f = sh then ((cnS s sh f : Nat) : Int) else 0

set_option maxHeartbeats 8000000 in
set_option maxRecDepth 100000 in
theorem places_any (a : Option Addr) (cap : Nat) (C : List Cr) (loops : Int) (gF cF gT cT gM gS : Nat) (s : Nat → Nat) (sh : Nat) (w : World) (hF9 : (facesM C).length ≤ 18) (h : Ch w a cap C gF gT gM gS (shL s (facesM C).length)) :
    Calls Try.prog 28 #[chV a cap C loops gF cF gT cT gM gS, .int .i64 (sh : Nat)] w fun e w' => ∃ gP, e = .returned (.tuple #[.slice (some ⟨gP, 0, none⟩) (facesM C).length (facesM C).length, .int .i64 (cnS s sh (facesM C).length : Nat)]) ∧ w'.ownsRow w.heap.size 3 1 (.slice (some ⟨gP, 0, none⟩) (facesM C).length (facesM C).length) (facesM C).length (intsV (mapI (facesM C).length (plF s sh))) ∧ Below w.heap.size w w' := by
  have HSD := hidS (fun (W : World) (hW : Below w.heap.size w W) => (h.on hW).shade)
  have hgl := h.lt.2.2.2.1
  unfold chV
  obtain ⟨F, hF⟩ : ∃ F, (facesM C).length = F := ⟨_, rfl⟩
  rw [hF] at HSD hF9 ⊢
  obtain ⟨i2, hk, hx0, hx1, hx2⟩ := info_parts infoIntS
  obtain ⟨V, hV⟩ : ∃ V, w.alloc (.cells #[.slice a C.length cap, .int .i64 loops, .slice (some ⟨gF, 0, none⟩) (2 * C.length + 1) cF, .slice (some ⟨gT, 0, none⟩) (2 * C.length + 1) cT, .map (some gM), .slice (some ⟨gS, 0, none⟩) F F] 43) = V := ⟨_, rfl⟩
  have hB : Below w.heap.size w V := by rw [← hV]; exact (Below.refl _ _).alloc (Nat.le_refl _) _
  have k0 : V.heap[w.heap.size]? = some (.cells #[.slice a C.length cap, .int .i64 loops, .slice (some ⟨gF, 0, none⟩) (2 * C.length + 1) cF, .slice (some ⟨gT, 0, none⟩) (2 * C.length + 1) cT, .map (some gM), .slice (some ⟨gS, 0, none⟩) F F] 43 (0, 0)) := by rw [← hV]; exact alloc_at rfl
  have lV : w.heap.size < V.heap.size := by rw [← hV]; simp
  have sV : w.heap.size + 1 ≤ V.heap.size := by rw [← hV]; simp
  have c5 : V.cell? ⟨w.heap.size, 5, none⟩ = some (.slice (some ⟨gS, 0, none⟩) F F) := block_cell k0 rfl
  have HV := hidS hV
  have HB := hidS hB
  have HK0 := hidS k0
  clear h hV hB k0 hF
  go_enter Try.func28, Try.ntmps28
  go_upto_region 1 with (fail)
  rw [HV.out]
  go_upto_region 2 with (first
    | (at_make; refine wpList_make_full _ rfl _ _ 41 rfl V.heap.size 3 i2 (.int .i64 0) 1 Try.underlying41 hk hx0 hx1 .i64 .i64 _ _ F rfl rfl rfl rfl (by rw [hx2]; omega) (by unfold maxLen; omega) (by simp) ?_; intro w4 hrow4 hg4
       have HR4 := hidS hrow4
       have HG4 := hidS hg4
       have s4 := hg4.size
       clear hrow4 hg4))
  obtain ⟨gP, hgP⟩ : ∃ gP, V.heap.size = gP := ⟨_, rfl⟩
  rw [hgP] at HR4 ⊢
  have k4 := (HG4.out.block _ lV (by simp)).trans HK0.out
  have c4 : w4.cell? ⟨w.heap.size, 5, none⟩ = some (.slice (some ⟨gS, 0, none⟩) F F) := block_cell k4 rfl
  have l4 : w.heap.size < w4.heap.size := by omega
  have HB4 : Hid (Below w.heap.size w w4) := HB.out.grown HG4.out (by omega) (fun q hq => by cases hq)
  have hgp4 := (HR4.out.lt gP rfl).2
  have HS0 : Hid (∃ M : List Int, M.length = F ∧ (∀ f, f < 0 → M.getD f 0 = plF s sh f) ∧ (∀ f, M.getD f 0 = 0 ∨ f < 0) ∧ w4.ownsRow w.heap.size 3 1 (.slice (some ⟨gP, 0, none⟩) F F) F (intsV M) ∧ Below w.heap.size w w4 ∧ w4.heap.size ≤ w4.heap.size) := (by
    have hr := HR4.out
    rw [made_intsS] at hr
    exact ⟨_, by simp, fun f hf => absurd hf (Nat.not_lt_zero _), fun f => Or.inl (by
      rw [List.getD_eq_getElem?_getD, List.getElem?_replicate]
      split <;> rfl), own_low hr (by omega), HB4.out, Nat.le_refl _⟩)
  clear c5 k4
  go_upto_region 3 with (fail)
  clear c4
  go_wp2
  go_loopw [5, 15] (fun v5 v15 wr => ∃ i : Nat, i ≤ F ∧ v15 = .int .i64 (i : Nat) ∧ v5 = .int .i64 (cnS s sh i : Nat) ∧ Hid (∃ M : List Int, M.length = F ∧ (∀ f, f < i → M.getD f 0 = plF s sh f) ∧ (∀ f, M.getD f 0 = 0 ∨ f < i) ∧ wr.ownsRow w.heap.size 3 1 (.slice (some ⟨gP, 0, none⟩) F F) F (intsV M) ∧ Below w.heap.size w wr ∧ w4.heap.size ≤ wr.heap.size)) (fun _ v15 _ => F - (intOf v15).toNat)
  case atStart => exact ⟨0, Nat.zero_le _, rfl, rfl, HS0⟩
  case round =>
    clear HS0
    rename World => W1
    obtain ⟨i, hi, rfl, rfl, hin⟩ := hrel
    by_cases hil : i < F
    · have hii : (i : Int) < (F : Int) := by omega
      have hii0 : (0 : Int) ≤ (i : Int) := by omega
      have hadd : IntKind.i64.wrap ((i : Int) + 1) = (i : Int) + 1 := IntWalk.i64_in _ (by omega)
      obtain ⟨M, hMl, hMi, hM0, hMo, hMb, hMs⟩ := hin.out
      obtain ⟨n, hn⟩ : ∃ n, cnS s sh i = n := ⟨_, rfl⟩
      have hnx := cnS_next s sh i
      have hnle := cnS_le s sh i
      rw [hn] at hnx hnle ⊢
      have hadd2 : IntKind.i64.wrap ((n : Int) + 1) = (n : Int) + 1 := IntWalk.i64_in _ (by omega)
      have c8 := HSD.out W1 hMb i hil
      have ls : gS < W1.heap.size := by have := hMb.size; omega
      obtain ⟨z, hz⟩ : ∃ z, s i = z := ⟨_, rfl⟩
      rw [hz] at c8
      have HMl := hidS hMl
      have HMi := hidS hMi
      have HM0 := hidS hM0
      have HMb := hidS hMb
      have HMo := hidS hMo
      have HMs := hidS hMs
      have HNX := hidS hnx
      have HZ := hidS hz
      have HN := hidS hn
      by_cases hzs : z = sh
      · have hze : ((z : Int) == (sh : Int)) = true := by rw [hzs]; simp
        have lp : gP < W1.heap.size := (hMo.lt gP rfl).2
        have y0 : W1.cell? ⟨gP, i, none⟩ = some (.int .i64 (M.getD i 0)) := (hMo.cellAt i (by omega)).trans (intsV_get M i (by omega))
        have z0 : W1.frozen? ⟨gP, i, none⟩ = false := hMo.frozenAt i
        have hst := hMo.stored i (.int .i64 (n : Nat))
        rw [intsV_set] at hst
        have HNW : Hid (∃ M' : List Int, M'.length = F ∧ (∀ f, f < i + 1 → M'.getD f 0 = plF s sh f) ∧ (∀ f, M'.getD f 0 = 0 ∨ f < i + 1) ∧ (W1.setCell ⟨gP, i, none⟩ (.int .i64 (n : Nat))).ownsRow w.heap.size 3 1 (.slice (some ⟨gP, 0, none⟩) F F) F (intsV M') ∧ Below w.heap.size w (W1.setCell ⟨gP, i, none⟩ (.int .i64 (n : Nat))) ∧ w4.heap.size ≤ (W1.setCell ⟨gP, i, none⟩ (.int .i64 (n : Nat))).heap.size) := (by
          refine ⟨M.set i (n : Nat), by rw [List.length_set]; exact HMl.out, fun f hf => ?_, fun f => ?_, hst.1, HMb.out.grown hst.2 HMb.out.size (fun q hq => by have := (HMo.out.lt gP rfl).1; have := Option.some.inj hq; omega), Nat.le_trans HMs.out hst.2.size⟩
          · rw [getS_put]
            by_cases e : i = f ∧ i < M.length
            · rw [if_pos e, ← e.1]
              unfold plF
              rw [HZ.out, if_pos hzs, HN.out]
            · rw [if_neg e]
              refine HMi.out f ?_
              rcases Nat.lt_or_ge f i with q | q
              · exact q
              · exact absurd ⟨by omega, by rw [HMl.out]; omega⟩ e
          · rw [getS_put]
            by_cases e : i = f ∧ i < M.length
            · exact Or.inr (by omega)
            · rw [if_neg e]
              rcases HM0.out f with q | q
              · exact Or.inl q
              · exact Or.inr (by omega))
        have hnn : cnS s sh (i + 1) = n + 1 := by rw [HNX.out, HZ.out, if_pos hzs]
        have HNN := hidS hnn
        clear hin hMl hMi hM0 hMo hMb hMs hnx hz hn hst hzs hnn
        go_wp2
        go_roundw
        all_goals first
          | (simp only [intOf]; omega)
          | exact ⟨i + 1, by omega, by go_num, by rw [HNN.out]; go_num, HNW⟩
      · have hze : ((z : Int) == (sh : Int)) = false := beq_eq_false_iff_ne.2 (by omega)
        have HNW : Hid (∃ M' : List Int, M'.length = F ∧ (∀ f, f < i + 1 → M'.getD f 0 = plF s sh f) ∧ (∀ f, M'.getD f 0 = 0 ∨ f < i + 1) ∧ W1.ownsRow w.heap.size 3 1 (.slice (some ⟨gP, 0, none⟩) F F) F (intsV M') ∧ Below w.heap.size w W1 ∧ w4.heap.size ≤ W1.heap.size) := (by
          refine ⟨M, HMl.out, fun f hf => ?_, fun f => (HM0.out f).imp id (fun q => by omega), HMo.out, HMb.out, HMs.out⟩
          rcases Nat.lt_or_ge f i with q | q
          · exact HMi.out f q
          · have e : f = i := by omega
            subst e
            unfold plF
            rw [HZ.out, if_neg hzs]
            rcases HM0.out f with q | q
            · exact q
            · omega)
        have hnn : cnS s sh (i + 1) = n := by rw [HNX.out, HZ.out, if_neg hzs]; omega
        have HNN := hidS hnn
        clear hin hMl hMi hM0 hMo hMb hMs hnx hz hn hzs hnn
        go_wp2
        go_roundw
        all_goals first
          | (simp only [intOf]; omega)
          | exact ⟨i + 1, by omega, by go_num, by rw [HNN.out], HNW⟩
    · obtain rfl : i = F := by omega
      obtain ⟨M, hMl, hMi, -, hMo, hMb, -⟩ := hin.out
      have hMM : M = mapI i (plF s sh) := by
        apply List.ext_getElem?
        intro j
        by_cases hj : j < i
        · have e := hMi j hj
          rw [List.getD_eq_getElem?_getD, List.getElem?_eq_getElem (by omega)] at e
          have e2 := mapI_at i (plF s sh) j hj
          rw [List.getD_eq_getElem?_getD, List.getElem?_eq_getElem (by rw [mapI_len]; exact hj)] at e2
          rw [List.getElem?_eq_getElem (by omega), List.getElem?_eq_getElem (by rw [mapI_len]; exact hj)]
          simp only [Option.getD_some] at e e2
          rw [e, e2]
        · rw [List.getElem?_eq_none (by omega), List.getElem?_eq_none (by rw [mapI_len]; omega)]
      rw [hMM] at hMo
      have HMo := hidS hMo
      have HMb := hidS hMb
      clear hin hMl hMi hMo hMb hMM
      go_wp2
      refine bodyPost_ret (v := .tuple #[.slice (some ⟨gP, 0, none⟩) i i, .int .i64 (cnS s sh i : Nat)]) (by simp [results, Try.results28, go_sem]) rfl ⟨gP, rfl, HMo.out, HMb.out⟩
end Go.Proofs.Ytlcogbcpmneknaa
/- The walk of sign.square; Goeritz's table as it grows. -/
namespace Go.Proofs.Ytlcogbcpmneknaa
open Go.RowKit Go.Maps

set_option maxHeartbeats 8000000 in
set_option maxRecDepth 100000 in
theorem squareS_any (m : Nat) (w : World) (hm : m ≤ 100) :
    Calls Try.prog 29 #[.int .i64 (m : Nat)] w fun e w' => ∃ gt gs, e = .returned (.slice (some ⟨gt, 0, none⟩) m m) ∧ TabAt w.heap.size gt m gs m (fun _ _ => 0) w' ∧ Below w.heap.size w w' := by
  obtain ⟨i0, hi, hz0, hz1, hz2⟩ := info_parts infoIntS
  obtain ⟨i1, hj, hy0, hy1, hy2⟩ := info_parts infoInts
  go_enter Try.func29, Try.ntmps29
  go_wp2_with (first | (at_make; refine wpList_make_full _ rfl _ _ 30 rfl w.heap.size 41 i1 (.slice none 0 0) 1 Try.underlying30 hj hy0 hy1 .i64 .i64 _ _ m rfl rfl rfl rfl (by rw [hy2]; omega) (by unfold maxLen; omega) (by simp) ?_; intro w2 hrow2 hg2; refine Hid.out ?_))
  refine Lib.hid ?_
  rw [made_nils] at hrow2
  obtain ⟨gt, hgt⟩ : ∃ gt, w.heap.size = gt := ⟨_, rfl⟩
  have HT2 : Hid (TabAt w.heap.size gt m (fun _ => 0) 0 (fun _ _ => 0) w2) := ⟨by rw [← hgt]; exact hrow2, fun i hi => absurd hi (Nat.not_lt_zero _), fun i j hi => absurd hi (Nat.not_lt_zero _)⟩
  have HB2 := hidS ((Below.refl w.heap.size w).grown hg2 (Nat.le_refl _) (fun k hk => by cases hk))
  have HGT := hidS hgt
  have hgt2 : w.heap.size ≤ gt := by omega
  rw [hgt]
  clear hrow2 hg2 hgt
  go_wp2
  go_loopw [9] (fun v9 wr => ∃ (i : Nat) (gs : Nat → Nat), i ≤ m ∧ v9 = .int .i64 (i : Nat) ∧ Hid (TabAt w.heap.size gt m gs i (fun _ _ => 0) wr) ∧ Hid (Below w.heap.size w wr)) (fun v9 _ => m - (intOf v9).toNat)
  case atStart => exact ⟨0, fun _ => 0, Nat.zero_le _, rfl, HT2.out, HB2.out⟩
  case round =>
    clear HT2 HB2
    rename World => W1
    obtain ⟨i, gs, hin, rfl, htab, hbW⟩ := hrel
    have hsW := hbW.out.size
    by_cases hil : i < m
    · have hii : (i : Int) < (m : Int) := by omega
      go_wp2_with (first | (at_make; refine wpList_make_full _ rfl _ _ 41 rfl w.heap.size 3 i0 (.int .i64 0) 1 Try.underlying41 hi hz0 hz1 .i64 .i64 _ _ m rfl rfl rfl rfl (by rw [hz2]; omega) (by unfold maxLen; omega) (by omega) ?_; intro w4 hrow4 hg4; refine Hid.out ?_))
      refine Lib.hid ?_
      obtain ⟨g, hg⟩ : ∃ g, W1.heap.size = g := ⟨_, rfl⟩
      rw [made_zero, hg] at hrow4
      rw [hg]
      have hmore := htab.out.more hg4 (by rw [mapI_zero m (fun _ => 0) (fun _ _ => rfl)]; exact hrow4) (by omega)
      have HMO : Hid (TabAt w.heap.size gt m (fun j => if j = i then g else gs j) (i + 1) (fun _ _ => 0) (w4.setCell ⟨gt, i, none⟩ (.slice (some ⟨g, 0, none⟩) m m))) := hmore.1
      have ho4 := own_any htab.out.outer hg4
      have e0 := ho4.cellAt i (by omega)
      rw [outC0_get m gs i i hil, if_neg (by omega)] at e0
      have z0 := ho4.frozenAt i
      have hl4 := (ho4.lt gt rfl).2
      have HBN : Hid (Below w.heap.size w (w4.setCell ⟨gt, i, none⟩ (.slice (some ⟨g, 0, none⟩) m m))) := (hbW.out.grown hg4 hsW (fun k hk => by cases hk)).grown hmore.2 (Nat.le_trans hsW hg4.size) (fun k hk => by have : gt = k := Option.some.inj hk; omega)
      clear hrow4 hg4 hmore ho4 hg
      go_wp2
      go_roundw
      all_goals first
        | (simp only [intOf]; omega)
        | exact ⟨i + 1, _, by omega, by go_num, HMO.out, HBN.out⟩
    · obtain rfl : i = m := by omega
      have HTB := hidS htab.out
      have HBB := hidS hbW.out
      clear htab hbW
      go_wp2
      go_ret
      exact ⟨gt, gs, rfl, HTB.out, HBB.out⟩

def up1 (T : Nat → Nat → Int) (i j : Nat) (x : Int) : Nat → Nat → Int := fun a b => if a = i ∧ b = j then x else T a b
/-- What a crossing adds to the table. -/
def goA (T : Nat → Nat → Int) (i j : Nat) (v : Int) : Nat → Nat → Int := up1 T i j (T i j - v)
def goB (T : Nat → Nat → Int) (i j : Nat) (v : Int) : Nat → Nat → Int := up1 (goA T i j v) j i (goA T i j v j i - v)
def goC (T : Nat → Nat → Int) (i j : Nat) (v : Int) : Nat → Nat → Int := up1 (goB T i j v) i i (goB T i j v i i + v)
def goD (T : Nat → Nat → Int) (i j : Nat) (v : Int) : Nat → Nat → Int := up1 (goC T i j v) j j (goC T i j v j j + v)
def goS (T : Nat → Nat → Int) (i j : Nat) (v : Int) : Nat → Nat → Int := if i = j then T else goD T i j v
/-- The table behind c crossings, and the correction. -/
def goT (C : List Cr) (s : Nat → Nat) (sh : Nat) : Nat → Nat → Nat → Int
  | 0 => fun _ _ => 0
  | c + 1 => goS (goT C s sh c) (cnS s sh (woM C s c sh).2.1) (cnS s sh (woM C s c sh).2.2) (woM C s c sh).1
def goF (C : List Cr) (s : Nat → Nat) (sh : Nat) : Nat → Int
  | 0 => 0
  | c + 1 => goF C s sh c + (if (C.getD c Cr.none).plus = decide ((woM C s c sh).1 < 0) then (woM C s c sh).1 else 0)
theorem up1_le {T : Nat → Nat → Int} {i j : Nat} {x B : Int} (h : ∀ a b, -B ≤ T a b ∧ T a b ≤ B) (hx : -B - 1 ≤ x ∧ x ≤ B + 1) : ∀ a b, -(B + 1) ≤ up1 T i j x a b ∧ up1 T i j x a b ≤ B + 1 := fun a b => by
  unfold up1
  have := h a b
  split <;> omega
theorem woM_one (C : List Cr) (s : Nat → Nat) (c sh : Nat) : (woM C s c sh).1 = 1 ∨ (woM C s c sh).1 = -1 := by
  unfold woM
  split
  · exact Or.inl rfl
  · exact Or.inr rfl
theorem goD_le {T : Nat → Nat → Int} {i j : Nat} {v B : Int} (h : ∀ a b, -B ≤ T a b ∧ T a b ≤ B) (hv : v = 1 ∨ v = -1) : (∀ a b, -(B + 1) ≤ goA T i j v a b ∧ goA T i j v a b ≤ B + 1) ∧ (∀ a b, -(B + 2) ≤ goB T i j v a b ∧ goB T i j v a b ≤ B + 2) ∧ (∀ a b, -(B + 3) ≤ goC T i j v a b ∧ goC T i j v a b ≤ B + 3) ∧ (∀ a b, -(B + 4) ≤ goD T i j v a b ∧ goD T i j v a b ≤ B + 4) := by
  have h1 : ∀ a b, -(B + 1) ≤ goA T i j v a b ∧ goA T i j v a b ≤ B + 1 := up1_le h (by have := h i j; omega)
  have h2 : ∀ a b, -(B + 1 + 1) ≤ goB T i j v a b ∧ goB T i j v a b ≤ B + 1 + 1 := up1_le h1 (by have := h1 j i; omega)
  have h3 : ∀ a b, -(B + 1 + 1 + 1) ≤ goC T i j v a b ∧ goC T i j v a b ≤ B + 1 + 1 + 1 := up1_le h2 (by have := h2 i i; omega)
  have h4 : ∀ a b, -(B + 1 + 1 + 1 + 1) ≤ goD T i j v a b ∧ goD T i j v a b ≤ B + 1 + 1 + 1 + 1 := up1_le h3 (by have := h3 j j; omega)
  exact ⟨h1, fun a b => by have := h2 a b; omega, fun a b => by have := h3 a b; omega, fun a b => by have := h4 a b; omega⟩
theorem goT_le (C : List Cr) (s : Nat → Nat) (sh : Nat) : ∀ (c a b : Nat), -(4 * (c : Int)) ≤ goT C s sh c a b ∧ goT C s sh c a b ≤ 4 * (c : Int)
  | 0, a, b => by simp [goT]
  | c + 1, a, b => by
    have ih := goT_le C s sh c
    have h := (goD_le (i := cnS s sh (woM C s c sh).2.1) (j := cnS s sh (woM C s c sh).2.2) ih (woM_one C s c sh)).2.2.2 a b
    show _ ≤ goS _ _ _ _ a b ∧ goS _ _ _ _ a b ≤ _
    unfold goS
    have i2 := ih a b
    split
    · omega
    · omega
theorem goF_le (C : List Cr) (s : Nat → Nat) (sh : Nat) : ∀ c : Nat, -(c : Int) ≤ goF C s sh c ∧ goF C s sh c ≤ (c : Int)
  | 0 => by simp [goF]
  | c + 1 => by
    have ih := goF_le C s sh c
    have h := woM_one C s c sh
    show _ ≤ goF C s sh c + _ ∧ goF C s sh c + _ ≤ _
    split <;> omega
/-- Across a crossing's arcs the shade changes. -/
theorem cor_turn {C : List Cr} {loops : Int} {s : Nat → Nat} (hm : mayD C loops = true) (hs : Shd C s) (c t : Nat) (hc : c < C.length) (ht : t < 4) : s (cor C c ((t + 3) % 4)) = 1 - s (cor C c t) := by
  have h := en_side hm c t hc ht
  have u := mk_le (p := (C.getD c Cr.none).comes t) h.2.2.1 h.2.2.2
  have hb := cor_back hm c t hc ht
  have ha := hs.arc _ u.1 u.2
  have e : tn (mkD (aAt C c t) ((C.getD c Cr.none).comes t)) = mkD (aAt C c t) (!(C.getD c Cr.none).comes t) := by
    unfold tn
    rw [dA_mk h.2.2.1, dB_mk h.2.2.1]
  rw [e, hb] at ha
  exact ha
theorem wo_shade {C : List Cr} {loops : Int} {s : Nat → Nat} (hm : mayD C loops = true) (hs : Shd C s) (c sh : Nat) (hc : c < C.length) (hsh : sh < 2) : s (woM C s c sh).2.1 = sh ∧ s (woM C s c sh).2.2 = sh ∧ (woM C s c sh).2.1 < (facesM C).length ∧ (woM C s c sh).2.2 < (facesM C).length := by
  have t1 := cor_turn hm hs c 1 hc (by decide)
  have t2 := cor_turn hm hs c 2 hc (by decide)
  have t3 := cor_turn hm hs c 3 hc (by decide)
  simp only [Nat.reduceAdd, Nat.reduceMod] at t1 t2 t3
  have a0 := hs.two (cor C c 0)
  have a1 := hs.two (cor C c 1)
  have a2 := hs.two (cor C c 2)
  have a3 := hs.two (cor C c 3)
  have l0 := cor_lt hm c 0 hc (by decide)
  have l1 := cor_lt hm c 1 hc (by decide)
  have l2 := cor_lt hm c 2 hc (by decide)
  have l3 := cor_lt hm c 3 hc (by decide)
  unfold woM
  split
  · exact ⟨by assumption, by simp only; omega, l1, l3⟩
  · exact ⟨by simp only; omega, by simp only; omega, l0, l2⟩
end Go.Proofs.Ytlcogbcpmneknaa
