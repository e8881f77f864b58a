/- The walks of sign.chart.places and of sign.square. -/
import Derived.Test.YtagaajlbkfkaiaaSG6
import Derived.Test.YtagaajlbkfkaiaaTabP
namespace Go.Proofs.Ytagaajlbkfkaiaa
open Go.RowKit Go.Maps

/-- How many faces ahead of f have the shade; the places of faces. -/
def cnS (s : Nat → Nat) (sh f : Nat) : Nat := (List.range f).countP fun g => decide (s g = sh)
theorem cnS_next (s : Nat → Nat) (sh f : Nat) : cnS s sh (f + 1) = cnS s sh f + (if s f = sh then 1 else 0) := by
  unfold cnS
  rw [List.range_succ, List.countP_append, List.countP_singleton]
  by_cases h : s f = sh <;> simp [h]
theorem cnS_le (s : Nat → Nat) (sh : Nat) : ∀ f, cnS s sh f ≤ f
  | 0 => Nat.le_refl _
  | f + 1 => by
    have h := cnS_le s sh f
    rw [cnS_next]
    split <;> omega
theorem cnS_lt (s : Nat → Nat) (sh : Nat) {f F : Nat} (hf : f < F) (h : s f = sh) : cnS s sh f < cnS s sh F := by
  induction F with
  | zero => omega
  | succ F ih =>
    rw [cnS_next]
    rcases Nat.lt_or_ge f F with q | q
    · have := ih q
      omega
    · have e : f = F := by omega
      subst e
      rw [if_pos h]
      omega
def plF (s : Nat → Nat) (sh f : Nat) : Int := if s f = sh then ((cnS s sh f : Nat) : Int) else 0

set_option maxHeartbeats 8000000 in
set_option maxRecDepth 100000 in
theorem places_any (a : Option Addr) (cap : Nat) (C : List Cr) (loops : Int) (gF cF gT cT gM gS : Nat) (s : Nat → Nat) (sh : Nat) (w : World) (hF9 : (facesM C).length ≤ 18) (h : Ch w a cap C gF gT gM gS (shL s (facesM C).length)) :
    Calls Try.prog 83 #[chV a cap C loops gF cF gT cT gM gS, .int .i64 (sh : Nat)] w fun e w' => ∃ gP, e = .returned (.tuple #[.slice (some ⟨gP, 0, none⟩) (facesM C).length (facesM C).length, .int .i64 (cnS s sh (facesM C).length : Nat)]) ∧ w'.ownsRow w.heap.size 3 1 (.slice (some ⟨gP, 0, none⟩) (facesM C).length (facesM C).length) (facesM C).length (intsV (mapI (facesM C).length (plF s sh))) ∧ Below w.heap.size w w' := by
  have HSD := hidS (fun (W : World) (hW : Below w.heap.size w W) => (h.on hW).shade)
  have hgl := h.lt.2.2.2.1
  unfold chV
  obtain ⟨F, hF⟩ : ∃ F, (facesM C).length = F := ⟨_, rfl⟩
  rw [hF] at HSD hF9 ⊢
  obtain ⟨i2, hk, hx0, hx1, hx2⟩ := info_parts infoIntS
  obtain ⟨V, hV⟩ : ∃ V, w.alloc (.cells #[.slice a C.length cap, .int .i64 loops, .slice (some ⟨gF, 0, none⟩) (2 * C.length + 1) cF, .slice (some ⟨gT, 0, none⟩) (2 * C.length + 1) cT, .map (some gM), .slice (some ⟨gS, 0, none⟩) F F] 89) = V := ⟨_, rfl⟩
  have hB : Below w.heap.size w V := by rw [← hV]; exact (Below.refl _ _).alloc (Nat.le_refl _) _
  have k0 : V.heap[w.heap.size]? = some (.cells #[.slice a C.length cap, .int .i64 loops, .slice (some ⟨gF, 0, none⟩) (2 * C.length + 1) cF, .slice (some ⟨gT, 0, none⟩) (2 * C.length + 1) cT, .map (some gM), .slice (some ⟨gS, 0, none⟩) F F] 89 (0, 0)) := by rw [← hV]; exact alloc_at rfl
  have lV : w.heap.size < V.heap.size := by rw [← hV]; simp
  have sV : w.heap.size + 1 ≤ V.heap.size := by rw [← hV]; simp
  have c5 : V.cell? ⟨w.heap.size, 5, none⟩ = some (.slice (some ⟨gS, 0, none⟩) F F) := block_cell k0 rfl
  have HV := hidS hV
  have HB := hidS hB
  have HK0 := hidS k0
  clear h hV hB k0 hF
  go_enter Try.func83, Try.ntmps83
  go_upto_region 1 with (fail)
  rw [HV.out]
  go_upto_region 2 with (first
    | (at_make; refine wpList_make_full _ rfl _ _ 46 rfl V.heap.size 3 i2 (.int .i64 0) 1 Try.underlying46 hk hx0 hx1 .i64 .i64 _ _ F rfl rfl rfl rfl (by rw [hx2]; omega) (by unfold maxLen; omega) (by simp) ?_; intro w4 hrow4 hg4
       have HR4 := hidS hrow4
       have HG4 := hidS hg4
       have s4 := hg4.size
       clear hrow4 hg4))
  obtain ⟨gP, hgP⟩ : ∃ gP, V.heap.size = gP := ⟨_, rfl⟩
  rw [hgP] at HR4 ⊢
  have k4 := (HG4.out.block _ lV (by simp)).trans HK0.out
  have c4 : w4.cell? ⟨w.heap.size, 5, none⟩ = some (.slice (some ⟨gS, 0, none⟩) F F) := block_cell k4 rfl
  have l4 : w.heap.size < w4.heap.size := by omega
  have HB4 : Hid (Below w.heap.size w w4) := HB.out.grown HG4.out (by omega) (fun q hq => by cases hq)
  have hgp4 := (HR4.out.lt gP rfl).2
  have HS0 : Hid (∃ M : List Int, M.length = F ∧ (∀ f, f < 0 → M.getD f 0 = plF s sh f) ∧ (∀ f, M.getD f 0 = 0 ∨ f < 0) ∧ w4.ownsRow w.heap.size 3 1 (.slice (some ⟨gP, 0, none⟩) F F) F (intsV M) ∧ Below w.heap.size w w4 ∧ w4.heap.size ≤ w4.heap.size) := (by
    have hr := HR4.out
    rw [made_intsS] at hr
    exact ⟨_, by simp, fun f hf => absurd hf (Nat.not_lt_zero _), fun f => Or.inl (by
      rw [List.getD_eq_getElem?_getD, List.getElem?_replicate]
      split <;> rfl), own_low hr (by omega), HB4.out, Nat.le_refl _⟩)
  clear c5 k4
  go_upto_region 3 with (fail)
  clear c4
  go_wp2
  go_loopw [5, 15] (fun v5 v15 wr => ∃ i : Nat, i ≤ F ∧ v15 = .int .i64 (i : Nat) ∧ v5 = .int .i64 (cnS s sh i : Nat) ∧ Hid (∃ M : List Int, M.length = F ∧ (∀ f, f < i → M.getD f 0 = plF s sh f) ∧ (∀ f, M.getD f 0 = 0 ∨ f < i) ∧ wr.ownsRow w.heap.size 3 1 (.slice (some ⟨gP, 0, none⟩) F F) F (intsV M) ∧ Below w.heap.size w wr ∧ w4.heap.size ≤ wr.heap.size)) (fun _ v15 _ => F - (intOf v15).toNat)
  case atStart => exact ⟨0, Nat.zero_le _, rfl, rfl, HS0⟩
  case round =>
    clear HS0
    rename World => W1
    obtain ⟨i, hi, rfl, rfl, hin⟩ := hrel
    by_cases hil : i < F
    · have hii : (i : Int) < (F : Int) := by omega
      have hii0 : (0 : Int) ≤ (i : Int) := by omega
      have hadd : IntKind.i64.wrap ((i : Int) + 1) = (i : Int) + 1 := IntWalk.i64_in _ (by omega)
      obtain ⟨M, hMl, hMi, hM0, hMo, hMb, hMs⟩ := hin.out
      obtain ⟨n, hn⟩ : ∃ n, cnS s sh i = n := ⟨_, rfl⟩
      have hnx := cnS_next s sh i
      have hnle := cnS_le s sh i
      rw [hn] at hnx hnle ⊢
      have hadd2 : IntKind.i64.wrap ((n : Int) + 1) = (n : Int) + 1 := IntWalk.i64_in _ (by omega)
      have c8 := HSD.out W1 hMb i hil
      have ls : gS < W1.heap.size := by have := hMb.size; omega
      obtain ⟨z, hz⟩ : ∃ z, s i = z := ⟨_, rfl⟩
      rw [hz] at c8
      have HMl := hidS hMl
      have HMi := hidS hMi
      have HM0 := hidS hM0
      have HMb := hidS hMb
      have HMo := hidS hMo
      have HMs := hidS hMs
      have HNX := hidS hnx
      have HZ := hidS hz
      have HN := hidS hn
      by_cases hzs : z = sh
      · have hze : ((z : Int) == (sh : Int)) = true := by rw [hzs]; simp
        have lp : gP < W1.heap.size := (hMo.lt gP rfl).2
        have y0 : W1.cell? ⟨gP, i, none⟩ = some (.int .i64 (M.getD i 0)) := (hMo.cellAt i (by omega)).trans (intsV_get M i (by omega))
        have z0 : W1.frozen? ⟨gP, i, none⟩ = false := hMo.frozenAt i
        have hst := hMo.stored i (.int .i64 (n : Nat))
        rw [intsV_set] at hst
        have HNW : Hid (∃ M' : List Int, M'.length = F ∧ (∀ f, f < i + 1 → M'.getD f 0 = plF s sh f) ∧ (∀ f, M'.getD f 0 = 0 ∨ f < i + 1) ∧ (W1.setCell ⟨gP, i, none⟩ (.int .i64 (n : Nat))).ownsRow w.heap.size 3 1 (.slice (some ⟨gP, 0, none⟩) F F) F (intsV M') ∧ Below w.heap.size w (W1.setCell ⟨gP, i, none⟩ (.int .i64 (n : Nat))) ∧ w4.heap.size ≤ (W1.setCell ⟨gP, i, none⟩ (.int .i64 (n : Nat))).heap.size) := (by
          refine ⟨M.set i (n : Nat), by rw [List.length_set]; exact HMl.out, fun f hf => ?_, fun f => ?_, hst.1, HMb.out.grown hst.2 HMb.out.size (fun q hq => by have := (HMo.out.lt gP rfl).1; have := Option.some.inj hq; omega), Nat.le_trans HMs.out hst.2.size⟩
          · rw [getS_put]
            by_cases e : i = f ∧ i < M.length
            · rw [if_pos e, ← e.1]
              unfold plF
              rw [HZ.out, if_pos hzs, HN.out]
            · rw [if_neg e]
              refine HMi.out f ?_
              rcases Nat.lt_or_ge f i with q | q
              · exact q
              · exact absurd ⟨by omega, by rw [HMl.out]; omega⟩ e
          · rw [getS_put]
            by_cases e : i = f ∧ i < M.length
            · exact Or.inr (by omega)
            · rw [if_neg e]
              rcases HM0.out f with q | q
              · exact Or.inl q
              · exact Or.inr (by omega))
        have hnn : cnS s sh (i + 1) = n + 1 := by rw [HNX.out, HZ.out, if_pos hzs]
        have HNN := hidS hnn
        clear hin hMl hMi hM0 hMo hMb hMs hnx hz hn hst hzs hnn
        go_wp2
        go_roundw
        all_goals first
          | (simp only [intOf]; omega)
          | exact ⟨i + 1, by omega, by go_num, by rw [HNN.out]; go_num, HNW⟩
      · have hze : ((z : Int) == (sh : Int)) = false := beq_eq_false_iff_ne.2 (by omega)
        have HNW : Hid (∃ M' : List Int, M'.length = F ∧ (∀ f, f < i + 1 → M'.getD f 0 = plF s sh f) ∧ (∀ f, M'.getD f 0 = 0 ∨ f < i + 1) ∧ W1.ownsRow w.heap.size 3 1 (.slice (some ⟨gP, 0, none⟩) F F) F (intsV M') ∧ Below w.heap.size w W1 ∧ w4.heap.size ≤ W1.heap.size) := (by
          refine ⟨M, HMl.out, fun f hf => ?_, fun f => (HM0.out f).imp id (fun q => by omega), HMo.out, HMb.out, HMs.out⟩
          rcases Nat.lt_or_ge f i with q | q
          · exact HMi.out f q
          · have e : f = i := by omega
            subst e
            unfold plF
            rw [HZ.out, if_neg hzs]
            rcases HM0.out f with q | q
            · exact q
            · omega)
        have hnn : cnS s sh (i + 1) = n := by rw [HNX.out, HZ.out, if_neg hzs]; omega
        have HNN := hidS hnn
        clear hin hMl hMi hM0 hMo hMb hMs hnx hz hn hzs hnn
        go_wp2
        go_roundw
        all_goals first
          | (simp only [intOf]; omega)
          | exact ⟨i + 1, by omega, by go_num, by rw [HNN.out], HNW⟩
    · obtain rfl : i = F := by omega
      obtain ⟨M, hMl, hMi, -, hMo, hMb, -⟩ := hin.out
      have hMM : M = mapI i (plF s sh) := by
        apply List.ext_getElem?
        intro j
        by_cases hj : j < i
        · have e := hMi j hj
          rw [List.getD_eq_getElem?_getD, List.getElem?_eq_getElem (by omega)] at e
          have e2 := mapI_at i (plF s sh) j hj
          rw [List.getD_eq_getElem?_getD, List.getElem?_eq_getElem (by rw [mapI_len]; exact hj)] at e2
          rw [List.getElem?_eq_getElem (by omega), List.getElem?_eq_getElem (by rw [mapI_len]; exact hj)]
          simp only [Option.getD_some] at e e2
          rw [e, e2]
        · rw [List.getElem?_eq_none (by omega), List.getElem?_eq_none (by rw [mapI_len]; omega)]
      rw [hMM] at hMo
      have HMo := hidS hMo
      have HMb := hidS hMb
      clear hin hMl hMi hMo hMb hMM
      go_wp2
      refine bodyPost_ret (v := .tuple #[.slice (some ⟨gP, 0, none⟩) i i, .int .i64 (cnS s sh i : Nat)]) (by simp [results, Try.results83, go_sem]) rfl ⟨gP, rfl, HMo.out, HMb.out⟩
end Go.Proofs.Ytagaajlbkfkaiaa
