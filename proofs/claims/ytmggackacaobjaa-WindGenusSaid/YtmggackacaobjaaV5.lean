/- The walks of wind.Genus, ref.OnePiece and ref.GenusOf. -/
import Derived.Test.YtmggackacaobjaaV2
import Derived.Test.YtmggackacaobjaaV3
import Derived.Test.YtmggackacaobjaaV4
import Derived.Test.YtmggackacaobjaaW4
namespace Go.Proofs.Ytmggackacaobjaa
open Go.RowKit

/-- One piece, and no loops. -/
def oneB (C : List Cr) (loops : Int) : Bool := (decide (0 < C.length) && (List.range C.length).all fun v => decide ((whoM C).getD v 0 = 0)) && decide (loops = 0)
theorem whoM_is {C : List Cr} {loops : Int} (hm : mayD C loops = true) {W : List Nat} (h : Least (arcE C) C.length W) : W = whoM C := h.eq (levR_least (arcE_lt hm) _ (Nat.le_refl _))
theorem one_iff {C : List Cr} {loops : Int} (hm : mayD C loops = true) {P : List Int} {c : Nat} (hP : PcsAll C P c) : c = 1 ↔ (0 < C.length ∧ ∀ v, v < C.length → (whoM C).getD v 0 = 0) := by
  have hW : Least (arcE C) C.length (whoM C) := levR_least (arcE_lt hm) _ (Nat.le_refl _)
  constructor
  · intro h
    subst h
    obtain ⟨v0, h0, -⟩ := hP.used 0 (by omega)
    have hp : 0 < C.length := by omega
    refine ⟨hp, fun v hv => ?_⟩
    have a := hP.vals v hv
    have b := hP.vals 0 hp
    have e : P.getD v 0 = P.getD 0 0 := by omega
    have hc := (hP.same v 0 hv hp).1 e
    have := (hW.2 v hv).2 0 hc
    omega
  · rintro ⟨hp, h⟩
    have b := hP.vals 0 hp
    refine Classical.byContradiction fun hne => ?_
    have hc : 2 ≤ c := by omega
    obtain ⟨u, hu, eu⟩ := hP.used 0 (by omega)
    obtain ⟨v, hv, ev⟩ := hP.used 1 (by omega)
    have e := (hP.same u v hu hv).2 ((hW.same hu hv).1 (by rw [h u hu, h v hv]))
    rw [eu, ev] at e
    omega
/-- The genus. -/
def gN (C : List Cr) : Int := (2 - ((walksM C).length : Int) - ((circM C).length : Int) + (C.length : Int)).tdiv 2
theorem circM_len (C : List Cr) : (circM C).length ≤ 2 * C.length := walksTo_count _ _ _
theorem walksM_len (C : List Cr) : (walksM C).length ≤ 2 * C.length := walksTo_count _ _ _

theorem tdiv_small (x : Int) (h : -100 ≤ x ∧ x ≤ 100) : -9223372036854775808 ≤ x.tdiv 2 ∧ x.tdiv 2 ≤ 9223372036854775807 := by
  rcases Int.le_total 0 x with h0 | h0
  · rw [Int.tdiv_eq_ediv_of_nonneg h0]; omega
  · have e : x.tdiv 2 = -((-x).tdiv 2) := by rw [Int.neg_tdiv, Int.neg_neg]
    rw [e, Int.tdiv_eq_ediv_of_nonneg (by omega)]
    omega

set_option maxHeartbeats 4000000 in
set_option maxRecDepth 100000 in
theorem genus_no (hFR : FaceRingsOk) (v : Value) (C : List Cr) (loops : Int) (w : World) (hn : noN C loops ≠ 0) (h : Crs w w.heap.size v C) :
    Calls Try.prog 63 #[.agg #[v, .int .i64 loops]] w fun e w' => e = .returned (.tuple #[.int .i64 0, .int .i64 (noN C loops)]) ∧ Below w.heap.size w w' := by
  have HC : Hid (Crs w w.heap.size v C) := h
  obtain ⟨a, cap, rfl, -, -⟩ := h
  have HF : Hid (∀ W, Crs W W.heap.size (.slice a C.length cap) C → Calls Try.prog 106 #[.agg #[.slice a C.length cap, .int .i64 loops]] W fun e w' => e = .returned (.tuple #[noDrawing, .int .i64 (noN C loops)]) ∧ Below W.heap.size W w') := fun W hW => by
    unfold noN at hn ⊢
    cases hm : mayD C loops with
    | false => exact flat_no _ C loops W hm hW
    | true =>
      cases hp : planarB C with
      | false => exact flat_bad hFR _ C loops W hm hp hW
      | true => rw [hm, hp] at hn; exact absurd rfl hn
  generalize noN C loops = r at hn HF
  have hr0 : (r == 0) = false := beq_eq_false_iff_ne.2 hn
  have HB1 : Hid (Below w.heap.size w (w.alloc (.cells #[.slice a C.length cap, .int .i64 loops] 24))) := (Below.refl _ _).alloc (Nat.le_refl _) _
  go_enter Try.func63, Try.ntmps63
  go_wp2_with (go_at_call 106; refine (HF.out _ (HC.out.up HB1.out)).mono ?_; rintro e9 w2 ⟨rfl, hb2⟩; refine Hid.out ?_)
  refine Lib.hid ?_
  unfold noDrawing
  have HB2 : Hid (Below w.heap.size w w2) := HB1.out.trans (hb2.mono HB1.out.size)
  clear hb2
  go_wp2
  go_ret2
  exact ⟨rfl, HB2.out.alloc HB2.out.size _⟩
theorem noN_zero {C : List Cr} {loops : Int} (h : noN C loops = 0) : mayD C loops = true ∧ planarB C = true := by
  unfold noN at h
  by_cases hm : mayD C loops = true
  · rw [if_pos hm] at h
    by_cases hp : planarB C = true
    · exact ⟨hm, hp⟩
    · rw [if_neg hp] at h; omega
  · rw [if_neg hm] at h; omega

set_option maxHeartbeats 4000000 in
set_option maxRecDepth 100000 in
theorem genus_some (hFR : FaceRingsOk) (v : Value) (C : List Cr) (loops : Int) (w : World) (hn : noN C loops = 0) (h : Crs w w.heap.size v C) :
    Calls Try.prog 63 #[.agg #[v, .int .i64 loops]] w fun e w' => e = .returned (if oneB C loops = true then .tuple #[.int .i64 (gN C), .int .i64 0] else .tuple #[.int .i64 0, .int .i64 6]) ∧ Below w.heap.size w w' := by
  have HC : Hid (Crs w w.heap.size v C) := h
  obtain ⟨hm, hp⟩ := noN_zero hn
  have HM : Hid (mayD C loops = true) := hm
  have HP : Hid (planarB C = true) := hp
  have HFA : Hid FaceRingsOk := hFR
  obtain ⟨s1, s2, s3, s4⟩ := sizeB_iff (may_size hm)
  obtain ⟨a, cap, rfl, -, -⟩ := h
  have HO : Hid (∀ P c, PcsAll C P c → oneB C loops = (decide (c = 1) && decide (loops = 0))) := fun P c hP => by
    unfold oneB
    congr 1
    have h1 := one_iff hm hP
    rw [Bool.eq_iff_iff, Bool.and_eq_true, decide_eq_true_eq, decide_eq_true_eq, List.all_eq_true, h1]
    simp only [List.mem_range, decide_eq_true_eq]
  obtain ⟨ob, hob⟩ : ∃ ob, oneB C loops = ob := ⟨_, rfl⟩
  rw [hob] at HO ⊢
  clear hob
  have HB1 : Hid (Below w.heap.size w (w.alloc (.cells #[.slice a C.length cap, .int .i64 loops] 24))) := (Below.refl _ _).alloc (Nat.le_refl _) _
  have HG : Hid (gN C = (2 - ((walksM C).length : Int) - ((circM C).length : Int) + (C.length : Int)).tdiv 2) := (rfl : gN C = (2 - ((walksM C).length : Int) - ((circM C).length : Int) + (C.length : Int)).tdiv 2)
  have hq1 := walksM_len C
  have hq2 := circM_len C
  clear hm hp hn hFR
  go_enter Try.func63, Try.ntmps63
  go_wp2_with (go_at_call 106; refine (flat_yes HFA.out _ C loops _ HM.out HP.out (HC.out.up HB1.out)).mono ?_; rintro e9 w2 ⟨a', cap', gF, cF, gT, cT, rfl, hdr, hb2⟩; refine Hid.out ?_)
  refine Lib.hid ?_
  have HDR : Hid (Dr w2 a' cap' C gF gT) := hdr
  unfold drV
  have HB2 : Hid (Below w.heap.size w w2) := HB1.out.trans (hb2.mono HB1.out.size)
  have hs2 := HB2.out.size
  have HBA : Hid (Below w2.heap.size w2 (w2.alloc (.cells #[.slice a' C.length cap', .int .i64 loops, .slice (some ⟨gF, 0, none⟩) (2 * C.length + 1) cF, .slice (some ⟨gT, 0, none⟩) (2 * C.length + 1) cT] 87))) := (Below.refl _ _).alloc (Nat.le_refl _) _
  clear hb2 hdr
  go_wp2_with (go_at_call 111; refine (pieces_any a' cap' C loops gF cF gT cT _ HM.out (HDR.out.on HBA.out)).mono ?_; rintro e9 w3 ⟨gP, cP, P, c, rfl, -, hpc, hb3⟩; refine Hid.out ?_)
  refine Lib.hid ?_
  have HOB : Hid (ob = (decide (c = 1) && decide (loops = 0))) := HO.out P c hpc
  have HB3 : Hid (Below w2.heap.size w2 w3) := HBA.out.trans (hb3.mono (by simp))
  have HQ : Hid (w3.heap[w2.heap.size]? = some (.cells #[.slice a' C.length cap', .int .i64 loops, .slice (some ⟨gF, 0, none⟩) (2 * C.length + 1) cF, .slice (some ⟨gT, 0, none⟩) (2 * C.length + 1) cT] 87 (0, 0))) := (hb3.block _ (by simp)).trans (alloc_at rfl)
  have hs3 : w2.heap.size + 1 ≤ w3.heap.size := by have := hb3.size; simpa using this
  have HK : Hid (∀ w', Below w3.heap.size w3 w' → w'.cell? ⟨w2.heap.size, 0, none⟩ = some (.slice a' C.length cap') ∧ w'.cell? ⟨w2.heap.size, 1, none⟩ = some (.int .i64 loops) ∧ w'.cell? ⟨w2.heap.size, 2, none⟩ = some (.slice (some ⟨gF, 0, none⟩) (2 * C.length + 1) cF) ∧ w'.cell? ⟨w2.heap.size, 3, none⟩ = some (.slice (some ⟨gT, 0, none⟩) (2 * C.length + 1) cT)) := fun w' hb => by
    have g := (hb.block _ (by omega)).trans HQ.out
    exact ⟨block_cell g rfl, block_cell g rfl, block_cell g rfl, block_cell g rfl⟩
  have HDK : Hid (∀ w', Below w3.heap.size w3 w' → Dr w' a' cap' C gF gT) := fun w' hb => (HDR.out.on HB3.out).on hb
  have HBW : Hid (Below w.heap.size w w3) := HB2.out.trans (HB3.out.mono hs2)
  clear hb3 hpc HO
  obtain ⟨t0, t1, t2, t3⟩ := HK.out w3 (Below.refl _ _)
  have HD0 : Hid (Below w3.heap.size w3 w3.drew) := (Below.refl _ _).drew
  by_cases hc1 : c = 1
  · subst hc1
    by_cases hl : loops = 0
    · subst hl
      obtain rfl : ob = true := HOB.out
      obtain ⟨p1, hp1⟩ : ∃ p1, (walksM C).length = p1 := ⟨_, rfl⟩
      obtain ⟨p2, hp2⟩ : ∃ p2, (circM C).length = p2 := ⟨_, rfl⟩
      have HP1 : Hid ((walksM C).length = p1) := hp1
      have HP2 : Hid ((circM C).length = p2) := hp2
      rw [hp1, hp2] at HG
      rw [hp1] at hq1
      rw [hp2] at hq2
      clear hp1 hp2
      have e1 : IntKind.i64.wrap (2 - (p1 : Int)) = 2 - (p1 : Int) := IntWalk.i64_in _ (by omega)
      have e2 : IntKind.i64.wrap (2 - (p1 : Int) - (p2 : Int)) = 2 - (p1 : Int) - (p2 : Int) := IntWalk.i64_in _ (by omega)
      have e3 : IntKind.i64.wrap (2 - (p1 : Int) - (p2 : Int) + (C.length : Int)) = 2 - (p1 : Int) - (p2 : Int) + (C.length : Int) := IntWalk.i64_in _ (by omega)
      have e4 : IntKind.i64.wrap ((2 - (p1 : Int) - (p2 : Int) + (C.length : Int)).tdiv 2) = (2 - (p1 : Int) - (p2 : Int) + (C.length : Int)).tdiv 2 := by
        have hlo : -100 ≤ 2 - (p1 : Int) - (p2 : Int) + (C.length : Int) ∧ 2 - (p1 : Int) - (p2 : Int) + (C.length : Int) ≤ 100 := by omega
        generalize 2 - (p1 : Int) - (p2 : Int) + (C.length : Int) = x at hlo
        exact IntWalk.i64_in _ (tdiv_small x hlo)
      go_wp2
      go_region_held3 (fun w' => w'.cell? ⟨w2.heap.size, 0, none⟩ = some (.slice a' C.length cap') ∧ w'.cell? ⟨w2.heap.size, 1, none⟩ = some (.int .i64 0) ∧ w'.cell? ⟨w2.heap.size, 2, none⟩ = some (.slice (some ⟨gF, 0, none⟩) (2 * C.length + 1) cF) ∧ w'.cell? ⟨w2.heap.size, 3, none⟩ = some (.slice (some ⟨gT, 0, none⟩) (2 * C.length + 1) cT)) (first | exact HK.out _ HZ.out | exact HK.out _ HY.out | exact HK.out _ HD0.out | exact HK.out _ (Below.refl _ _)) (first
        | (go_at_call 109; refine (circles_in a' cap' C 0 gF cF gT cT _ HM.out (HDK.out _ HY.out)).mono ?_; rintro e9 w5 ⟨vc, rfl, hvc, hb5⟩
           have HZ : Hid (Below w3.heap.size w3 w5) := HY.out.trans (hb5.mono HY.out.size)
           obtain ⟨ys2, hl2, hr2, -⟩ := hvc
           obtain ⟨ac, cc, ec⟩ := own_capS hr2
           rw [hl2, HP2.out] at ec
           subst ec
           clear hb5 hr2)
        | (go_at_call 67; refine (walks_any a' cap' C 0 gF cF gT cT _ HM.out (HDK.out _ HD0.out)).mono ?_; rintro e9 w4 ⟨vw, rfl, hvw, hb4⟩
           have HY : Hid (Below w3.heap.size w3 w4) := HD0.out.trans (hb4.mono HD0.out.size)
           obtain ⟨ys1, hl1, hr1, -⟩ := hvw
           obtain ⟨aw, cw, ew⟩ := own_capS hr1
           rw [hl1, HP1.out] at ew
           subst ew
           clear hb4 hr1))
      have HBF : Hid (Below w.heap.size w w5) := HBW.out.trans (HZ.out.mono HBW.out.size)
      go_wp2
      go_ret2
      exact ⟨by rw [HG.out]; rfl, HBF.out⟩
    · have hl2 : decide (0 < loops) = true := by simp; omega
      obtain rfl : ob = false := by rw [HOB.out, decide_eq_false hl]; simp
      go_wp2
      go_ret2
      exact ⟨rfl, HBW.out⟩
  · have hc2 : ((c : Int) == 1) = false := beq_eq_false_iff_ne.2 (by omega)
    obtain rfl : ob = false := by rw [HOB.out, decide_eq_false hc1]; rfl
    go_wp2
    go_ret2
    exact ⟨rfl, HBW.out⟩
end Go.Proofs.Ytmggackacaobjaa
