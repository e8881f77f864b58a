/- The walks of wind.Genus, ref.OnePiece and ref.GenusOf. -/
import Derived.Test.YtdbpiggohncjiaaV2
import Derived.Test.YtdbpiggohncjiaaV3
import Derived.Test.YtdbpiggohncjiaaSg
namespace Go.Proofs.Ytdbpiggohncjiaa
open Go.RowKit

/-- The genus. -/
def gN (C : List Cr) : Int := (2 - ((walksM C).length : Int) - ((circM C).length : Int) + (C.length : Int)).tdiv 2
theorem circM_len (C : List Cr) : (circM C).length ≤ 2 * C.length := walksTo_count _ _ _
theorem walksM_len (C : List Cr) : (walksM C).length ≤ 2 * C.length := walksTo_count _ _ _

theorem tdiv_small (x : Int) (h : -100 ≤ x ∧ x ≤ 100) : -9223372036854775808 ≤ x.tdiv 2 ∧ x.tdiv 2 ≤ 9223372036854775807 := by
  rcases Int.le_total 0 x with h0 | h0
  · rw [Int.tdiv_eq_ediv_of_nonneg h0]; omega
  · have e : x.tdiv 2 = -((-x).tdiv 2) := by rw [Int.neg_tdiv, Int.neg_neg]
    rw [e, Int.tdiv_eq_ediv_of_nonneg (by omega)]
    omega

set_option maxHeartbeats 4000000 in
set_option maxRecDepth 100000 in
theorem genus_no (hFR : FaceRingsOk) (v : Value) (C : List Cr) (loops : Int) (w : World) (hn : noN C loops ≠ 0) (h : Crs w w.heap.size v C) :
    Calls Try.prog 51 #[.agg #[v, .int .i64 loops]] w fun e w' => e = .returned (.tuple #[.int .i64 0, .int .i64 (noN C loops)]) ∧ Below w.heap.size w w' := by
  have HC : Hid (Crs w w.heap.size v C) := h
  obtain ⟨a, cap, rfl, -, -⟩ := h
  have HF : Hid (∀ W, Crs W W.heap.size (.slice a C.length cap) C → Calls Try.prog 121 #[.agg #[.slice a C.length cap, .int .i64 loops]] W fun e w' => e = .returned (.tuple #[noDrawing, .int .i64 (noN C loops)]) ∧ Below W.heap.size W w') := fun W hW => by
    exact single_no hFR _ C loops W hn hW
  generalize noN C loops = r at hn HF
  have hr0 : (r == 0) = false := beq_eq_false_iff_ne.2 hn
  have HB1 : Hid (Below w.heap.size w (w.alloc (.cells #[.slice a C.length cap, .int .i64 loops] 35))) := (Below.refl _ _).alloc (Nat.le_refl _) _
  go_enter Try.func51, Try.ntmps51
  go_wp2_with (go_at_call 121; refine (HF.out _ (HC.out.up HB1.out)).mono ?_; rintro e9 w2 ⟨rfl, hb2⟩; refine Hid.out ?_)
  refine Lib.hid ?_
  unfold noDrawing
  have HB2 : Hid (Below w.heap.size w w2) := HB1.out.trans (hb2.mono HB1.out.size)
  clear hb2
  go_wp2
  go_ret2
  exact ⟨rfl, HB2.out.alloc HB2.out.size _⟩
set_option maxHeartbeats 4000000 in
set_option maxRecDepth 100000 in
theorem genus_some (hFR : FaceRingsOk) (v : Value) (C : List Cr) (loops : Int) (w : World) (hn : noN C loops = 0) (h : Crs w w.heap.size v C) :
    Calls Try.prog 51 #[.agg #[v, .int .i64 loops]] w fun e w' => e = .returned (if oneB C loops = true then .tuple #[.int .i64 (gN C), .int .i64 0] else .tuple #[.int .i64 0, .int .i64 6]) ∧ Below w.heap.size w w' := by
  have HC : Hid (Crs w w.heap.size v C) := h
  obtain ⟨hm, hp⟩ := noN_zero hn
  have HM : Hid (mayD C loops = true) := hm
  obtain ⟨s1, s2, s3, s4⟩ := sizeB_iff (may_size hm)
  obtain ⟨a, cap, rfl, -, -⟩ := h
  have HF : Hid (∀ W, Crs W W.heap.size (.slice a C.length cap) C → Calls Try.prog 121 #[.agg #[.slice a C.length cap, .int .i64 loops]] W (SingleOut C loops (oneB C loops) W)) := fun W hW => single_some hFR _ C loops W hn hW
  have hlp : oneB C loops = true → loops = 0 := fun h => by
    unfold oneB at h
    simp only [Bool.and_eq_true, decide_eq_true_eq] at h
    exact h.2
  have HB1 : Hid (Below w.heap.size w (w.alloc (.cells #[.slice a C.length cap, .int .i64 loops] 35))) := (Below.refl _ _).alloc (Nat.le_refl _) _
  have HG : Hid (gN C = (2 - ((walksM C).length : Int) - ((circM C).length : Int) + (C.length : Int)).tdiv 2) := (rfl : gN C = (2 - ((walksM C).length : Int) - ((circM C).length : Int) + (C.length : Int)).tdiv 2)
  have hq1 := walksM_len C
  have hq2 := circM_len C
  clear hm hp hn hFR
  cases hob : oneB C loops with
  | false =>
    rw [hob] at HF
    clear hlp hob
    go_enter Try.func51, Try.ntmps51
    go_wp2_with (go_at_call 121; refine (HF.out _ (HC.out.up HB1.out)).mono ?_; rintro e9 w2 ⟨rfl, hb2⟩; refine Hid.out ?_)
    refine Lib.hid ?_
    unfold noDrawing
    have HB2 : Hid (Below w.heap.size w w2) := HB1.out.trans (hb2.mono HB1.out.size)
    clear hb2
    go_wp2
    go_ret2
    exact ⟨rfl, HB2.out.alloc HB2.out.size _⟩
  | true =>
    obtain rfl := hlp hob
    rw [hob] at HF
    clear hlp hob
    obtain ⟨p1, hp1⟩ : ∃ p1, (walksM C).length = p1 := ⟨_, rfl⟩
    obtain ⟨p2, hp2⟩ : ∃ p2, (circM C).length = p2 := ⟨_, rfl⟩
    have HP1 : Hid ((walksM C).length = p1) := hp1
    have HP2 : Hid ((circM C).length = p2) := hp2
    rw [hp1, hp2] at HG
    rw [hp1] at hq1
    rw [hp2] at hq2
    clear hp1 hp2
    have e1 : IntKind.i64.wrap (2 - (p1 : Int)) = 2 - (p1 : Int) := IntWalk.i64_in _ (by omega)
    have e2 : IntKind.i64.wrap (2 - (p1 : Int) - (p2 : Int)) = 2 - (p1 : Int) - (p2 : Int) := IntWalk.i64_in _ (by omega)
    have e3 : IntKind.i64.wrap (2 - (p1 : Int) - (p2 : Int) + (C.length : Int)) = 2 - (p1 : Int) - (p2 : Int) + (C.length : Int) := IntWalk.i64_in _ (by omega)
    have e4 : IntKind.i64.wrap ((2 - (p1 : Int) - (p2 : Int) + (C.length : Int)).tdiv 2) = (2 - (p1 : Int) - (p2 : Int) + (C.length : Int)).tdiv 2 := by
      have hlo : -100 ≤ 2 - (p1 : Int) - (p2 : Int) + (C.length : Int) ∧ 2 - (p1 : Int) - (p2 : Int) + (C.length : Int) ≤ 100 := by omega
      generalize 2 - (p1 : Int) - (p2 : Int) + (C.length : Int) = x at hlo
      exact IntWalk.i64_in _ (tdiv_small x hlo)
    go_enter Try.func51, Try.ntmps51
    go_wp2_with (go_at_call 121; refine (HF.out _ (HC.out.up HB1.out)).mono ?_; rintro e9 w2 ⟨⟨a', cap', gF, cF, gT, cT, rfl, hdr⟩, hb2⟩; refine Hid.out ?_)
    refine Lib.hid ?_
    have HDR : Hid (Dr w2 a' cap' C gF gT) := hdr
    unfold drV
    have HB2 : Hid (Below w.heap.size w w2) := HB1.out.trans (hb2.mono HB1.out.size)
    have hs2 := HB2.out.size
    have HBA : Hid (Below w2.heap.size w2 (w2.alloc (.cells #[.slice a' C.length cap', .int .i64 0, .slice (some ⟨gF, 0, none⟩) (2 * C.length + 1) cF, .slice (some ⟨gT, 0, none⟩) (2 * C.length + 1) cT] 117))) := (Below.refl _ _).alloc (Nat.le_refl _) _
    have HBW : Hid (Below w.heap.size w (w2.alloc (.cells #[.slice a' C.length cap', .int .i64 0, .slice (some ⟨gF, 0, none⟩) (2 * C.length + 1) cF, .slice (some ⟨gT, 0, none⟩) (2 * C.length + 1) cT] 117))) := HB2.out.alloc HB2.out.size _
    clear hb2 hdr
    have HK : Hid (∀ w', Below (w2.alloc (.cells #[.slice a' C.length cap', .int .i64 0, .slice (some ⟨gF, 0, none⟩) (2 * C.length + 1) cF, .slice (some ⟨gT, 0, none⟩) (2 * C.length + 1) cT] 117)).heap.size (w2.alloc (.cells #[.slice a' C.length cap', .int .i64 0, .slice (some ⟨gF, 0, none⟩) (2 * C.length + 1) cF, .slice (some ⟨gT, 0, none⟩) (2 * C.length + 1) cT] 117)) w' → w'.cell? ⟨w2.heap.size, 0, none⟩ = some (.slice a' C.length cap') ∧ w'.cell? ⟨w2.heap.size, 1, none⟩ = some (.int .i64 0) ∧ w'.cell? ⟨w2.heap.size, 2, none⟩ = some (.slice (some ⟨gF, 0, none⟩) (2 * C.length + 1) cF) ∧ w'.cell? ⟨w2.heap.size, 3, none⟩ = some (.slice (some ⟨gT, 0, none⟩) (2 * C.length + 1) cT)) := fun w' hb => by
      have g := (hb.block w2.heap.size (by simp)).trans (alloc_at rfl)
      exact ⟨block_cell g rfl, block_cell g rfl, block_cell g rfl, block_cell g rfl⟩
    have HDK : Hid (∀ w', Below (w2.alloc (.cells #[.slice a' C.length cap', .int .i64 0, .slice (some ⟨gF, 0, none⟩) (2 * C.length + 1) cF, .slice (some ⟨gT, 0, none⟩) (2 * C.length + 1) cT] 117)).heap.size (w2.alloc (.cells #[.slice a' C.length cap', .int .i64 0, .slice (some ⟨gF, 0, none⟩) (2 * C.length + 1) cF, .slice (some ⟨gT, 0, none⟩) (2 * C.length + 1) cT] 117)) w' → Dr w' a' cap' C gF gT) := fun w' hb => (HDR.out.on HBA.out).on hb
    obtain ⟨t0, t1, t2, t3⟩ := HK.out _ (Below.refl _ _)
    have HD0 : Hid (Below (w2.alloc (.cells #[.slice a' C.length cap', .int .i64 0, .slice (some ⟨gF, 0, none⟩) (2 * C.length + 1) cF, .slice (some ⟨gT, 0, none⟩) (2 * C.length + 1) cT] 117)).heap.size (w2.alloc (.cells #[.slice a' C.length cap', .int .i64 0, .slice (some ⟨gF, 0, none⟩) (2 * C.length + 1) cF, .slice (some ⟨gT, 0, none⟩) (2 * C.length + 1) cT] 117)) (w2.alloc (.cells #[.slice a' C.length cap', .int .i64 0, .slice (some ⟨gF, 0, none⟩) (2 * C.length + 1) cF, .slice (some ⟨gT, 0, none⟩) (2 * C.length + 1) cT] 117)).drew) := (Below.refl _ _).drew
    go_wp2
    go_region_held3 (fun w' => w'.cell? ⟨w2.heap.size, 0, none⟩ = some (.slice a' C.length cap') ∧ w'.cell? ⟨w2.heap.size, 1, none⟩ = some (.int .i64 0) ∧ w'.cell? ⟨w2.heap.size, 2, none⟩ = some (.slice (some ⟨gF, 0, none⟩) (2 * C.length + 1) cF) ∧ w'.cell? ⟨w2.heap.size, 3, none⟩ = some (.slice (some ⟨gT, 0, none⟩) (2 * C.length + 1) cT)) (first | exact HK.out _ HZ.out | exact HK.out _ HY.out | exact HK.out _ HD0.out | exact HK.out _ (Below.refl _ _)) (first
      | (go_at_call 122; refine (circles_in a' cap' C 0 gF cF gT cT _ HM.out (HDK.out _ HY.out)).mono ?_; rintro e9 w5 ⟨vc, rfl, hvc, hb5⟩
         have HZ : Hid (Below (w2.alloc (.cells #[.slice a' C.length cap', .int .i64 0, .slice (some ⟨gF, 0, none⟩) (2 * C.length + 1) cF, .slice (some ⟨gT, 0, none⟩) (2 * C.length + 1) cT] 117)).heap.size (w2.alloc (.cells #[.slice a' C.length cap', .int .i64 0, .slice (some ⟨gF, 0, none⟩) (2 * C.length + 1) cF, .slice (some ⟨gT, 0, none⟩) (2 * C.length + 1) cT] 117)) w5) := HY.out.trans (hb5.mono HY.out.size)
         obtain ⟨ys2, hl2, hr2, -⟩ := hvc
         obtain ⟨ac, cc, ec⟩ := own_capS hr2
         rw [hl2, HP2.out] at ec
         subst ec
         clear hb5 hr2)
      | (go_at_call 101; refine (walks_any a' cap' C 0 gF cF gT cT _ HM.out (HDK.out _ HD0.out)).mono ?_; rintro e9 w4 ⟨vw, rfl, hvw, hb4⟩
         have HY : Hid (Below (w2.alloc (.cells #[.slice a' C.length cap', .int .i64 0, .slice (some ⟨gF, 0, none⟩) (2 * C.length + 1) cF, .slice (some ⟨gT, 0, none⟩) (2 * C.length + 1) cT] 117)).heap.size (w2.alloc (.cells #[.slice a' C.length cap', .int .i64 0, .slice (some ⟨gF, 0, none⟩) (2 * C.length + 1) cF, .slice (some ⟨gT, 0, none⟩) (2 * C.length + 1) cT] 117)) w4) := HD0.out.trans (hb4.mono HD0.out.size)
         obtain ⟨ys1, hl1, hr1, -⟩ := hvw
         obtain ⟨aw, cw, ew⟩ := own_capS hr1
         rw [hl1, HP1.out] at ew
         subst ew
         clear hb4 hr1))
    have HBF : Hid (Below w.heap.size w w5) := HBW.out.trans (HZ.out.mono HBW.out.size)
    go_wp2
    go_ret2
    exact ⟨by rw [HG.out]; rfl, HBF.out⟩
end Go.Proofs.Ytdbpiggohncjiaa
