/- The law CanonSums: its walk. -/
import Derived.Test.YtnmgeegmiijflaaS8
import Derived.Test.YtnmgeegmiijflaaLGaussTells
namespace Go.Proofs.Ytnmgeegmiijflaa
open Go.RowKit

set_option maxHeartbeats 8000000 in
set_option maxRecDepth 100000 in
theorem canonSums_no (v v' : Value) (C D : List Cr) (l1 l2 x y : Int) (w : World) (hl : C.length * 40 ≤ 140737488355328) (hl' : D.length * 40 ≤ 140737488355328) (h : CrsW w w.heap.size v C) (h' : CrsW w w.heap.size v' D) (hm : (mayD C l1 && mayD D l2) = false) :
    Calls Try.prog 11 #[.agg #[v, .int .i64 l1], .int .i64 x, .agg #[v', .int .i64 l2], .int .i64 y] w fun e w' => e = .returned (.bool true) ∧ Below w.heap.size w w' := by
  have HL : Hid (C.length * 40 ≤ 140737488355328) := hl
  have HL' : Hid (D.length * 40 ≤ 140737488355328) := hl'
  obtain ⟨a, cap, rfl⟩ := slice_CrsW h
  obtain ⟨a', cap', rfl⟩ := slice_CrsW h'
  obtain ⟨w0, hw0⟩ : ∃ w0, w0 = (w.alloc (.cells #[.slice a C.length cap, .int .i64 l1] 24)).alloc (.cells #[.slice a' D.length cap', .int .i64 l2] 24) := ⟨_, rfl⟩
  have HW0 : Hid (w0 = (w.alloc (.cells #[.slice a C.length cap, .int .i64 l1] 24)).alloc (.cells #[.slice a' D.length cap', .int .i64 l2] 24)) := hw0
  have hs0 : w.heap.size + 2 ≤ w0.heap.size := by rw [hw0]; simp
  have HB0 : Hid (Below w.heap.size w w0) := (by rw [hw0]; exact below2 _ _ _ : Below w.heap.size w w0)
  have HT0 : Hid (w0.heap[w.heap.size]? = some (.cells #[.slice a C.length cap, .int .i64 l1] 24 (0, 0))) := (by rw [hw0]; exact alloc_old (alloc_at rfl) : w0.heap[w.heap.size]? = some (.cells #[.slice a C.length cap, .int .i64 l1] 24 (0, 0)))
  have HT1 : Hid (w0.heap[w.heap.size + 1]? = some (.cells #[.slice a' D.length cap', .int .i64 l2] 24 (0, 0))) := (by rw [hw0]; exact alloc_at (by simp) : w0.heap[w.heap.size + 1]? = some (.cells #[.slice a' D.length cap', .int .i64 l2] 24 (0, 0)))
  have HC0 : Hid (∀ w', Below w0.heap.size w0 w' → CrsW w' w'.heap.size (.slice a C.length cap) C) := fun w' hb => (h.up HB0.out).up hb
  have HC0' : Hid (∀ w', Below w0.heap.size w0 w' → CrsW w' w'.heap.size (.slice a' D.length cap') D) := fun w' hb => (h'.up HB0.out).up hb
  have HCC : Hid (∀ w', Below w0.heap.size w0 w' → Crs w' w'.heap.size (.slice a C.length cap) C) := fun w' hb => (HC0.out w' hb).crs (by have := HL.out; unfold maxLen; omega)
  have HCD : Hid (∀ w', Below w0.heap.size w0 w' → Crs w' w'.heap.size (.slice a' D.length cap') D) := fun w' hb => (HC0'.out w' hb).crs (by have := HL'.out; unfold maxLen; omega)
  have HF : Hid (∀ w', Below w0.heap.size w0 w' → w'.cell? ⟨w.heap.size, 0, none⟩ = some (.slice a C.length cap) ∧ w'.cell? ⟨w.heap.size, 1, none⟩ = some (.int .i64 l1) ∧ w'.cell? ⟨w.heap.size + 1, 0, none⟩ = some (.slice a' D.length cap') ∧ w'.cell? ⟨w.heap.size + 1, 1, none⟩ = some (.int .i64 l2)) := fun w' hb => by
    have g0 := (hb.block _ (by omega)).trans HT0.out
    have g1 := (hb.block _ (by omega)).trans HT1.out
    exact ⟨block_cell g0 rfl, block_cell g0 rfl, block_cell g1 rfl, block_cell g1 rfl⟩
  have HD0 : Hid (Below w0.heap.size w0 w0.drew) := (Below.refl _ _).drew
  have HM : Hid ((mayD C l1 && mayD D l2) = false) := hm
  clear hm hw0 h h' hl hl'
  obtain ⟨p0, p1, p2, p3⟩ := HF.out w0 (Below.refl _ _)
  go_enter Try.func11, Try.ntmps11
  go_wp2
  rw [← HW0.out]
  go_region_held3 (fun w' => w'.cell? ⟨w.heap.size, 0, none⟩ = some (.slice a C.length cap) ∧ w'.cell? ⟨w.heap.size, 1, none⟩ = some (.int .i64 l1) ∧ w'.cell? ⟨w.heap.size + 1, 0, none⟩ = some (.slice a' D.length cap') ∧ w'.cell? ⟨w.heap.size + 1, 1, none⟩ = some (.int .i64 l2)) (first | exact HF.out _ H3.out | exact HF.out _ (H3.out.alloc H3.out.size _) | exact HF.out _ (HST.out _ _) | exact HF.out _ H2.out | exact HF.out _ (H2.out.alloc H2.out.size _) | exact HF.out _ H1.out | exact HF.out _ (H1.out.alloc H1.out.size _) | exact HF.out _ HD0.out | exact HF.out _ (HD0.out.alloc HD0.out.size _) | go_keep) (first
    | (go_at_call 42; refine (sum_no _ _ C D l1 l2 x y _ (HC12.out.up (by first | exact Below.refl _ _ | exact (Below.refl _ _).alloc (Nat.le_refl _) _)) (HC2.out.up (by first | exact Below.refl _ _ | exact (Below.refl _ _).alloc (Nat.le_refl _) _)) HM.out).mono ?_; rintro e9 w3 ⟨rfl, hb3⟩
       have H3 : Hid (Below w0.heap.size w0 w3) := (by first | exact H2.out.trans (hb3.mono H2.out.size) | exact (H2.out.alloc H2.out.size _).trans (hb3.mono (H2.out.alloc H2.out.size (.cells #[.slice none 0 0, .int .i64 0] 24)).size))
       first
         | (have G3 : Hid (w3.heap[w2.heap.size]? = some (.cells #[.slice none 0 0, .int .i64 0] 24 (0, 0))) := (hb3.block _ (by simp)).trans (alloc_at rfl)
            have HST : Hid (∀ u v, Below w0.heap.size w0 (st2 w3 (w2.heap.size) 0 u v)) := fun u v => H3.out.grown (st2_grown w3 (w2.heap.size) 0 u v) H3.out.size (fun q hq => by have := Option.some.inj hq; have := H2.out.size; omega))
         | (have G3 : Hid (w3.heap[w1.heap.size]? = some (.cells #[.slice none 0 0, .int .i64 0] 24 (0, 0))) := (hb3.block _ (Array.getElem?_eq_some_iff.1 G2.out).1).trans G2.out
            have HST : Hid (∀ u v, Below w0.heap.size w0 (st2 w3 (w1.heap.size) 0 u v)) := fun u v => H3.out.grown (st2_grown w3 (w1.heap.size) 0 u v) H3.out.size (fun q hq => by have := Option.some.inj hq; have := H1.out.size; omega))
         | (have G3 : Hid (w3.heap[w0.heap.size]? = some (.cells #[.slice none 0 0, .int .i64 0] 24 (0, 0))) := (hb3.block _ (Array.getElem?_eq_some_iff.1 G2.out).1).trans G2.out
            have HST : Hid (∀ u v, Below w0.heap.size w0 (st2 w3 (w0.heap.size) 0 u v)) := fun u v => H3.out.grown (st2_grown w3 (w0.heap.size) 0 u v) H3.out.size (fun q hq => by have := Option.some.inj hq; have := hs0; omega))
         | skip
       try have r0 := block_cell (i := 0) (v := .slice none 0 0) G3.out rfl
       try have r1 := block_cell (i := 1) (v := .int .i64 0) G3.out rfl
       try have f0 := block_frozen (i := 0) G3.out
       try have f1 := block_frozen (i := 1) G3.out
       try have r2 := (Array.getElem?_eq_some_iff.1 G3.out).1
       clear hb3)
    | (go_at_call 15; have hAA := H1; clear hAA; refine (diagramOf_any _ D l2 _ HL'.out (HC0'.out _ (by first | exact H1.out | exact H1.out.alloc H1.out.size _))).mono ?_; rintro e9 w2 ⟨v2, rfl, hc2, hb2⟩
       obtain ⟨a2, c2, rfl⟩ := slice_Crs hc2
       have H12 : Hid (Below w1.heap.size w1 w2) := (by first | exact hb2 | exact ((Below.refl _ _).alloc (Nat.le_refl _) (.cells #[.slice none 0 0, .int .i64 0] 24)).trans (hb2.mono (by simp)))
       have H2 : Hid (Below w0.heap.size w0 w2) := H1.out.trans (H12.out.mono H1.out.size)
       have HC2 : Hid (Crs w2 w2.heap.size (.slice a2 D.length c2) D) := hc2
       have HC12 : Hid (Crs w2 w2.heap.size (.slice a1 C.length c1) C) := HC1.out.up H12.out
       first
         | have G2 : Hid (w2.heap[w1.heap.size]? = some (.cells #[.slice none 0 0, .int .i64 0] 24 (0, 0))) := (hb2.block _ (by simp)).trans (alloc_at rfl)
         | have G2 : Hid (w2.heap[w0.heap.size]? = some (.cells #[.slice none 0 0, .int .i64 0] 24 (0, 0))) := (hb2.block _ (Array.getElem?_eq_some_iff.1 G1.out).1).trans G1.out
         | skip
       clear hb2 hc2)
    | (go_at_call 15; refine (diagramOf_any _ C l1 _ HL.out (HC0.out _ (by first | exact HD0.out | exact HD0.out.alloc HD0.out.size _))).mono ?_; rintro e9 w1 ⟨v1, rfl, hc1, hb1⟩
       obtain ⟨a1, c1, rfl⟩ := slice_Crs hc1
       have H1 : Hid (Below w0.heap.size w0 w1) := (by first | exact HD0.out.trans (hb1.mono HD0.out.size) | exact (HD0.out.alloc HD0.out.size _).trans (hb1.mono (HD0.out.alloc HD0.out.size (.cells #[.slice none 0 0, .int .i64 0] 24)).size))
       have HC1 : Hid (Crs w1 w1.heap.size (.slice a1 C.length c1) C) := hc1
       first
         | have G1 : Hid (w1.heap[w0.heap.size]? = some (.cells #[.slice none 0 0, .int .i64 0] 24 (0, 0))) := (hb1.block _ (by simp)).trans (alloc_at rfl)
         | skip
       clear hb1 hc1))
  all_goals first
    | (have hAA := G3; clear hAA
       obtain ⟨X, hX⟩ : ∃ X, X = st2 w3 w2.heap.size 0 (.slice none 0 0) (.int .i64 0) := ⟨_, rfl⟩
       have HX : Hid (X = (w3.setCell ⟨w2.heap.size, 0, none⟩ (.slice none 0 0)).setCell ⟨w2.heap.size, 1, none⟩ (.int .i64 0)) := hX
       have HBX : Hid (Below w0.heap.size w0 X) := (by rw [hX]; exact HST.out _ _ : Below w0.heap.size w0 X)
       have HG : Hid (X.heap[w2.heap.size]? = some (.cells #[.slice none 0 0, .int .i64 0] 24 (0, 0))) := (by rw [hX]; exact set_block (i := 1) (set_block (i := 0) G3.out) : X.heap[w2.heap.size]? = some (.cells #[.slice none 0 0, .int .i64 0] 24 (0, 0)))
       have HGG : Hid (w2.heap.size < X.heap.size) := (Array.getElem?_eq_some_iff.1 HG.out).1
       clear hX
       rw [← HX.out]
       obtain ⟨g, hg⟩ : ∃ g, w2.heap.size = g := ⟨_, rfl⟩
       rw [hg] at HG HGG ⊢
       clear hg HX)
    | (have hAA := G3; clear hAA
       obtain ⟨X, hX⟩ : ∃ X, X = st2 w3 w1.heap.size 0 (.slice none 0 0) (.int .i64 0) := ⟨_, rfl⟩
       have HX : Hid (X = (w3.setCell ⟨w1.heap.size, 0, none⟩ (.slice none 0 0)).setCell ⟨w1.heap.size, 1, none⟩ (.int .i64 0)) := hX
       have HBX : Hid (Below w0.heap.size w0 X) := (by rw [hX]; exact HST.out _ _ : Below w0.heap.size w0 X)
       have HG : Hid (X.heap[w1.heap.size]? = some (.cells #[.slice none 0 0, .int .i64 0] 24 (0, 0))) := (by rw [hX]; exact set_block (i := 1) (set_block (i := 0) G3.out) : X.heap[w1.heap.size]? = some (.cells #[.slice none 0 0, .int .i64 0] 24 (0, 0)))
       have HGG : Hid (w1.heap.size < X.heap.size) := (Array.getElem?_eq_some_iff.1 HG.out).1
       clear hX
       rw [← HX.out]
       obtain ⟨g, hg⟩ : ∃ g, w1.heap.size = g := ⟨_, rfl⟩
       rw [hg] at HG HGG ⊢
       clear hg HX)
    | (have hAA := G3; clear hAA
       obtain ⟨X, hX⟩ : ∃ X, X = st2 w3 w0.heap.size 0 (.slice none 0 0) (.int .i64 0) := ⟨_, rfl⟩
       have HX : Hid (X = (w3.setCell ⟨w0.heap.size, 0, none⟩ (.slice none 0 0)).setCell ⟨w0.heap.size, 1, none⟩ (.int .i64 0)) := hX
       have HBX : Hid (Below w0.heap.size w0 X) := (by rw [hX]; exact HST.out _ _ : Below w0.heap.size w0 X)
       have HG : Hid (X.heap[w0.heap.size]? = some (.cells #[.slice none 0 0, .int .i64 0] 24 (0, 0))) := (by rw [hX]; exact set_block (i := 1) (set_block (i := 0) G3.out) : X.heap[w0.heap.size]? = some (.cells #[.slice none 0 0, .int .i64 0] 24 (0, 0)))
       have HGG : Hid (w0.heap.size < X.heap.size) := (Array.getElem?_eq_some_iff.1 HG.out).1
       clear hX
       rw [← HX.out]
       obtain ⟨g, hg⟩ : ∃ g, w0.heap.size = g := ⟨_, rfl⟩
       rw [hg] at HG HGG ⊢
       clear hg HX)
    | (obtain ⟨X, hX⟩ : ∃ X, X = w3.alloc (.cells #[.slice none 0 0, .int .i64 0] 24) := ⟨_, rfl⟩
       have HX : Hid (X = w3.alloc (.cells #[.slice none 0 0, .int .i64 0] 24)) := hX
       have HBX : Hid (Below w0.heap.size w0 X) := (by rw [hX]; exact H3.out.alloc H3.out.size _ : Below w0.heap.size w0 X)
       have HG : Hid (X.heap[w3.heap.size]? = some (.cells #[.slice none 0 0, .int .i64 0] 24 (0, 0))) := (by rw [hX]; exact alloc_at rfl : X.heap[w3.heap.size]? = some (.cells #[.slice none 0 0, .int .i64 0] 24 (0, 0)))
       have HGG : Hid (w3.heap.size < X.heap.size) := (Array.getElem?_eq_some_iff.1 HG.out).1
       clear hX
       rw [← HX.out]
       obtain ⟨g, hg⟩ : ∃ g, w3.heap.size = g := ⟨_, rfl⟩
       rw [hg] at HG HGG ⊢
       clear hg HX)
  all_goals
    clear p0 p1 p2 p3
    obtain ⟨p0, p1, p2, p3⟩ := HF.out X HBX.out
    have hXw := HBX.out.size
    have HGX : Hid (X.heap[g]? = some (.cells #[.slice none 0 0, .int .i64 0] 24 (0, 0))) := HG.out
    have HGGX : Hid (g < X.heap.size) := HGG.out
    cases hmc : mayD C l1 with
    | false =>
      have HMC : Hid (mayD C l1 = false) := hmc
      clear hmc
      go_wp2_with (go_at_call 18; refine (may17_any _ C l1 _ (HCC.out _ HBX.out)).mono ?_; rw [HMC.out]; rintro e9 w5 ⟨rfl, hb_w5⟩; refine Hid.out ?_)
      refine Lib.hid ?_
      have Hw5 : Hid (Below X.heap.size X w5) := hb_w5
      have HBw5 : Hid (Below w0.heap.size w0 w5) := HBX.out.trans (Hw5.out.mono HBX.out.size)
      have hsw5 := hb_w5.size
      have HGw5 : Hid (w5.heap[g]? = some (.cells #[.slice none 0 0, .int .i64 0] 24 (0, 0))) := (Hw5.out.block _ HGGX.out).trans HGX.out
      have HGGw5 : Hid (g < w5.heap.size) := (Array.getElem?_eq_some_iff.1 HGw5.out).1
      clear hb_w5
      clear p0 p1 p2 p3
      obtain ⟨p0, p1, p2, p3⟩ := HF.out w5 HBw5.out
      have q0 : w5.cell? ⟨g, 0, none⟩ = some (.slice none 0 0) := block_cell HGw5.out rfl
      have q1 : w5.cell? ⟨g, 1, none⟩ = some (.int .i64 0) := block_cell HGw5.out rfl
      have q2 : g < w5.heap.size := HGGw5.out
      go_wp2
      go_ret
      exact ⟨rfl, HB0.out.trans (HBw5.out.mono HB0.out.size)⟩
    | true =>
      have HMC : Hid (mayD C l1 = true) := hmc
      have HMD : Hid (mayD D l2 = false) := (by have := HM.out; rw [hmc] at this; simpa using this : mayD D l2 = false)
      clear hmc
      go_wp2_with (go_at_call 18; refine (may17_any _ C l1 _ (HCC.out _ HBX.out)).mono ?_; rw [HMC.out]; rintro e9 w5 ⟨rfl, hb_w5⟩; refine Hid.out ?_)
      refine Lib.hid ?_
      have Hw5 : Hid (Below X.heap.size X w5) := hb_w5
      have HBw5 : Hid (Below w0.heap.size w0 w5) := HBX.out.trans (Hw5.out.mono HBX.out.size)
      have hsw5 := hb_w5.size
      have HGw5 : Hid (w5.heap[g]? = some (.cells #[.slice none 0 0, .int .i64 0] 24 (0, 0))) := (Hw5.out.block _ HGGX.out).trans HGX.out
      have HGGw5 : Hid (g < w5.heap.size) := (Array.getElem?_eq_some_iff.1 HGw5.out).1
      clear hb_w5
      clear p0 p1 p2 p3
      obtain ⟨p0, p1, p2, p3⟩ := HF.out w5 HBw5.out
      go_wp2_with (go_at_call 18; refine (may17_any _ D l2 _ (HCD.out _ HBw5.out)).mono ?_; rw [HMD.out]; rintro e9 w6 ⟨rfl, hb_w6⟩; refine Hid.out ?_)
      refine Lib.hid ?_
      have Hw6 : Hid (Below w5.heap.size w5 w6) := hb_w6
      have HBw6 : Hid (Below w0.heap.size w0 w6) := HBw5.out.trans (Hw6.out.mono HBw5.out.size)
      have hsw6 := hb_w6.size
      have HGw6 : Hid (w6.heap[g]? = some (.cells #[.slice none 0 0, .int .i64 0] 24 (0, 0))) := (Hw6.out.block _ HGGw5.out).trans HGw5.out
      have HGGw6 : Hid (g < w6.heap.size) := (Array.getElem?_eq_some_iff.1 HGw6.out).1
      clear hb_w6
      clear p0 p1 p2 p3
      obtain ⟨p0, p1, p2, p3⟩ := HF.out w6 HBw6.out
      have q0 : w6.cell? ⟨g, 0, none⟩ = some (.slice none 0 0) := block_cell HGw6.out rfl
      have q1 : w6.cell? ⟨g, 1, none⟩ = some (.int .i64 0) := block_cell HGw6.out rfl
      have q2 : g < w6.heap.size := HGGw6.out
      go_wp2
      go_ret
      exact ⟨rfl, HB0.out.trans (HBw6.out.mono HB0.out.size)⟩

/-- A row of crossings lies in no block of two cells. -/
theorem crs_far {w : World} {B g : Nat} {v x y u u' : Value} {t : TypeId} {fz : Nat × Nat} {C : List Cr} (h : Crs w B v C) (hg : w.heap[g]? = some (.cells #[x, y] t fz)) : Crs (st2 w g 0 u u') B v C := by
  obtain ⟨a, cap, rfl, hn, f⟩ := h
  refine ⟨a, cap, rfl, hn, fun h0 => ?_⟩
  obtain ⟨b, off, rfl, hlt, hC⟩ := f h0
  have hne : b ≠ g := by
    intro e
    subst e
    have h4 := (hC 0 h0).2.2.2.2
    rw [cell_of_row w b _ _ _ _ hg] at h4
    rw [Array.getElem?_eq_none (by simp)] at h4
    cases h4
  have hs := st2_grown w g 0 u u'
  have hk : ∀ (o : Nat) (z : Value), w.cell? ⟨b, o, none⟩ = some z → (st2 w g 0 u u').cell? ⟨b, o, none⟩ = some z := fun o z hz => hs.cell hz (fun e => hne (Option.some.inj e))
  exact ⟨b, off, rfl, hlt, fun i hi => ⟨hk _ _ (hC i hi).1, hk _ _ (hC i hi).2.1, hk _ _ (hC i hi).2.2.1, hk _ _ (hC i hi).2.2.2.1, hk _ _ (hC i hi).2.2.2.2⟩⟩

set_option maxHeartbeats 8000000 in
set_option maxRecDepth 100000 in
theorem canonSums_yes (v v' : Value) (C D : List Cr) (l1 l2 x y : Int) (w : World) (hl : C.length * 40 ≤ 140737488355328) (hl' : D.length * 40 ≤ 140737488355328) (h : CrsW w w.heap.size v C) (h' : CrsW w w.heap.size v' D) (hm : mayD C l1 = true) (hm1 : mayD D l2 = true) :
    Calls Try.prog 11 #[.agg #[v, .int .i64 l1], .int .i64 x, .agg #[v', .int .i64 l2], .int .i64 y] w fun e w' => e = .returned (.bool true) ∧ Below w.heap.size w w' := by
  have HL : Hid (C.length * 40 ≤ 140737488355328) := hl
  have HL' : Hid (D.length * 40 ≤ 140737488355328) := hl'
  obtain ⟨a, cap, rfl⟩ := slice_CrsW h
  obtain ⟨a', cap', rfl⟩ := slice_CrsW h'
  obtain ⟨w0, hw0⟩ : ∃ w0, w0 = (w.alloc (.cells #[.slice a C.length cap, .int .i64 l1] 24)).alloc (.cells #[.slice a' D.length cap', .int .i64 l2] 24) := ⟨_, rfl⟩
  have HW0 : Hid (w0 = (w.alloc (.cells #[.slice a C.length cap, .int .i64 l1] 24)).alloc (.cells #[.slice a' D.length cap', .int .i64 l2] 24)) := hw0
  have hs0 : w.heap.size + 2 ≤ w0.heap.size := by rw [hw0]; simp
  have HB0 : Hid (Below w.heap.size w w0) := (by rw [hw0]; exact below2 _ _ _ : Below w.heap.size w w0)
  have HT0 : Hid (w0.heap[w.heap.size]? = some (.cells #[.slice a C.length cap, .int .i64 l1] 24 (0, 0))) := (by rw [hw0]; exact alloc_old (alloc_at rfl) : w0.heap[w.heap.size]? = some (.cells #[.slice a C.length cap, .int .i64 l1] 24 (0, 0)))
  have HT1 : Hid (w0.heap[w.heap.size + 1]? = some (.cells #[.slice a' D.length cap', .int .i64 l2] 24 (0, 0))) := (by rw [hw0]; exact alloc_at (by simp) : w0.heap[w.heap.size + 1]? = some (.cells #[.slice a' D.length cap', .int .i64 l2] 24 (0, 0)))
  have HC0 : Hid (∀ w', Below w0.heap.size w0 w' → CrsW w' w'.heap.size (.slice a C.length cap) C) := fun w' hb => (h.up HB0.out).up hb
  have HC0' : Hid (∀ w', Below w0.heap.size w0 w' → CrsW w' w'.heap.size (.slice a' D.length cap') D) := fun w' hb => (h'.up HB0.out).up hb
  have HCC : Hid (∀ w', Below w0.heap.size w0 w' → Crs w' w'.heap.size (.slice a C.length cap) C) := fun w' hb => (HC0.out w' hb).crs (by have := HL.out; unfold maxLen; omega)
  have HCD : Hid (∀ w', Below w0.heap.size w0 w' → Crs w' w'.heap.size (.slice a' D.length cap') D) := fun w' hb => (HC0'.out w' hb).crs (by have := HL'.out; unfold maxLen; omega)
  have HF : Hid (∀ w', Below w0.heap.size w0 w' → w'.cell? ⟨w.heap.size, 0, none⟩ = some (.slice a C.length cap) ∧ w'.cell? ⟨w.heap.size, 1, none⟩ = some (.int .i64 l1) ∧ w'.cell? ⟨w.heap.size + 1, 0, none⟩ = some (.slice a' D.length cap') ∧ w'.cell? ⟨w.heap.size + 1, 1, none⟩ = some (.int .i64 l2)) := fun w' hb => by
    have g0 := (hb.block _ (by omega)).trans HT0.out
    have g1 := (hb.block _ (by omega)).trans HT1.out
    exact ⟨block_cell g0 rfl, block_cell g0 rfl, block_cell g1 rfl, block_cell g1 rfl⟩
  have HD0 : Hid (Below w0.heap.size w0 w0.drew) := (Below.refl _ _).drew
  have HM : Hid (mayD C l1 = true) := hm
  have HM1 : Hid (mayD D l2 = true) := hm1
  obtain ⟨sl, se, R, hsum, hsof⟩ : ∃ (sl se : Int) (R : List Cr), (∀ (v1 v2 : Value) (W : World), Crs W W.heap.size v1 C → Crs W W.heap.size v2 D → Calls Try.prog 42 #[.agg #[v1, .int .i64 l1], .int .i64 x, .agg #[v2, .int .i64 l2], .int .i64 y] W fun e w' => ∃ r, e = .returned (.tuple #[.agg #[r, .int .i64 sl], .int .i64 se]) ∧ Crs w' w'.heap.size r R ∧ Below W.heap.size W w') ∧ (∀ (v1 v2 : Value) (W : World), Crs W W.heap.size v1 C → Crs W W.heap.size v2 D → Calls Try.prog 43 #[.agg #[v1, .int .i64 l1], .int .i64 x, .agg #[v2, .int .i64 l2], .int .i64 y] W fun e w' => ∃ r, e = .returned (.tuple #[.agg #[r, .int .i64 sl], .int .i64 se]) ∧ Crs w' w'.heap.size r R ∧ Below W.heap.size W w') := ⟨sumL C D l1 l2 x y, sumE C D l1 l2 x y, sumR C D l1 l2 x y, fun v1 v2 W h1 h2 => sum_any v1 v2 C D l1 l2 x y W h1 h2 hm hm1, fun v1 v2 W h1 h2 => sumOf_any v1 v2 C D l1 l2 x y W h1 h2 hm hm1⟩
  have HSUM : Hid (∀ (v1 v2 : Value) (W : World), Crs W W.heap.size v1 C → Crs W W.heap.size v2 D → Calls Try.prog 42 #[.agg #[v1, .int .i64 l1], .int .i64 x, .agg #[v2, .int .i64 l2], .int .i64 y] W fun e w' => ∃ r, e = .returned (.tuple #[.agg #[r, .int .i64 sl], .int .i64 se]) ∧ Crs w' w'.heap.size r R ∧ Below W.heap.size W w') := hsum
  have HSOF : Hid (∀ (v1 v2 : Value) (W : World), Crs W W.heap.size v1 C → Crs W W.heap.size v2 D → Calls Try.prog 43 #[.agg #[v1, .int .i64 l1], .int .i64 x, .agg #[v2, .int .i64 l2], .int .i64 y] W fun e w' => ∃ r, e = .returned (.tuple #[.agg #[r, .int .i64 sl], .int .i64 se]) ∧ Crs w' w'.heap.size r R ∧ Below W.heap.size W w') := hsof
  clear hm hm1 hsum hsof hw0 h h' hl hl'
  obtain ⟨p0, p1, p2, p3⟩ := HF.out w0 (Below.refl _ _)
  go_enter Try.func11, Try.ntmps11
  go_wp2
  rw [← HW0.out]
  go_region_held3 (fun w' => w'.cell? ⟨w.heap.size, 0, none⟩ = some (.slice a C.length cap) ∧ w'.cell? ⟨w.heap.size, 1, none⟩ = some (.int .i64 l1) ∧ w'.cell? ⟨w.heap.size + 1, 0, none⟩ = some (.slice a' D.length cap') ∧ w'.cell? ⟨w.heap.size + 1, 1, none⟩ = some (.int .i64 l2)) (first | exact HF.out _ H3.out | exact HF.out _ (H3.out.alloc H3.out.size _) | exact HF.out _ (HST.out _ _) | exact HF.out _ H2.out | exact HF.out _ (H2.out.alloc H2.out.size _) | exact HF.out _ H1.out | exact HF.out _ (H1.out.alloc H1.out.size _) | exact HF.out _ HD0.out | exact HF.out _ (HD0.out.alloc HD0.out.size _) | go_keep) (first
    | (go_at_call 42; refine (HSUM.out _ _ _ (HC12.out.up (by first | exact Below.refl _ _ | exact (Below.refl _ _).alloc (Nat.le_refl _) _)) (HC2.out.up (by first | exact Below.refl _ _ | exact (Below.refl _ _).alloc (Nat.le_refl _) _))).mono ?_; rintro e9 w3 ⟨r, rfl, hcr, hb3⟩; obtain ⟨ar, cr, rfl⟩ := slice_Crs hcr; have HRR : Hid (Crs w3 w3.heap.size (.slice ar R.length cr) R) := hcr; clear hcr
       have H3 : Hid (Below w0.heap.size w0 w3) := (by first | exact H2.out.trans (hb3.mono H2.out.size) | exact (H2.out.alloc H2.out.size _).trans (hb3.mono (H2.out.alloc H2.out.size (.cells #[.slice none 0 0, .int .i64 0] 24)).size))
       first
         | (have G3 : Hid (w3.heap[w2.heap.size]? = some (.cells #[.slice none 0 0, .int .i64 0] 24 (0, 0))) := (hb3.block _ (by simp)).trans (alloc_at rfl)
            have HST : Hid (∀ u v, Below w0.heap.size w0 (st2 w3 (w2.heap.size) 0 u v)) := fun u v => H3.out.grown (st2_grown w3 (w2.heap.size) 0 u v) H3.out.size (fun q hq => by have := Option.some.inj hq; have := H2.out.size; omega))
         | (have G3 : Hid (w3.heap[w1.heap.size]? = some (.cells #[.slice none 0 0, .int .i64 0] 24 (0, 0))) := (hb3.block _ (Array.getElem?_eq_some_iff.1 G2.out).1).trans G2.out
            have HST : Hid (∀ u v, Below w0.heap.size w0 (st2 w3 (w1.heap.size) 0 u v)) := fun u v => H3.out.grown (st2_grown w3 (w1.heap.size) 0 u v) H3.out.size (fun q hq => by have := Option.some.inj hq; have := H1.out.size; omega))
         | (have G3 : Hid (w3.heap[w0.heap.size]? = some (.cells #[.slice none 0 0, .int .i64 0] 24 (0, 0))) := (hb3.block _ (Array.getElem?_eq_some_iff.1 G2.out).1).trans G2.out
            have HST : Hid (∀ u v, Below w0.heap.size w0 (st2 w3 (w0.heap.size) 0 u v)) := fun u v => H3.out.grown (st2_grown w3 (w0.heap.size) 0 u v) H3.out.size (fun q hq => by have := Option.some.inj hq; have := hs0; omega))
         | skip
       try have r0 := block_cell (i := 0) (v := .slice none 0 0) G3.out rfl
       try have r1 := block_cell (i := 1) (v := .int .i64 0) G3.out rfl
       try have f0 := block_frozen (i := 0) G3.out
       try have f1 := block_frozen (i := 1) G3.out
       try have r2 := (Array.getElem?_eq_some_iff.1 G3.out).1
       clear hb3)
    | (go_at_call 15; have hAA := H1; clear hAA; refine (diagramOf_any _ D l2 _ HL'.out (HC0'.out _ (by first | exact H1.out | exact H1.out.alloc H1.out.size _))).mono ?_; rintro e9 w2 ⟨v2, rfl, hc2, hb2⟩
       obtain ⟨a2, c2, rfl⟩ := slice_Crs hc2
       have H12 : Hid (Below w1.heap.size w1 w2) := (by first | exact hb2 | exact ((Below.refl _ _).alloc (Nat.le_refl _) (.cells #[.slice none 0 0, .int .i64 0] 24)).trans (hb2.mono (by simp)))
       have H2 : Hid (Below w0.heap.size w0 w2) := H1.out.trans (H12.out.mono H1.out.size)
       have HC2 : Hid (Crs w2 w2.heap.size (.slice a2 D.length c2) D) := hc2
       have HC12 : Hid (Crs w2 w2.heap.size (.slice a1 C.length c1) C) := HC1.out.up H12.out
       first
         | have G2 : Hid (w2.heap[w1.heap.size]? = some (.cells #[.slice none 0 0, .int .i64 0] 24 (0, 0))) := (hb2.block _ (by simp)).trans (alloc_at rfl)
         | have G2 : Hid (w2.heap[w0.heap.size]? = some (.cells #[.slice none 0 0, .int .i64 0] 24 (0, 0))) := (hb2.block _ (Array.getElem?_eq_some_iff.1 G1.out).1).trans G1.out
         | skip
       clear hb2 hc2)
    | (go_at_call 15; refine (diagramOf_any _ C l1 _ HL.out (HC0.out _ (by first | exact HD0.out | exact HD0.out.alloc HD0.out.size _))).mono ?_; rintro e9 w1 ⟨v1, rfl, hc1, hb1⟩
       obtain ⟨a1, c1, rfl⟩ := slice_Crs hc1
       have H1 : Hid (Below w0.heap.size w0 w1) := (by first | exact HD0.out.trans (hb1.mono HD0.out.size) | exact (HD0.out.alloc HD0.out.size _).trans (hb1.mono (HD0.out.alloc HD0.out.size (.cells #[.slice none 0 0, .int .i64 0] 24)).size))
       have HC1 : Hid (Crs w1 w1.heap.size (.slice a1 C.length c1) C) := hc1
       first
         | have G1 : Hid (w1.heap[w0.heap.size]? = some (.cells #[.slice none 0 0, .int .i64 0] 24 (0, 0))) := (hb1.block _ (by simp)).trans (alloc_at rfl)
         | skip
       clear hb1 hc1))
  all_goals first
    | (have hAA := G3; clear hAA
       obtain ⟨X, hX⟩ : ∃ X, X = st2 w3 w2.heap.size 0 (.slice ar R.length cr) (.int .i64 sl) := ⟨_, rfl⟩
       have HX : Hid (X = (w3.setCell ⟨w2.heap.size, 0, none⟩ (.slice ar R.length cr)).setCell ⟨w2.heap.size, 1, none⟩ (.int .i64 sl)) := hX
       have HBX : Hid (Below w0.heap.size w0 X) := (by rw [hX]; exact HST.out _ _ : Below w0.heap.size w0 X)
       have HRX : Hid (Crs X X.heap.size (.slice ar R.length cr) R) := (by rw [hX]; exact (crs_far HRR.out G3.out).mono (by simp [st2]) : Crs X X.heap.size (.slice ar R.length cr) R)
       have HG : Hid (X.heap[w2.heap.size]? = some (.cells #[.slice ar R.length cr, .int .i64 sl] 24 (0, 0))) := (by rw [hX]; exact set_block (i := 1) (set_block (i := 0) G3.out) : X.heap[w2.heap.size]? = some (.cells #[.slice ar R.length cr, .int .i64 sl] 24 (0, 0)))
       have HGG : Hid (w2.heap.size < X.heap.size) := (Array.getElem?_eq_some_iff.1 HG.out).1
       clear hX
       rw [← HX.out]
       obtain ⟨g, hg⟩ : ∃ g, w2.heap.size = g := ⟨_, rfl⟩
       rw [hg] at HG HGG ⊢
       clear hg HX)
    | (have hAA := G3; clear hAA
       obtain ⟨X, hX⟩ : ∃ X, X = st2 w3 w1.heap.size 0 (.slice ar R.length cr) (.int .i64 sl) := ⟨_, rfl⟩
       have HX : Hid (X = (w3.setCell ⟨w1.heap.size, 0, none⟩ (.slice ar R.length cr)).setCell ⟨w1.heap.size, 1, none⟩ (.int .i64 sl)) := hX
       have HBX : Hid (Below w0.heap.size w0 X) := (by rw [hX]; exact HST.out _ _ : Below w0.heap.size w0 X)
       have HRX : Hid (Crs X X.heap.size (.slice ar R.length cr) R) := (by rw [hX]; exact (crs_far HRR.out G3.out).mono (by simp [st2]) : Crs X X.heap.size (.slice ar R.length cr) R)
       have HG : Hid (X.heap[w1.heap.size]? = some (.cells #[.slice ar R.length cr, .int .i64 sl] 24 (0, 0))) := (by rw [hX]; exact set_block (i := 1) (set_block (i := 0) G3.out) : X.heap[w1.heap.size]? = some (.cells #[.slice ar R.length cr, .int .i64 sl] 24 (0, 0)))
       have HGG : Hid (w1.heap.size < X.heap.size) := (Array.getElem?_eq_some_iff.1 HG.out).1
       clear hX
       rw [← HX.out]
       obtain ⟨g, hg⟩ : ∃ g, w1.heap.size = g := ⟨_, rfl⟩
       rw [hg] at HG HGG ⊢
       clear hg HX)
    | (have hAA := G3; clear hAA
       obtain ⟨X, hX⟩ : ∃ X, X = st2 w3 w0.heap.size 0 (.slice ar R.length cr) (.int .i64 sl) := ⟨_, rfl⟩
       have HX : Hid (X = (w3.setCell ⟨w0.heap.size, 0, none⟩ (.slice ar R.length cr)).setCell ⟨w0.heap.size, 1, none⟩ (.int .i64 sl)) := hX
       have HBX : Hid (Below w0.heap.size w0 X) := (by rw [hX]; exact HST.out _ _ : Below w0.heap.size w0 X)
       have HRX : Hid (Crs X X.heap.size (.slice ar R.length cr) R) := (by rw [hX]; exact (crs_far HRR.out G3.out).mono (by simp [st2]) : Crs X X.heap.size (.slice ar R.length cr) R)
       have HG : Hid (X.heap[w0.heap.size]? = some (.cells #[.slice ar R.length cr, .int .i64 sl] 24 (0, 0))) := (by rw [hX]; exact set_block (i := 1) (set_block (i := 0) G3.out) : X.heap[w0.heap.size]? = some (.cells #[.slice ar R.length cr, .int .i64 sl] 24 (0, 0)))
       have HGG : Hid (w0.heap.size < X.heap.size) := (Array.getElem?_eq_some_iff.1 HG.out).1
       clear hX
       rw [← HX.out]
       obtain ⟨g, hg⟩ : ∃ g, w0.heap.size = g := ⟨_, rfl⟩
       rw [hg] at HG HGG ⊢
       clear hg HX)
    | (obtain ⟨X, hX⟩ : ∃ X, X = w3.alloc (.cells #[.slice ar R.length cr, .int .i64 sl] 24) := ⟨_, rfl⟩
       have HX : Hid (X = w3.alloc (.cells #[.slice ar R.length cr, .int .i64 sl] 24)) := hX
       have HBX : Hid (Below w0.heap.size w0 X) := (by rw [hX]; exact H3.out.alloc H3.out.size _ : Below w0.heap.size w0 X)
       have HRX : Hid (Crs X X.heap.size (.slice ar R.length cr) R) := (by rw [hX]; exact HRR.out.up ((Below.refl _ _).alloc (Nat.le_refl _) _) : Crs X X.heap.size (.slice ar R.length cr) R)
       have HG : Hid (X.heap[w3.heap.size]? = some (.cells #[.slice ar R.length cr, .int .i64 sl] 24 (0, 0))) := (by rw [hX]; exact alloc_at rfl : X.heap[w3.heap.size]? = some (.cells #[.slice ar R.length cr, .int .i64 sl] 24 (0, 0)))
       have HGG : Hid (w3.heap.size < X.heap.size) := (Array.getElem?_eq_some_iff.1 HG.out).1
       clear hX
       rw [← HX.out]
       obtain ⟨g, hg⟩ : ∃ g, w3.heap.size = g := ⟨_, rfl⟩
       rw [hg] at HG HGG ⊢
       clear hg HX)
  all_goals
    clear p0 p1 p2 p3
    obtain ⟨p0, p1, p2, p3⟩ := HF.out X HBX.out
    have hXw := HBX.out.size
    have HGX : Hid (X.heap[g]? = some (.cells #[.slice ar R.length cr, .int .i64 sl] 24 (0, 0))) := HG.out
    have HGGX : Hid (g < X.heap.size) := HGG.out
    go_wp2_with (go_at_call 18; refine (may17_any _ C l1 _ (HCC.out _ HBX.out)).mono ?_; rw [HM.out]; rintro e9 w5 ⟨rfl, hb_w5⟩; refine Hid.out ?_)
    refine Lib.hid ?_
    have Hw5 : Hid (Below X.heap.size X w5) := hb_w5
    have HBw5 : Hid (Below w0.heap.size w0 w5) := HBX.out.trans (Hw5.out.mono HBX.out.size)
    have hsw5 := hb_w5.size
    have HGw5 : Hid (w5.heap[g]? = some (.cells #[.slice ar R.length cr, .int .i64 sl] 24 (0, 0))) := (Hw5.out.block _ HGGX.out).trans HGX.out
    have HGGw5 : Hid (g < w5.heap.size) := (Array.getElem?_eq_some_iff.1 HGw5.out).1
    clear hb_w5
    clear p0 p1 p2 p3
    obtain ⟨p0, p1, p2, p3⟩ := HF.out w5 HBw5.out
    go_wp2_with (go_at_call 18; refine (may17_any _ D l2 _ (HCD.out _ HBw5.out)).mono ?_; rw [HM1.out]; rintro e9 w6 ⟨rfl, hb_w6⟩; refine Hid.out ?_)
    refine Lib.hid ?_
    have Hw6 : Hid (Below w5.heap.size w5 w6) := hb_w6
    have HBw6 : Hid (Below w0.heap.size w0 w6) := HBw5.out.trans (Hw6.out.mono HBw5.out.size)
    have hsw6 := hb_w6.size
    have HGw6 : Hid (w6.heap[g]? = some (.cells #[.slice ar R.length cr, .int .i64 sl] 24 (0, 0))) := (Hw6.out.block _ HGGw5.out).trans HGw5.out
    have HGGw6 : Hid (g < w6.heap.size) := (Array.getElem?_eq_some_iff.1 HGw6.out).1
    clear hb_w6
    clear p0 p1 p2 p3
    obtain ⟨p0, p1, p2, p3⟩ := HF.out w6 HBw6.out
    have HX6 : Hid (Below X.heap.size X w6) := Hw5.out.trans (Hw6.out.mono Hw5.out.size)
    go_wp2_with (go_at_call 43; refine (HSOF.out _ _ _ (HCC.out _ HBw6.out) (HCD.out _ HBw6.out)).mono ?_; rintro e9 w7 ⟨r7, rfl, hc7, hb7⟩; refine Hid.out ?_)
    refine Lib.hid ?_
    obtain ⟨as7, cs7, rfl⟩ := slice_Crs hc7
    have HRS : Hid (Crs w7 w7.heap.size (.slice as7 R.length cs7) R) := hc7
    have HX7 : Hid (Below X.heap.size X w7) := HX6.out.trans (hb7.mono HX6.out.size)
    clear hb7 hc7 p0 p1 p2 p3
    obtain ⟨Y, hY⟩ : ∃ Y, Y = w7.alloc (.cells #[.slice as7 R.length cs7, .int .i64 sl] 24) := ⟨_, rfl⟩
    have HY : Hid (Y = w7.alloc (.cells #[.slice as7 R.length cs7, .int .i64 sl] 24)) := hY
    have hsY : Y.heap.size = w7.heap.size + 1 := by rw [hY]; simp
    have H7Y : Hid (Below w7.heap.size w7 Y) := (by rw [hY]; exact (Below.refl _ _).alloc (Nat.le_refl _) _ : Below w7.heap.size w7 Y)
    have HTY : Hid (Y.heap[w7.heap.size]? = some (.cells #[.slice as7 R.length cs7, .int .i64 sl] 24 (0, 0))) := (by rw [hY]; exact alloc_at rfl : Y.heap[w7.heap.size]? = some (.cells #[.slice as7 R.length cs7, .int .i64 sl] 24 (0, 0)))
    have HXY : Hid (Below X.heap.size X Y) := HX7.out.trans (H7Y.out.mono HX7.out.size)
    clear hY
    have hgX := HGGX.out
    have hXY := HXY.out.size
    have HFY : Hid (∀ w', Below Y.heap.size Y w' → w'.cell? ⟨g, 0, none⟩ = some (.slice ar R.length cr) ∧ w'.cell? ⟨g, 1, none⟩ = some (.int .i64 sl) ∧ w'.cell? ⟨w7.heap.size, 0, none⟩ = some (.slice as7 R.length cs7) ∧ w'.cell? ⟨w7.heap.size, 1, none⟩ = some (.int .i64 sl)) := fun w' hw' => by
      have g1 := (hw'.block _ (by omega)).trans ((HXY.out.block _ hgX).trans HGX.out)
      have g2 := (hw'.block _ (by omega)).trans HTY.out
      exact ⟨block_cell g1 rfl, block_cell g1 rfl, block_cell g2 rfl, block_cell g2 rfl⟩
    have HDY : Hid (Below Y.heap.size Y Y.drew) := (Below.refl _ _).drew
    have hse : (se == se) = true := by simp
    have hgY : g < Y.heap.size := by omega
    have h7Y : w7.heap.size < Y.heap.size := by omega
    have HG7 := (HX7.out.block _ hgX).trans HGX.out
    have q0 : w7.cell? ⟨g, 0, none⟩ = some (.slice ar R.length cr) := block_cell HG7 rfl
    have q1 : w7.cell? ⟨g, 1, none⟩ = some (.int .i64 sl) := block_cell HG7 rfl
    have q2 : g < w7.heap.size := (Array.getElem?_eq_some_iff.1 HG7).1
    clear HG7
    go_wp2_with (go_at_call 31; rw [← HY.out]; refine (sameDiagram_eq _ _ R sl _ (HRX.out.up HXY.out) (HRS.out.up H7Y.out)).mono ?_; rintro e9 wQ ⟨rfl, hbQ⟩; refine Hid.out ?_)
    refine Lib.hid ?_
    go_wp2
    go_ret
    exact ⟨rfl, HB0.out.trans ((HBX.out.trans ((HXY.out.trans (hbQ.mono hXY)).mono HBX.out.size)).mono HB0.out.size)⟩

theorem canonSums_any (v v' : Value) (C D : List Cr) (l1 l2 x y : Int) (w : World) (hl : C.length * 40 ≤ 140737488355328) (hl' : D.length * 40 ≤ 140737488355328) (h : CrsW w w.heap.size v C) (h' : CrsW w w.heap.size v' D) :
    Calls Try.prog 11 #[.agg #[v, .int .i64 l1], .int .i64 x, .agg #[v', .int .i64 l2], .int .i64 y] w fun e w' => e = .returned (.bool true) ∧ Below w.heap.size w w' := by
  cases hm : mayD C l1 with
  | false => exact canonSums_no v v' C D l1 l2 x y w hl hl' h h' (by rw [hm]; rfl)
  | true =>
    cases hm1 : mayD D l2 with
    | false => exact canonSums_no v v' C D l1 l2 x y w hl hl' h h' (by rw [hm, hm1]; rfl)
    | true => exact canonSums_yes v v' C D l1 l2 x y w hl hl' h h' hm hm1
end Go.Proofs.Ytnmgeegmiijflaa
