/- The law TangleLinks: its walk. -/
import Derived.Test.YtphhlflcghffbaaTM12
import Derived.Test.YtphhlflcghffbaaTM9
import Derived.Test.YtphhlflcghffbaaTL15
import Derived.Test.YtphhlflcghffbaaK1P
import Derived.Test.YtphhlflcghffbaaIl
import Derived.Deep.RegionHeld3
import Derived.Deep.Cut
namespace Go.Proofs.Ytphhlflcghffbaa
open Go.RowKit

theorem rsP_low (l : List Int) : ∀ p ∈ rsP (rsL l l.length), p.1 < 4 * szTo l l.length + 4 ∧ p.2 < 4 * szTo l l.length + 4 := by
  have h := Iv.all l l.length
  intro p hp
  have e : rsP (rsL l l.length) = (rsL l l.length).P ++ [(eR (rsL l l.length) 0, eR (rsL l l.length) 1)] ++ [(eR (rsL l l.length) 2, eR (rsL l l.length) 3)] := rfl
  rw [e] at hp
  have hD : ∀ x, Dom (szTo l l.length) x → x < 4 * szTo l l.length + 4 := fun x hx => hx
  rcases List.mem_append.1 hp with hp | hp
  · rcases List.mem_append.1 hp with hp | hp
    · exact ⟨hD _ (h.pD p.1 ⟨p, hp, Or.inl rfl⟩).1, hD _ (h.pD p.2 ⟨p, hp, Or.inr rfl⟩).1⟩
    · rw [List.mem_singleton.1 hp]
      exact ⟨hD _ (h.eD 0 (by decide)), hD _ (h.eD 1 (by decide))⟩
  · rw [List.mem_singleton.1 hp]
    exact ⟨hD _ (h.eD 2 (by decide)), hD _ (h.eD 3 (by decide))⟩
theorem rsP_len (l : List Int) : (rsP (rsL l l.length)).length = 2 * szTo l l.length + 2 := by
  unfold rsP
  rw [List.length_append, List.length_append, rsL_len]
  rfl
/-- ref.LinkOf tells the very link that tangle.Link tells. -/
theorem linkOf_lk (a : Option Addr) (cap : Nat) (l : List Int) (w : World) (hl : l.length ≤ 140737488355328) (hn : szTo l l.length ≤ 16) (hr : ∀ j, j < l.length → -16 ≤ l.getD j 0 ∧ l.getD j 0 ≤ 16) (h : RdAt w w.heap.size 1 (.slice a l.length cap) l.length (intsV l)) :
    Calls Try.prog 39 #[.slice a l.length cap] w fun e w' => ∃ a2 c2, e = .returned (.agg #[.slice a2 (szTo l l.length) c2, .int .i64 (lkO l : Nat)]) ∧ w'.ownsRow (w.heap.size + 1) 105 5 (.slice a2 (szTo l l.length) c2) (szTo l l.length) (crossCells (lkC (szTo l l.length) (lkU l))) ∧ Below w.heap.size w w' := by
  refine linkOf_any a cap l (szTo l l.length) ((lkO l : Nat) : Int) (lkC (szTo l l.length) (lkU l)) w hl rfl hn hr h (fun W gA gB cA cB hP => ?_)
  have hw := walkedR_any (w.heap.size + 6) (rsP (rsL l l.length)) gA gB cA cB (2 * szTo l l.length + 2) (szTo l l.length) (lkU l) W hP (rsP_len l) (by omega) (lk_prs l).1 (lkU_ties l) hn (fun i hi => ?_)
  · have e : loP (rsP (rsL l l.length)) = lkO l := (lk_prs l).2.symm
    rw [e] at hw
    exact hw
  · have hi' : i < (rsP (rsL l l.length)).length := by rw [rsP_len]; exact hi
    have hm := rsP_low l ((rsP (rsL l l.length)).getD i (0, 0)) (by rw [List.getD_eq_getElem?_getD, List.getElem?_eq_getElem hi']; exact List.getElem_mem hi')
    omega

set_option maxHeartbeats 4000000 in
set_option maxRecDepth 100000 in
theorem tangleLinks_any (a : Option Addr) (c : Nat) (l : List Int) (w : World) (hl : l.length * 8 ≤ 140737488355328) (h : InAt w w.heap.size 1 (.slice a l.length c) l.length (intsV l)) :
    Calls Try.prog 8 #[.slice a l.length c] w fun e w' => e = .returned (.bool true) ∧ Below w.heap.size w w' := by
  have HI : Hid (InAt w w.heap.size 1 (.slice a l.length c) l.length (intsV l)) := h
  have HL : Hid (l.length * 8 ≤ 140737488355328) := hl
  have HR : Hid (∀ W, Below w.heap.size w W → RdAt W W.heap.size 1 (.slice a l.length c) l.length (intsV l)) := fun W hW => (h.rdI.on hW).mono hW.size
  have HM : Hid (∀ W, Below w.heap.size w W → Calls Try.prog 38 #[.slice a l.length c] W fun e w' => e = .returned (.int .i64 (listN l)) ∧ Below W.heap.size W w') := fun W hW => listMay_any a c l W (by omega) (HR.out W hW)
  clear h hl
  by_cases hn : listN l = 0
  · have HF : Hid (∀ a' c' W, RdAt W W.heap.size 1 (.slice a' l.length c') l.length (intsV l) → Calls Try.prog 36 #[.slice a' l.length c'] W fun e w' => ∃ a2 cap2, e = .returned (.tuple #[.agg #[.slice a2 (szTo l l.length) cap2, .int .i64 (lkO l : Nat)], .int .i64 0]) ∧ Crs w' w'.heap.size (.slice a2 (szTo l l.length) cap2) (lkC (szTo l l.length) (lkU l)) ∧ Below W.heap.size W w') := fun a' c' W hW => link_yes a' c' l W (by have := HL.out; omega) hn hW
    obtain ⟨g1, g2, g3⟩ := listN_ok hn
    have HG : Hid (∀ W, Below w.heap.size w W → Calls Try.prog 39 #[.slice a l.length c] W fun e w' => ∃ a2 c2, e = .returned (.agg #[.slice a2 (szTo l l.length) c2, .int .i64 (lkO l : Nat)]) ∧ w'.ownsRow (W.heap.size + 1) 105 5 (.slice a2 (szTo l l.length) c2) (szTo l l.length) (crossCells (lkC (szTo l l.length) (lkU l))) ∧ Below W.heap.size W w') := fun W hW => linkOf_lk a c l W (by have := HL.out; omega) g3 g1 (HR.out W hW)
    have HLC : Hid ((lkC (szTo l l.length) (lkU l)).length = szTo l l.length) := (by simp [lkC] : (lkC (szTo l l.length) (lkU l)).length = szTo l l.length)
    have HSM : Hid (szTo l l.length ≤ 16) := g3
    rw [hn] at HM
    generalize lkC (szTo l l.length) (lkU l) = CC at HF HG HLC
    generalize szTo l l.length = N at HF HG HLC HSM
    generalize lkO l = lo at HF HG
    clear hn g1 g2 g3
    go_enter Try.func8, Try.ntmps8
    go_wp2_with (go_at_call 37; refine (intsL_copy a c l _ HL.out HI.out).mono ?_; rintro e9 w1 ⟨a1, c1, rfl, hr1, hb1⟩; refine Hid.out ?_)
    refine Lib.hid ?_
    have HB1 : Hid (Below w.heap.size w w1) := hb1
    have HR1 : Hid (RdAt w1 w1.heap.size 1 (.slice a1 l.length c1) l.length (intsV l)) := hr1
    clear hb1 hr1
    go_wp2_with (go_at_call 36; refine (HF.out a1 c1 _ HR1.out).mono ?_; rintro e9 w2 ⟨b2, d2, rfl, hc2, hb2⟩; refine Hid.out ?_)
    refine Lib.hid ?_
    have HB2 : Hid (Below w.heap.size w w2) := HB1.out.trans (hb2.mono HB1.out.size)
    have HC2 : Hid (Crs w2 w2.heap.size (.slice b2 N d2) CC) := hc2
    clear hb2 hc2
    obtain ⟨V, hV⟩ : ∃ V, V = w2.alloc (.cells #[.slice b2 N d2, .int .i64 (lo : Nat)] 24) := ⟨_, rfl⟩
    have HV : Hid (V = w2.alloc (.cells #[.slice b2 N d2, .int .i64 (lo : Nat)] 24)) := hV
    obtain ⟨gd, hgd⟩ : ∃ gd, w2.heap.size = gd := ⟨_, rfl⟩
    have HBV : Hid (Below w2.heap.size w2 V) := (by rw [hV]; exact (Below.refl _ _).alloc (Nat.le_refl _) _ : Below w2.heap.size w2 V)
    have HTV : Hid (V.heap[gd]? = some (.cells #[.slice b2 N d2, .int .i64 (lo : Nat)] 24 (0, 0))) := (by rw [hV, ← hgd]; exact box_at _ _)
    have HWV : Hid (Below w.heap.size w V) := HB2.out.trans (HBV.out.mono HB2.out.size)
    have HCV : Hid (Crs V V.heap.size (.slice b2 N d2) CC) := HC2.out.up HBV.out
    clear hV
    go_wp2_with (rw [← HV.out]; go_at_call 38; refine (HM.out _ HWV.out).mono ?_; rintro e9 w3 ⟨rfl, hb3⟩; refine Hid.out ?_)
    refine Lib.hid ?_
    have HV3 : Hid (Below V.heap.size V w3) := hb3
    have HD1 : Hid (Below V.heap.size V w3.drew) := hb3.trans ((Below.refl _ _).drew.mono hb3.size)
    have HWD : Hid (Below w.heap.size w w3.drew) := HWV.out.trans (HD1.out.mono HWV.out.size)
    have HKP : Hid (∀ W, Below V.heap.size V W → W.cell? ⟨gd, 0, none⟩ = some (.slice b2 N d2) ∧ W.cell? ⟨gd, 1, none⟩ = some (.int .i64 (lo : Nat))) := fun W hW => by
      have g0 := (hW.block _ (Array.getElem?_eq_some_iff.1 HTV.out).1).trans HTV.out
      exact ⟨block_cell g0 rfl, block_cell g0 rfl⟩
    have lgd : gd < w3.heap.size := Nat.lt_of_lt_of_le (Array.getElem?_eq_some_iff.1 HTV.out).1 hb3.size
    clear hb3 hgd
    go_upto_region 5 with (fail)
    go_region_held3 (fun w' => w'.cell? ⟨gd, 0, none⟩ = some (.slice b2 N d2) ∧ w'.cell? ⟨gd, 1, none⟩ = some (.int .i64 (lo : Nat))) (first | exact HKP.out _ HS8.out | exact HKP.out _ HS7.out | exact HKP.out _ HD1.out | exact HKP.out _ HV3.out) (first
      | (go_at_call 24; refine (sameDiagram_eq _ _ CC (lo : Int) _ (HCV.out.up HS7.out) HR7.out).mono ?_; rintro e9 w8 ⟨rfl, hb8⟩; have HS8 : Hid (Below V.heap.size V w8) := HS7.out.trans (hb8.mono HS7.out.size); clear hb8)
      | (go_at_call 39; refine (HG.out _ HWD.out).mono ?_; rintro e9 w7 ⟨a7, c7, rfl, hr7, hb7⟩; have HS7 : Hid (Below V.heap.size V w7) := HD1.out.trans (hb7.mono HD1.out.size); have HR7 : Hid (Crs w7 w7.heap.size (.slice a7 N c7) CC) := crs_own (by rw [HLC.out]; exact hr7) (by have h1 := HLC.out; have h2 := HSM.out; unfold maxLen; omega); clear hr7 hb7))
    go_wp2
    go_ret
    exact ⟨by first | rfl | simp, HWV.out.trans (HS8.out.mono HWV.out.size)⟩
  · have HF : Hid (∀ a' c' W, RdAt W W.heap.size 1 (.slice a' l.length c') l.length (intsV l) → Calls Try.prog 36 #[.slice a' l.length c'] W fun e w' => e = .returned (.tuple #[.agg #[.slice none 0 0, .int .i64 0], .int .i64 (listN l)]) ∧ Below W.heap.size W w') := fun a' c' W hW => link_no a' c' l W (by have := HL.out; omega) hn hW
    generalize listN l = r at hn HF HM
    have hr0 : (r == 0) = false := beq_eq_false_iff_ne.2 hn
    have hrr : (r == r) = true := beq_self_eq_true r
    go_enter Try.func8, Try.ntmps8
    go_wp2_with (go_at_call 37; refine (intsL_copy a c l _ HL.out HI.out).mono ?_; rintro e9 w1 ⟨a1, c1, rfl, hr1, hb1⟩; refine Hid.out ?_)
    refine Lib.hid ?_
    have HB1 : Hid (Below w.heap.size w w1) := hb1
    have HR1 : Hid (RdAt w1 w1.heap.size 1 (.slice a1 l.length c1) l.length (intsV l)) := hr1
    clear hb1 hr1
    go_wp2_with (go_at_call 36; refine (HF.out a1 c1 _ HR1.out).mono ?_; rintro e9 w2 ⟨rfl, hb2⟩; refine Hid.out ?_)
    refine Lib.hid ?_
    have HB2 : Hid (Below w.heap.size w w2) := HB1.out.trans (hb2.mono HB1.out.size)
    clear hb2
    obtain ⟨V, hV⟩ : ∃ V, V = w2.alloc (.cells #[.slice none 0 0, .int .i64 0] 24) := ⟨_, rfl⟩
    have HV : Hid (V = w2.alloc (.cells #[.slice none 0 0, .int .i64 0] 24)) := hV
    obtain ⟨gd, hgd⟩ : ∃ gd, w2.heap.size = gd := ⟨_, rfl⟩
    have HBV : Hid (Below w2.heap.size w2 V) := (by rw [hV]; exact (Below.refl _ _).alloc (Nat.le_refl _) _ : Below w2.heap.size w2 V)
    have HTV : Hid (V.heap[gd]? = some (.cells #[.slice none 0 0, .int .i64 0] 24 (0, 0))) := (by rw [hV, ← hgd]; exact box_at _ _)
    have HWV : Hid (Below w.heap.size w V) := HB2.out.trans (HBV.out.mono HB2.out.size)
    clear hV
    go_wp2_with (rw [← HV.out]; go_at_call 38; refine (HM.out _ HWV.out).mono ?_; rintro e9 w3 ⟨rfl, hb3⟩; refine Hid.out ?_)
    refine Lib.hid ?_
    have HB3 : Hid (Below w.heap.size w w3) := HWV.out.trans (hb3.mono HWV.out.size)
    have g0 := (hb3.block _ (Array.getElem?_eq_some_iff.1 HTV.out).1).trans HTV.out
    have x0 : w3.cell? ⟨gd, 0, none⟩ = some (.slice none 0 0) := block_cell g0 rfl
    have x1 : w3.cell? ⟨gd, 1, none⟩ = some (.int .i64 0) := block_cell g0 rfl
    have lgd : gd < w3.heap.size := (Array.getElem?_eq_some_iff.1 g0).1
    clear hb3 hgd g0
    go_wp2
    go_ret
    exact ⟨by first | rfl | simp, HB3.out⟩
end Go.Proofs.Ytphhlflcghffbaa
