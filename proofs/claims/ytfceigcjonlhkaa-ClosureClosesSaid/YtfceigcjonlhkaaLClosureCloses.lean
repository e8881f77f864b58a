/- The law ClosureCloses: its walk. -/
import Derived.Test.YtfceigcjonlhkaaCL6
import Derived.Test.YtfceigcjonlhkaaK3
import Derived.Test.YtfceigcjonlhkaaIl
import Derived.Test.YtfceigcjonlhkaaBR2
import Derived.Deep.RegionHeld3
import Derived.Deep.Cut
namespace Go.Proofs.Ytfceigcjonlhkaa
open Go.RowKit

set_option maxHeartbeats 8000000 in
set_option maxRecDepth 100000 in
theorem closureCloses_any (n : Int) (a : Option Addr) (c : Nat) (l : List Int) (w : World) (hl : l.length * 8 ≤ 140737488355328) (h : InAt w w.heap.size 1 (.slice a l.length c) l.length (intsV l)) :
    Calls Try.prog 8 #[.int .i64 n, .slice a l.length c] w fun e w' => e = .returned (.bool true) ∧ Below w.heap.size w w' := by
  have HI : Hid (∀ W, Below w.heap.size w W → InAt W W.heap.size 1 (.slice a l.length c) l.length (intsV l)) := fun W hW => h.up hW
  have HL : Hid (l.length * 8 ≤ 140737488355328) := hl
  have HC : Hid (∀ W, Below w.heap.size w W → Calls Try.prog 35 #[.slice a l.length c] W fun e w' => ∃ a' c', e = .returned (.slice a' l.length c') ∧ RdAt w' w'.heap.size 1 (.slice a' l.length c') l.length (intsV l) ∧ Below W.heap.size W w') := fun W hW => intsL_copy a c l W hl (HI.out W hW)
  have HM : Hid (∀ W, Below w.heap.size w W → Calls Try.prog 36 #[.int .i64 n, .slice a l.length c, .slice none 0 0] W fun e w' => e = .returned (.int .i64 (wordN n l)) ∧ Below W.heap.size W w') := fun W hW => by
    have := wordsMay_any a none c 0 l [] n W hl (by simp) (by simpa using hl) (HI.out W hW) (Or.inl ⟨rfl, rfl⟩)
    rw [wordsN_nil] at this
    exact this
  clear h hl
  by_cases hn : wordN n l = 0
  · obtain ⟨n2, n6, -, hl20⟩ := wordN_ok hn
    obtain ⟨m, rfl⟩ : ∃ m : Nat, n = (m : Int) := ⟨n.toNat, by omega⟩
    rw [hn] at HM
    by_cases h16 : l.length ≤ 16
    · have HF : Hid (∀ a' c' W, RdAt W W.heap.size 1 (.slice a' l.length c') l.length (intsV l) → Calls Try.prog 34 #[.int .i64 (m : Nat), .slice a' l.length c'] W fun e w' => ∃ a2 c2, e = .returned (.tuple #[.agg #[.slice a2 l.length c2, .int .i64 (clsO l m : Nat)], .int .i64 0]) ∧ Crs w' w'.heap.size (.slice a2 l.length c2) (clsC l m) ∧ Below W.heap.size W w') := fun a' c' W hW => close_yes a' c' m l W hn h16 hW
      have HG : Hid (∀ W, Below w.heap.size w W → Calls Try.prog 37 #[.int .i64 (m : Nat), .slice a l.length c] W fun e w' => ∃ a2 c2, e = .returned (.agg #[.slice a2 l.length c2, .int .i64 (clsO l m : Nat)]) ∧ w'.ownsRow W.heap.size 101 5 (.slice a2 l.length c2) l.length (crossCells (clsC l m)) ∧ Below W.heap.size W w') := fun W hW => closeOf_any a c m l W hn h16 (HI.out W hW).rdI
      have HLC : Hid ((clsC l m).length = l.length) := clsC_len l m
      generalize clsC l m = CC at HF HG HLC
      generalize clsO l m = lo at HF HG
      generalize l.length = N at HC HM HF HG HLC h16 ⊢
      have h16I : ¬ (16 : Int) < (N : Int) := by omega
      have HSM : Hid (N ≤ 16) := h16
      clear hn HI HL hl20
      go_enter Try.func8, Try.ntmps8
      go_wp2_with (go_at_call 35; refine (HC.out _ (Below.refl _ _)).mono ?_; rintro e9 w1 ⟨a1, c1, rfl, hr1, hb1⟩; refine Hid.out ?_)
      refine Lib.hid ?_
      have HB1 : Hid (Below w.heap.size w w1) := hb1
      have HF1 := hid_mkC (HF.out a1 c1 w1 hr1)
      clear hb1 hr1
      go_wp2_with (go_at_call 34; refine HF1.out.mono ?_; rintro e9 w2 ⟨b2, d2, rfl, hc2, hb2⟩; refine Hid.out ?_)
      refine Lib.hid ?_
      have HB2 : Hid (Below w.heap.size w w2) := HB1.out.trans (hb2.mono HB1.out.size)
      have HC2 := hid_mkC hc2
      clear hb2 hc2
      obtain ⟨V, hV⟩ : ∃ V, V = w2.alloc (.cells #[.slice b2 N d2, .int .i64 (lo : Nat)] 24) := ⟨_, rfl⟩
      have HV : Hid (V = w2.alloc (.cells #[.slice b2 N d2, .int .i64 (lo : Nat)] 24)) := hV
      obtain ⟨gd, hgd⟩ : ∃ gd, w2.heap.size = gd := ⟨_, rfl⟩
      have HBV : Hid (Below w2.heap.size w2 V) := (by rw [hV]; exact (Below.refl _ _).alloc (Nat.le_refl _) _ : Below w2.heap.size w2 V)
      have HTV : Hid (V.heap[gd]? = some (.cells #[.slice b2 N d2, .int .i64 (lo : Nat)] 24 (0, 0))) := (by rw [hV, ← hgd]; exact alloc_at rfl)
      have HWV : Hid (Below w.heap.size w V) := HB2.out.trans (HBV.out.mono HB2.out.size)
      clear hV
      go_wp2_with (rw [← HV.out]; go_at_call 36; refine (HM.out _ HWV.out).mono ?_; rintro e9 w3 ⟨rfl, hb3⟩; refine Hid.out ?_)
      refine Lib.hid ?_
      have HCV : Hid (Crs V V.heap.size (.slice b2 N d2) CC) := HC2.out.up HBV.out
      have HV3 : Hid (Below V.heap.size V w3) := hb3
      have HD1 : Hid (Below V.heap.size V w3.drew) := hb3.trans ((Below.refl _ _).drew.mono hb3.size)
      have HWD : Hid (Below w.heap.size w w3.drew) := HWV.out.trans (HD1.out.mono HWV.out.size)
      have HKP : Hid (∀ W, Below V.heap.size V W → W.cell? ⟨gd, 0, none⟩ = some (.slice b2 N d2) ∧ W.cell? ⟨gd, 1, none⟩ = some (.int .i64 (lo : Nat))) := fun W hW => by
        have g0 := (hW.block _ (Array.getElem?_eq_some_iff.1 HTV.out).1).trans HTV.out
        exact ⟨block_cell g0 rfl, block_cell g0 rfl⟩
      have lgd : gd < w3.heap.size := Nat.lt_of_lt_of_le (Array.getElem?_eq_some_iff.1 HTV.out).1 hb3.size
      clear hb3 hgd
      go_upto_region 7 with (fail)
      go_region_held3 (fun w' => w'.cell? ⟨gd, 0, none⟩ = some (.slice b2 N d2) ∧ w'.cell? ⟨gd, 1, none⟩ = some (.int .i64 (lo : Nat))) (first | exact HKP.out _ HS8.out | exact HKP.out _ HS7.out | exact HKP.out _ HD1.out | exact HKP.out _ HV3.out) (first
        | (go_at_call 22; refine (sameDiagram_eq _ _ CC (lo : Int) _ (HCV.out.up HS7.out) HR7.out).mono ?_; rintro e9 w8 ⟨rfl, hb8⟩; have HS8 : Hid (Below V.heap.size V w8) := HS7.out.trans (hb8.mono HS7.out.size); clear hb8)
        | (go_at_call 37; refine (HG.out _ HWD.out).mono ?_; rintro e9 w7 ⟨a7, c7, rfl, hr7, hb7⟩; have HS7 : Hid (Below V.heap.size V w7) := HD1.out.trans (hb7.mono HD1.out.size); have HR7 : Hid (Crs w7 w7.heap.size (.slice a7 N c7) CC) := crs_own (by rw [HLC.out]; exact hr7) (by have h1 := HLC.out; have h2 := HSM.out; unfold maxLen; omega); clear hr7 hb7))
      go_wp2
      go_ret
      exact ⟨by first | rfl | simp, HWV.out.trans (HS8.out.mono HWV.out.size)⟩
    · have h17 : 16 < l.length := by omega
      have HF : Hid (∀ a' c' W, RdAt W W.heap.size 1 (.slice a' l.length c') l.length (intsV l) → Calls Try.prog 34 #[.int .i64 (m : Nat), .slice a' l.length c'] W fun e w' => e = .returned (.tuple #[.agg #[.slice none 0 0, .int .i64 0], .int .i64 2]) ∧ Below W.heap.size W w') := fun a' c' W hW => close_size a' c' m l W hn h17 hW
      generalize l.length = N at HC HM HF h17 hl20 ⊢
      have h16I : (16 : Int) < (N : Int) := by omega
      clear hn HI HL
      go_enter Try.func8, Try.ntmps8
      go_wp2_with (go_at_call 35; refine (HC.out _ (Below.refl _ _)).mono ?_; rintro e9 w1 ⟨a1, c1, rfl, hr1, hb1⟩; refine Hid.out ?_)
      refine Lib.hid ?_
      have HB1 : Hid (Below w.heap.size w w1) := hb1
      have HF1 := hid_mkC (HF.out a1 c1 w1 hr1)
      clear hb1 hr1
      go_wp2_with (go_at_call 34; refine HF1.out.mono ?_; rintro e9 w2 ⟨rfl, hb2⟩; refine Hid.out ?_)
      refine Lib.hid ?_
      have HB2 : Hid (Below w.heap.size w w2) := HB1.out.trans (hb2.mono HB1.out.size)
      clear hb2 
      obtain ⟨V, hV⟩ : ∃ V, V = w2.alloc (.cells #[.slice none 0 0, .int .i64 0] 24) := ⟨_, rfl⟩
      have HV : Hid (V = w2.alloc (.cells #[.slice none 0 0, .int .i64 0] 24)) := hV
      obtain ⟨gd, hgd⟩ : ∃ gd, w2.heap.size = gd := ⟨_, rfl⟩
      have HBV : Hid (Below w2.heap.size w2 V) := (by rw [hV]; exact (Below.refl _ _).alloc (Nat.le_refl _) _ : Below w2.heap.size w2 V)
      have HTV : Hid (V.heap[gd]? = some (.cells #[.slice none 0 0, .int .i64 0] 24 (0, 0))) := (by rw [hV, ← hgd]; exact alloc_at rfl)
      have HWV : Hid (Below w.heap.size w V) := HB2.out.trans (HBV.out.mono HB2.out.size)
      clear hV
      go_wp2_with (rw [← HV.out]; go_at_call 36; refine (HM.out _ HWV.out).mono ?_; rintro e9 w3 ⟨rfl, hb3⟩; refine Hid.out ?_)
      refine Lib.hid ?_
      have HB3 : Hid (Below w.heap.size w w3) := HWV.out.trans (hb3.mono HWV.out.size)
      have g0 := (hb3.block _ (Array.getElem?_eq_some_iff.1 HTV.out).1).trans HTV.out
      have x0 : w3.cell? ⟨gd, 0, none⟩ = some (.slice none 0 0) := block_cell g0 rfl
      have x1 : w3.cell? ⟨gd, 1, none⟩ = some (.int .i64 0) := block_cell g0 rfl
      have lgd : gd < w3.heap.size := (Array.getElem?_eq_some_iff.1 g0).1
      clear hb3 hgd g0
      go_wp2
      go_ret
      exact ⟨by first | rfl | simp, HB3.out⟩
  · have HF : Hid (∀ a' c' W, RdAt W W.heap.size 1 (.slice a' l.length c') l.length (intsV l) → Calls Try.prog 34 #[.int .i64 n, .slice a' l.length c'] W fun e w' => e = .returned (.tuple #[.agg #[.slice none 0 0, .int .i64 0], .int .i64 (wordN n l)]) ∧ Below W.heap.size W w') := fun a' c' W hW => close_no a' c' l n W HL.out hn hW
    generalize wordN n l = r at hn HF HM
    have hr0 : (r == 0) = false := beq_eq_false_iff_ne.2 hn
    have hr1 : (r != 0) = true := bne_iff_ne.2 hn
    have hrr : (r == r) = true := beq_self_eq_true r
    generalize l.length = N at HC HM HF ⊢
    clear HI HL
    go_enter Try.func8, Try.ntmps8
    go_wp2_with (go_at_call 35; refine (HC.out _ (Below.refl _ _)).mono ?_; rintro e9 w1 ⟨a1, c1, rfl, hr1, hb1⟩; refine Hid.out ?_)
    refine Lib.hid ?_
    have HB1 : Hid (Below w.heap.size w w1) := hb1
    have HF1 := hid_mkC (HF.out a1 c1 w1 hr1)
    clear hb1 hr1
    go_wp2_with (go_at_call 34; refine HF1.out.mono ?_; rintro e9 w2 ⟨rfl, hb2⟩; refine Hid.out ?_)
    refine Lib.hid ?_
    have HB2 : Hid (Below w.heap.size w w2) := HB1.out.trans (hb2.mono HB1.out.size)
    clear hb2 
    obtain ⟨V, hV⟩ : ∃ V, V = w2.alloc (.cells #[.slice none 0 0, .int .i64 0] 24) := ⟨_, rfl⟩
    have HV : Hid (V = w2.alloc (.cells #[.slice none 0 0, .int .i64 0] 24)) := hV
    obtain ⟨gd, hgd⟩ : ∃ gd, w2.heap.size = gd := ⟨_, rfl⟩
    have HBV : Hid (Below w2.heap.size w2 V) := (by rw [hV]; exact (Below.refl _ _).alloc (Nat.le_refl _) _ : Below w2.heap.size w2 V)
    have HTV : Hid (V.heap[gd]? = some (.cells #[.slice none 0 0, .int .i64 0] 24 (0, 0))) := (by rw [hV, ← hgd]; exact alloc_at rfl)
    have HWV : Hid (Below w.heap.size w V) := HB2.out.trans (HBV.out.mono HB2.out.size)
    clear hV
    go_wp2_with (rw [← HV.out]; go_at_call 36; refine (HM.out _ HWV.out).mono ?_; rintro e9 w3 ⟨rfl, hb3⟩; refine Hid.out ?_)
    refine Lib.hid ?_
    have HB3 : Hid (Below w.heap.size w w3) := HWV.out.trans (hb3.mono HWV.out.size)
    have g0 := (hb3.block _ (Array.getElem?_eq_some_iff.1 HTV.out).1).trans HTV.out
    have x0 : w3.cell? ⟨gd, 0, none⟩ = some (.slice none 0 0) := block_cell g0 rfl
    have x1 : w3.cell? ⟨gd, 1, none⟩ = some (.int .i64 0) := block_cell g0 rfl
    have lgd : gd < w3.heap.size := (Array.getElem?_eq_some_iff.1 g0).1
    clear hb3 hgd g0
    go_wp2
    go_ret
    exact ⟨by first | rfl | simp, HB3.out⟩
end Go.Proofs.Ytfceigcjonlhkaa
