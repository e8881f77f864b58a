/-
  PROVED HERE: for every diagram and every table of numbers whatever, colour.Count of copies of both answers how many colourings there are, as the document's own function counts them arc by arc, or the error that the document asks for (ErrForm, ErrKind, ErrState, ErrPlane, ErrSize) and 0, and what was handed in is left as it was.
  CONDITIONS: none but the row's own reach.
-/
import Derived.Test.YtnhllpaoplfgpaaLColourCounts
import Derived.Test.YtnhllpaoplfgpaaOpenSP
import Derived.Test.YtnhllpaoplfgpaaR3
namespace Go.Proofs.Ytnhllpaoplfgpaa
open Go.ChangeShapes Go.WideShapes Go.ChangeAt Go.RowKit

theorem faceRings : FaceRingsOk := fun a cap C loops gF cF gT cT w hm hD => faceRings_ok a cap C loops gF cF gT cT w hm hD

set_option maxRecDepth 100000 in
theorem colourCounts_lifted (os : Os) (started : os.Started) (H : Type) (enc : TypeId × Value → H) :
    ReturnsInHanded {} Try.checked os 16 .any (Rows.colourCountsSpec.pre6 enc Try.prog Try.f16 Rows.colourCountsRow.domain false) (Rows.colourCountsSpec.post enc Try.prog Try.f16 false true false false) := by
  refine returnsInHanded_of_change_sized (C := Try.checked) own0 started (by kernel_rfl) Try.func16
    (ChangeSpec.witness6 (enc := enc) (C := Try.checked) false ⟨#[], #[.agg #[.slice none 0 0, .int .i64 0], .slice none 0 0], []⟩ 8 (by kernel_rfl) (by kernel_rfl) (by kernel_rfl) (by kernel_rfl)) ?_
  intro W base args ds gs before hval0 hW hcnd hsz0 _
  have hval : ∀ (j : Nat) t v, Try.f16.params[j]? = some t → args[j]? = some v → Value.okWide Try.prog W .any base t v := hval0
  have hW' := hW
  obtain ⟨p, q, hA0, hV, rfl, hfz, hnd⟩ := hW
  have hA : DataW.TrodAll enc Try.prog W 0 (fun _ => true) true Try.f16.params.toList args.toList ds p := hA0
  rw [Try.params16] at hA hval
  obtain ⟨v0, vs0, d0, ds0, p0, q0, hargs, rfl, rfl, h0, r0⟩ := trodAll_cons hA
  obtain ⟨v1, vs1, d1, ds1, p1, q1, rfl, rfl, rfl, h1, r1⟩ := trodAll_cons r0
  obtain ⟨rfl, rfl, rfl⟩ := trodAll_nil r1
  obtain rfl : args = #[v0, v1] := by cases args; simp_all
  obtain ⟨rfl, rfl⟩ := trodVars_none hV
  have hsz : (DataW.weightsEach Try.prog [44, 72] [d0, d1]).all (· ≤ reachBytes) = true := by
    have h := hsz0
    rw [Try.params16] at h
    exact h
  have hw0 : ∀ n ∈ d0.weights Try.prog 44, n ≤ reachBytes := fun n hn => by
    have := List.all_eq_true.1 hsz n (DataW.weights_mem_each (ts := [44, 72]) (ds := [d0, d1]) (j := 0) (t := 44) rfl rfl n hn)
    simpa using this
  have hw1 : ∀ n ∈ d1.weights Try.prog 72, n ≤ reachBytes := fun n hn => by
    have := List.all_eq_true.1 hsz n (DataW.weights_mem_each (ts := [44, 72]) (ds := [d0, d1]) (j := 1) (t := 72) rfl rfl n hn)
    simpa using this
  have k0 := h0
  have k1 := h1
  obtain ⟨vc, C, loops, rfl, hC, hl, -, -⟩ := diag_open (hval 0 44 v0 rfl rfl) h0 hw0
  obtain ⟨aa, la, ca, rfl⟩ := okWide_slice Try.underlying72 (hval 1 72 v1 rfl rfl)
  obtain ⟨fuel1, hf1⟩ := h1
  obtain ⟨L, hL, b1, b2⟩ := table_trod (v := .slice aa la ca) hf1 hw1
  have lt0 : ∀ x ∈ p0, x.block < W.heap.size := by obtain ⟨m, hm⟩ := k0; exact DataW.trod_lt m _ _ _ hm
  have lt1 : ∀ x ∈ p1, x.block < W.heap.size := by obtain ⟨m, hm⟩ := k1; exact DataW.trod_lt m _ _ _ hm
  clear hA0 hval0
  refine (colourCounts_any faceRings _ _ C loops L W hl b1 b2 hC hL).mono fun e W' ⟨he, bel⟩ => ?_
  subst he
  exact ⟨_, rfl, _, _, _, [], _, [], hW', trodAll_mk1 (shut_bool Try.underlying4 _), (trodAll_cons_mk (Below.trod laidOut0 (by kernel_rfl) (of_decide_eq_true (by kernel_rfl)) k0 bel lt0) (trodAll_cons_mk (Below.trod laidOut0 (by kernel_rfl) (of_decide_eq_true (by kernel_rfl)) k1 bel lt1) trodAll_mk0)), rfl, bel.frame _, fun h => by cases h⟩

theorem and_two {a b : Bool} (h1 : a = true) (h2 : b = true) : (a && b) = true := by rw [h1, h2]; rfl
set_option maxHeartbeats 4000000 in
set_option maxRecDepth 100000 in
theorem colourCounts_closed : joinedFacts Try.prog 16 Try.f16 Rows.colourCountsSpec Rows.colourCountsRow = true := by
  unfold joinedFacts
  iterate 31 (refine and_two ?_ ?_; rotate_left; (as_aux_lemma => kernel_rfl))
  as_aux_lemma => kernel_rfl
theorem colourCounts_named : Try.prog.funcNamed Rows.colourCountsRow.func = some 16 := by kernel_rfl
theorem colourCounts_wrap : Try.f16.isWrapper Try.prog Rows.colourCountsRow.wrapper Rows.colourCountsRow.mainSum := by
  unfold Func.isWrapper
  first | (rw [if_pos (by decide +kernel)]; kernel_rfl) | (rw [if_neg (by decide +kernel)]; exact ⟨rfl, rfl⟩)
/-- THE STATEMENT. -/
theorem colourCounts_holds : Rows.ColourCountsSaid :=
  OpenClaim.holds_of_wide 16 Try.f16 rfl rfl rfl rfl rfl rfl rfl ⟨rfl, rfl, rfl, rfl, rfl⟩ rfl rfl rfl rfl rfl colourCounts_named Try.func16 colourCounts_closed
    (of_decide_eq_true (by kernel_rfl)) colourCounts_wrap
    (fun os started H enc _ => colourCounts_lifted os started H enc)
#print axioms colourCounts_holds
end Go.Proofs.Ytnhllpaoplfgpaa
