/-
  PROVED HERE: for every two diagrams whatever, canon.Canon of a copy of the first answers the canonical form that the document's own function makes, and canon.Same of copies of both tells whether these forms are one, or the error that the document asks for (ErrState where a diagram may not be), and the diagrams are left as they were.
  CONDITIONS: none but the row's own reach.
-/
import Derived.Test.YtdbpiggohncjiaaLCanonForms
import Derived.Test.YtdbpiggohncjiaaOpen
namespace Go.Proofs.Ytdbpiggohncjiaa
open Go.ChangeShapes Go.WideShapes Go.ChangeAt Go.RowKit

set_option maxRecDepth 100000 in
theorem canonForms_lifted (os : Os) (started : os.Started) (H : Type) (enc : TypeId × Value → H) :
    ReturnsInHanded {} Try.checked os 6 .any (Rows.canonFormsSpec.pre6 enc Try.prog Try.f6 Rows.canonFormsRow.domain false) (Rows.canonFormsSpec.post enc Try.prog Try.f6 false true false false) := by
  refine returnsInHanded_of_change_sized (C := Try.checked) own0 started (by kernel_rfl) Try.func6
    (ChangeSpec.witness6 (enc := enc) (C := Try.checked) false ⟨#[], #[.agg #[.slice none 0 0, .int .i64 0], .agg #[.slice none 0 0, .int .i64 0]], []⟩ 8 (by kernel_rfl) (by kernel_rfl) (by kernel_rfl) (by kernel_rfl)) ?_
  intro W base args ds gs before hval0 hW hcnd hsz0 _
  have hval : ∀ (j : Nat) t v, Try.f6.params[j]? = some t → args[j]? = some v → Value.okWide Try.prog W .any base t v := hval0
  have hW' := hW
  obtain ⟨p, q, hA0, hV, rfl, hfz, hnd⟩ := hW
  have hA : DataW.TrodAll enc Try.prog W 0 (fun _ => true) true Try.f6.params.toList args.toList ds p := hA0
  rw [Try.params6] at hA hval
  obtain ⟨v0, vs0, d0, ds0, p0, q0, hargs, rfl, rfl, h0, r0⟩ := trodAll_cons hA
  obtain ⟨v2, vs2, d2, ds2, p2, q2, rfl, rfl, rfl, h2, r2⟩ := trodAll_cons r0
  obtain ⟨rfl, rfl, rfl⟩ := trodAll_nil r2
  obtain rfl : args = #[v0, v2] := by cases args; simp_all
  obtain ⟨rfl, rfl⟩ := trodVars_none hV
  have hsz : (DataW.weightsEach Try.prog [35, 35] [d0, d2]).all (· ≤ reachBytes) = true := by
    have h := hsz0
    rw [Try.params6] at h
    exact h
  have hw0 : ∀ n ∈ d0.weights Try.prog 35, n ≤ reachBytes := fun n hn => by
    have := List.all_eq_true.1 hsz n (DataW.weights_mem_each (ts := [35, 35]) (ds := [d0, d2]) (j := 0) (t := 35) rfl rfl n hn)
    simpa using this
  have hw2 : ∀ n ∈ d2.weights Try.prog 35, n ≤ reachBytes := fun n hn => by
    have := List.all_eq_true.1 hsz n (DataW.weights_mem_each (ts := [35, 35]) (ds := [d0, d2]) (j := 1) (t := 35) rfl rfl n hn)
    simpa using this
  have k0 := h0
  have k2 := h2
  obtain ⟨vc, C, loops, rfl, hC, hl, -, -⟩ := diag_open (hval 0 35 v0 rfl rfl) h0 hw0
  obtain ⟨vd, D, loops2, rfl, hD, hl2, -, -⟩ := diag_open (hval 1 35 v2 rfl rfl) h2 hw2
  have lt0 : ∀ x ∈ p0, x.block < W.heap.size := by obtain ⟨m, hm⟩ := k0; exact DataW.trod_lt m _ _ _ hm
  have lt2 : ∀ x ∈ p2, x.block < W.heap.size := by obtain ⟨m, hm⟩ := k2; exact DataW.trod_lt m _ _ _ hm
  clear hA0 hval0
  refine (canonForms_any _ _ C D loops loops2 W hl hl2 hC hD).mono fun e W' ⟨he, bel⟩ => ?_
  subst he
  exact ⟨_, rfl, _, _, _, [], _, [], hW', trodAll_mk1 (shut_bool Try.underlying4 _), (trodAll_cons_mk (Below.trod laidOut0 (by kernel_rfl) (of_decide_eq_true (by kernel_rfl)) k0 bel lt0) (trodAll_cons_mk (Below.trod laidOut0 (by kernel_rfl) (of_decide_eq_true (by kernel_rfl)) k2 bel lt2) trodAll_mk0)), rfl, bel.frame _, fun h => by cases h⟩

theorem and_two {a b : Bool} (h1 : a = true) (h2 : b = true) : (a && b) = true := by rw [h1, h2]; rfl
set_option maxHeartbeats 4000000 in
set_option maxRecDepth 100000 in
theorem canonForms_closed : joinedFacts Try.prog 6 Try.f6 Rows.canonFormsSpec Rows.canonFormsRow = true := by
  unfold joinedFacts
  iterate 31 (refine and_two ?_ ?_; rotate_left; (as_aux_lemma => kernel_rfl))
  as_aux_lemma => kernel_rfl
theorem canonForms_named : Try.prog.funcNamed Rows.canonFormsRow.func = some 6 := by kernel_rfl
theorem canonForms_wrap : Try.f6.isWrapper Try.prog Rows.canonFormsRow.wrapper Rows.canonFormsRow.mainSum := by
  unfold Func.isWrapper
  first | (rw [if_pos (by decide +kernel)]; kernel_rfl) | (rw [if_neg (by decide +kernel)]; exact ⟨rfl, rfl⟩)
/-- THE STATEMENT. -/
theorem canonForms_holds : Rows.CanonFormsSaid :=
  OpenClaim.holds_of_wide 6 Try.f6 rfl rfl rfl rfl rfl rfl rfl ⟨rfl, rfl, rfl, rfl, rfl⟩ rfl rfl rfl rfl rfl canonForms_named Try.func6 canonForms_closed
    (of_decide_eq_true (by kernel_rfl)) canonForms_wrap
    (fun os started H enc _ => canonForms_lifted os started H enc)
#print axioms canonForms_holds
end Go.Proofs.Ytdbpiggohncjiaa
