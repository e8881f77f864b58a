/-
  PROVED HERE: for every diagram whatever, knotworklaw.SignTells answers true, and leaves the diagram as it was: where the diagram is planar, in one piece and of at most eighteen shaded faces, sign.Signature answers with the signature of Goeritz's table less the correction, and sign.Arf with 0 where the table's determinant is 1 or 7 modulo eight, else 1, and the law's own reckoning by elimination (ref.SquaresOf) comes to the same numbers (Sylvester's law of inertia and Sylvester's rule, proved here); elsewhere both functions answer with the error that the document asks for, as the law does.
  CONDITIONS: none but the row's own reach.
-/
import Derived.Test.YtlcogbcpmneknaaLSignTells
import Derived.Test.YtlcogbcpmneknaaOpen
namespace Go.Proofs.Ytlcogbcpmneknaa
open Go.ChangeShapes Go.WideShapes Go.ChangeAt Go.RowKit

set_option maxRecDepth 100000 in
theorem signTells_lifted (os : Os) (started : os.Started) (H : Type) (enc : TypeId × Value → H) :
    ReturnsInHanded {} Try.checked os 3 .any (Rows.signTellsSpec.pre6 enc Try.prog Try.f3 Rows.signTellsRow.domain false) (Rows.signTellsSpec.post enc Try.prog Try.f3 false true false false) := by
  refine returnsInHanded_of_change_sized (C := Try.checked) own0 started (by kernel_rfl) Try.func3
    (ChangeSpec.witness6 (enc := enc) (C := Try.checked) false ⟨#[], #[.agg #[.slice none 0 0, .int .i64 0]], []⟩ 8 (by kernel_rfl) (by kernel_rfl) (by kernel_rfl) (by kernel_rfl)) ?_
  intro W base args ds gs before hval0 hW hcnd hsz0 _
  have hval : ∀ (j : Nat) t v, Try.f3.params[j]? = some t → args[j]? = some v → Value.okWide Try.prog W .any base t v := hval0
  have hW' := hW
  obtain ⟨p, q, hA0, hV, rfl, hfz, hnd⟩ := hW
  have hA : DataW.TrodAll enc Try.prog W 0 (fun _ => true) true Try.f3.params.toList args.toList ds p := hA0
  rw [Try.params3] at hA hval
  obtain ⟨v0, vs0, d0, ds0, p0, q0, hargs, rfl, rfl, h0, r0⟩ := trodAll_cons hA
  obtain ⟨rfl, rfl, rfl⟩ := trodAll_nil r0
  obtain rfl : args = #[v0] := by cases args; simp_all
  obtain ⟨rfl, rfl⟩ := trodVars_none hV
  have hsz : (DataW.weightsEach Try.prog [24] [d0]).all (· ≤ reachBytes) = true := by
    have h := hsz0
    rw [Try.params3] at h
    exact h
  have hw0 : ∀ n ∈ d0.weights Try.prog 24, n ≤ reachBytes := fun n hn => by
    have := List.all_eq_true.1 hsz n (DataW.weights_mem_each (ts := [24]) (ds := [d0]) (j := 0) (t := 24) rfl rfl n hn)
    simpa using this
  have k0 := h0
  have lt0 : ∀ x ∈ p0, x.block < W.heap.size := by obtain ⟨m, hm⟩ := k0; exact DataW.trod_lt m _ _ _ hm
  obtain ⟨vc0, C0, loops0, rfl, hC0, hl0, -, -⟩ := diag_open (hval 0 24 v0 rfl rfl) h0 hw0
  clear hA0 hval0
  refine (signTells_any vc0 C0 loops0 W hl0 hC0).mono fun e W' ⟨he, bel⟩ => ?_
  subst he
  exact ⟨_, rfl, _, _, _, [], _, [], hW', trodAll_mk1 (shut_bool Try.underlying4 _), (trodAll_cons_mk (Below.trod laidOut0 (by kernel_rfl) (of_decide_eq_true (by kernel_rfl)) k0 bel lt0) trodAll_mk0), rfl, bel.frame _, fun h => by cases h⟩

theorem and_two {a b : Bool} (h1 : a = true) (h2 : b = true) : (a && b) = true := by rw [h1, h2]; rfl
set_option maxHeartbeats 4000000 in
set_option maxRecDepth 100000 in
theorem signTells_closed : joinedFacts Try.prog 3 Try.f3 Rows.signTellsSpec Rows.signTellsRow = true := by
  unfold joinedFacts
  iterate 31 (refine and_two ?_ ?_; rotate_left; (as_aux_lemma => kernel_rfl))
  as_aux_lemma => kernel_rfl
theorem signTells_named : Try.prog.funcNamed Rows.signTellsRow.func = some 3 := by kernel_rfl
theorem signTells_wrap : Try.f3.isWrapper Try.prog Rows.signTellsRow.wrapper Rows.signTellsRow.mainSum := by
  unfold Func.isWrapper
  first | (rw [if_pos (by decide +kernel)]; kernel_rfl) | (rw [if_neg (by decide +kernel)]; exact ⟨rfl, rfl⟩)
/-- THE STATEMENT. -/
theorem signTells_holds : Rows.SignTellsSaid :=
  OpenClaim.holds_of_wide 3 Try.f3 rfl rfl rfl rfl rfl rfl rfl ⟨rfl, rfl, rfl, rfl, rfl⟩ rfl rfl rfl rfl rfl signTells_named Try.func3 signTells_closed
    (of_decide_eq_true (by kernel_rfl)) signTells_wrap
    (fun os started H enc _ => signTells_lifted os started H enc)
#print axioms signTells_holds
end Go.Proofs.Ytlcogbcpmneknaa
