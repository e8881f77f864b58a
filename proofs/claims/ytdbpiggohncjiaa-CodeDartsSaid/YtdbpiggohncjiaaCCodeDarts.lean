/-
  PROVED HERE: for every diagram whatever, if code.Faces tells its faces, each dart lies in just one of them and there are four darts to a crossing; else Faces answers ErrState and no face, just where code.May says that the diagram may not be; and packages code, gauss and canon answer what is known of the trefoil; what was handed in is left as it was.
  CONDITIONS: none but the row's own reach.
-/
import Derived.Test.YtdbpiggohncjiaaLCodeDarts
import Derived.Test.YtdbpiggohncjiaaOpen
namespace Go.Proofs.Ytdbpiggohncjiaa
open Go.ChangeShapes Go.WideShapes Go.ChangeAt Go.RowKit

set_option maxRecDepth 100000 in
theorem codeDarts_lifted (os : Os) (started : os.Started) (H : Type) (enc : TypeId × Value → H) :
    ReturnsInHanded {} Try.checked os 4 .any (Rows.codeDartsSpec.pre6 enc Try.prog Try.f4 Rows.codeDartsRow.domain false) (Rows.codeDartsSpec.post enc Try.prog Try.f4 false true false false) := by
  refine returnsInHanded_of_change_sized (C := Try.checked) own0 started (by kernel_rfl) Try.func4
    (ChangeSpec.witness6 (enc := enc) (C := Try.checked) false ⟨#[], #[.agg #[.slice none 0 0, .int .i64 0]], []⟩ 8 (by kernel_rfl) (by kernel_rfl) (by kernel_rfl) (by kernel_rfl)) ?_
  intro W base args ds gs before hval0 hW hcnd hsz0 _
  have hval : ∀ (j : Nat) t v, Try.f4.params[j]? = some t → args[j]? = some v → Value.okWide Try.prog W .any base t v := hval0
  have hW' := hW
  obtain ⟨p, q, hA0, hV, rfl, hfz, hnd⟩ := hW
  have hA : DataW.TrodAll enc Try.prog W 0 (fun _ => true) true Try.f4.params.toList args.toList ds p := hA0
  rw [Try.params4] at hA hval
  obtain ⟨v0, vs0, d0, ds0, p0, q0, hargs, rfl, rfl, h0, r0⟩ := trodAll_cons hA
  obtain ⟨rfl, rfl, rfl⟩ := trodAll_nil r0
  obtain rfl : args = #[v0] := by cases args; simp_all
  obtain ⟨rfl, rfl⟩ := trodVars_none hV
  have hsz : (DataW.weightsEach Try.prog [35] [d0]).all (· ≤ reachBytes) = true := by
    have h := hsz0
    rw [Try.params4] at h
    exact h
  have hw0 : ∀ n ∈ d0.weights Try.prog 35, n ≤ reachBytes := fun n hn => by
    have := List.all_eq_true.1 hsz n (DataW.weights_mem_each (ts := [35]) (ds := [d0]) (j := 0) (t := 35) rfl rfl n hn)
    simpa using this
  have k0 := h0
  obtain ⟨vc, C, loops, rfl, hC, hl, -, -⟩ := diag_open (hval 0 35 v0 rfl rfl) h0 hw0
  have lt0 : ∀ x ∈ p0, x.block < W.heap.size := by obtain ⟨m, hm⟩ := k0; exact DataW.trod_lt m _ _ _ hm
  clear hA0 hval0
  refine (codeDarts_any _ C loops W (hC.crs (by unfold maxLen; omega))).mono fun e W' ⟨he, bel⟩ => ?_
  subst he
  exact ⟨_, rfl, _, _, _, [], _, [], hW', trodAll_mk1 (shut_bool Try.underlying4 _), (trodAll_cons_mk (Below.trod laidOut0 (by kernel_rfl) (of_decide_eq_true (by kernel_rfl)) k0 bel lt0) trodAll_mk0), rfl, bel.frame _, fun h => by cases h⟩

theorem and_two {a b : Bool} (h1 : a = true) (h2 : b = true) : (a && b) = true := by rw [h1, h2]; rfl
set_option maxHeartbeats 4000000 in
set_option maxRecDepth 100000 in
theorem codeDarts_closed : joinedFacts Try.prog 4 Try.f4 Rows.codeDartsSpec Rows.codeDartsRow = true := by
  unfold joinedFacts
  iterate 31 (refine and_two ?_ ?_; rotate_left; (as_aux_lemma => kernel_rfl))
  as_aux_lemma => kernel_rfl
theorem codeDarts_named : Try.prog.funcNamed Rows.codeDartsRow.func = some 4 := by kernel_rfl
theorem codeDarts_wrap : Try.f4.isWrapper Try.prog Rows.codeDartsRow.wrapper Rows.codeDartsRow.mainSum := by
  unfold Func.isWrapper
  first | (rw [if_pos (by decide +kernel)]; kernel_rfl) | (rw [if_neg (by decide +kernel)]; exact ⟨rfl, rfl⟩)
/-- THE STATEMENT. -/
theorem codeDarts_holds : Rows.CodeDartsSaid :=
  OpenClaim.holds_of_wide 4 Try.f4 rfl rfl rfl rfl rfl rfl rfl ⟨rfl, rfl, rfl, rfl, rfl⟩ rfl rfl rfl rfl rfl codeDarts_named Try.func4 codeDarts_closed
    (of_decide_eq_true (by kernel_rfl)) codeDarts_wrap
    (fun os started H enc _ => codeDarts_lifted os started H enc)
#print axioms codeDarts_holds
end Go.Proofs.Ytdbpiggohncjiaa
