/-
  PROVED HERE: for every diagram whatever: where it is a diagram that lies on a sphere, moves.Simple answers one of no more crossings together with a row of moves, moves.Row along that row does every move and comes to the same diagram but for numbers, and from there no curl and no two crossings can be taken out (moves.Do answers ErrNone or ErrSize for each of them); else Simple answers ErrState and no moves.
  CONDITIONS: none but the row's own reach.
-/
import Derived.Test.YtagaajlbkfkaiaaLMovesSimple
import Derived.Test.YtagaajlbkfkaiaaOpenP
namespace Go.Proofs.Ytagaajlbkfkaiaa
open Go.ChangeShapes Go.WideShapes Go.ChangeAt Go.RowKit

set_option maxRecDepth 100000 in
theorem movesSimple_lifted (os : Os) (started : os.Started) (H : Type) (enc : TypeId × Value → H) :
    ReturnsInHanded {} Try.checked os 7 .any (Rows.movesSimpleSpec.pre6 enc Try.prog Try.f7 Rows.movesSimpleRow.domain false) (Rows.movesSimpleSpec.post enc Try.prog Try.f7 false true false false) := by
  refine returnsInHanded_of_change_sized (C := Try.checked) own0 started (by kernel_rfl) Try.func7
    (ChangeSpec.witness6 (enc := enc) (C := Try.checked) false ⟨#[], #[.agg #[.slice none 0 0, .int .i64 0]], []⟩ 8 (by kernel_rfl) (by kernel_rfl) (by kernel_rfl) (by kernel_rfl)) ?_
  intro W base args ds gs before hval0 hW hcnd hsz0 _
  have hval : ∀ (j : Nat) t v, Try.f7.params[j]? = some t → args[j]? = some v → Value.okWide Try.prog W .any base t v := hval0
  have hW' := hW
  obtain ⟨p, q, hA0, hV, rfl, hfz, hnd⟩ := hW
  have hA : DataW.TrodAll enc Try.prog W 0 (fun _ => true) true Try.f7.params.toList args.toList ds p := hA0
  rw [Try.params7] at hA hval
  obtain ⟨v0, vs0, d0, ds0, p0, q0, hargs, rfl, rfl, h0, r0⟩ := trodAll_cons hA
  obtain ⟨rfl, rfl, rfl⟩ := trodAll_nil r0
  obtain rfl : args = #[v0] := by cases args; simp_all
  obtain ⟨rfl, rfl⟩ := trodVars_none hV
  have hsz : (DataW.weightsEach Try.prog [24] [d0]).all (· ≤ reachBytes) = true := by
    have h := hsz0
    rw [Try.params7] at h
    exact h
  have hw0 : ∀ n ∈ d0.weights Try.prog 24, n ≤ reachBytes := fun n hn => by
    have := List.all_eq_true.1 hsz n (DataW.weights_mem_each (ts := [24]) (ds := [d0]) (j := 0) (t := 24) rfl rfl n hn)
    simpa using this
  have k0 := h0
  have lt0 : ∀ x ∈ p0, x.block < W.heap.size := by obtain ⟨m, hm⟩ := k0; exact DataW.trod_lt m _ _ _ hm
  obtain ⟨vc0, C0, loops0, rfl, hC0, hl0, -, -⟩ := diag_open (hval 0 24 v0 rfl rfl) h0 hw0
  clear hA0 hval0
  refine (movesSimple_any vc0 C0 loops0 W (by unfold maxLen; omega) hC0).mono fun e W' ⟨he, bel⟩ => ?_
  subst he
  exact ⟨_, rfl, _, _, _, [], _, [], hW', trodAll_mk1 (shut_bool Try.underlying4 _), (trodAll_cons_mk (Below.trod laidOut0 (by kernel_rfl) (of_decide_eq_true (by kernel_rfl)) k0 bel lt0) trodAll_mk0), rfl, bel.frame _, fun h => by cases h⟩

theorem and_two {a b : Bool} (h1 : a = true) (h2 : b = true) : (a && b) = true := by rw [h1, h2]; rfl
set_option maxHeartbeats 4000000 in
set_option maxRecDepth 100000 in
theorem movesSimple_closed : joinedFacts Try.prog 7 Try.f7 Rows.movesSimpleSpec Rows.movesSimpleRow = true := by
  unfold joinedFacts
  iterate 31 (refine and_two ?_ ?_; rotate_left; (as_aux_lemma => kernel_rfl))
  as_aux_lemma => kernel_rfl
theorem movesSimple_named : Try.prog.funcNamed Rows.movesSimpleRow.func = some 7 := by kernel_rfl
theorem movesSimple_wrap : Try.f7.isWrapper Try.prog Rows.movesSimpleRow.wrapper Rows.movesSimpleRow.mainSum := by
  unfold Func.isWrapper
  first | (rw [if_pos (by decide +kernel)]; kernel_rfl) | (rw [if_neg (by decide +kernel)]; exact ⟨rfl, rfl⟩)
/-- THE STATEMENT. -/
theorem movesSimple_holds : Rows.MovesSimpleSaid :=
  OpenClaim.holds_of_wide 7 Try.f7 rfl rfl rfl rfl rfl rfl rfl ⟨rfl, rfl, rfl, rfl, rfl⟩ rfl rfl rfl rfl rfl movesSimple_named Try.func7 movesSimple_closed
    (of_decide_eq_true (by kernel_rfl)) movesSimple_wrap
    (fun os started H enc _ => movesSimple_lifted os started H enc)
#print axioms movesSimple_holds
end Go.Proofs.Ytagaajlbkfkaiaa
