/-
  PROVED HERE: for every diagram whatever, alex.Alexander and alex.Determinant of a copy of it answer the polynomial that the document's own function makes (the determinant of the table without the last place of each row, in form, begun at exponent 0 with a coefficient above 0) and its value at -1 without its sign, or the error that the document asks for (ErrState, ErrPlane, ErrSize) with no terms and 0, and what was handed in is left as it was.
  CONDITIONS: none but the row's own reach.
-/
import Derived.Test.YtajmogojekichaaAX3P
import Derived.Test.YtajmogojekichaaR1P
import Derived.Test.YtajmogojekichaaOpen
namespace Go.Proofs.Ytajmogojekichaa
open Go.ChangeShapes Go.WideShapes Go.ChangeAt Go.RowKit

theorem faceRings : FaceRingsOk := fun a cap C loops gF cF gT cT w hm hD => faceRings_ok a cap C loops gF cF gT cT w hm hD

set_option maxRecDepth 100000 in
theorem alexTells_lifted (os : Os) (started : os.Started) (H : Type) (enc : TypeId × Value → H) :
    ReturnsInHanded {} Try.checked os 10 .any (Rows.alexTellsSpec.pre6 enc Try.prog Try.f10 Rows.alexTellsRow.domain false) (Rows.alexTellsSpec.post enc Try.prog Try.f10 false true false false) := by
  refine returnsInHanded_of_change_sized (C := Try.checked) own0 started (by kernel_rfl) Try.func10
    (ChangeSpec.witness6 (enc := enc) (C := Try.checked) false ⟨#[], #[.agg #[.slice none 0 0, .int .i64 0]], []⟩ 8 (by kernel_rfl) (by kernel_rfl) (by kernel_rfl) (by kernel_rfl)) ?_
  intro W base args ds gs before hval0 hW hcnd hsz0 _
  have hval : ∀ (j : Nat) t v, Try.f10.params[j]? = some t → args[j]? = some v → Value.okWide Try.prog W .any base t v := hval0
  have hW' := hW
  obtain ⟨p, q, hA0, hV, rfl, hfz, hnd⟩ := hW
  have hA : DataW.TrodAll enc Try.prog W 0 (fun _ => true) true Try.f10.params.toList args.toList ds p := hA0
  rw [Try.params10] at hA hval
  obtain ⟨v0, vs0, d0, ds0, p0, q0, hargs, rfl, rfl, h0, r0⟩ := trodAll_cons hA
  obtain ⟨rfl, rfl, rfl⟩ := trodAll_nil r0
  obtain rfl : args = #[v0] := by cases args; simp_all
  obtain ⟨rfl, rfl⟩ := trodVars_none hV
  have hsz : (DataW.weightsEach Try.prog [24] [d0]).all (· ≤ reachBytes) = true := by
    have h := hsz0
    rw [Try.params10] at h
    exact h
  have hw0 : ∀ n ∈ d0.weights Try.prog 24, n ≤ reachBytes := fun n hn => by
    have := List.all_eq_true.1 hsz n (DataW.weights_mem_each (ts := [24]) (ds := [d0]) (j := 0) (t := 24) rfl rfl n hn)
    simpa using this
  have k0 := h0
  obtain ⟨vc, C, loops, rfl, hC, hl, -, -⟩ := diag_open (hval 0 24 v0 rfl rfl) h0 hw0
  have lt0 : ∀ x ∈ p0, x.block < W.heap.size := by obtain ⟨m, hm⟩ := k0; exact DataW.trod_lt m _ _ _ hm
  clear hA0 hval0
  refine (alexTells_any faceRings _ C loops W hl hC).mono fun e W' ⟨he, bel⟩ => ?_
  subst he
  exact ⟨_, rfl, _, _, _, [], _, [], hW', trodAll_mk1 (shut_bool Try.underlying4 _), (trodAll_cons_mk (Below.trod laidOut0 (by kernel_rfl) (of_decide_eq_true (by kernel_rfl)) k0 bel lt0) trodAll_mk0), rfl, bel.frame _, fun h => by cases h⟩

theorem and_two {a b : Bool} (h1 : a = true) (h2 : b = true) : (a && b) = true := by rw [h1, h2]; rfl
set_option maxHeartbeats 4000000 in
set_option maxRecDepth 100000 in
theorem alexTells_closed : joinedFacts Try.prog 10 Try.f10 Rows.alexTellsSpec Rows.alexTellsRow = true := by
  unfold joinedFacts
  iterate 31 (refine and_two ?_ ?_; rotate_left; (as_aux_lemma => kernel_rfl))
  as_aux_lemma => kernel_rfl
theorem alexTells_named : Try.prog.funcNamed Rows.alexTellsRow.func = some 10 := by kernel_rfl
theorem alexTells_wrap : Try.f10.isWrapper Try.prog Rows.alexTellsRow.wrapper Rows.alexTellsRow.mainSum := by
  unfold Func.isWrapper
  first | (rw [if_pos (by decide +kernel)]; kernel_rfl) | (rw [if_neg (by decide +kernel)]; exact ⟨rfl, rfl⟩)
/-- THE STATEMENT. -/
theorem alexTells_holds : Rows.AlexTellsSaid :=
  OpenClaim.holds_of_wide 10 Try.f10 rfl rfl rfl rfl rfl rfl rfl ⟨rfl, rfl, rfl, rfl, rfl⟩ rfl rfl rfl rfl rfl alexTells_named Try.func10 alexTells_closed
    (of_decide_eq_true (by kernel_rfl)) alexTells_wrap
    (fun os started H enc _ => alexTells_lifted os started H enc)
#print axioms alexTells_holds
end Go.Proofs.Ytajmogojekichaa
