/-
  PROVED HERE: for every list of numbers whatever, tangle.Link of a copy of the list answers the very diagram that the document's own function makes (its crossings in their order, their arcs' numbers, its loops), or the error that the document asks for (ErrRange, ErrSize) and an empty diagram, and the list is left as it was.
  CONDITIONS: none but the row's own reach.
-/
import Derived.Test.YtphhlflcghffbaaLTangleLinks
import Derived.Test.YtphhlflcghffbaaOpenM
namespace Go.Proofs.Ytphhlflcghffbaa
open Go.ChangeShapes Go.WideShapes Go.ChangeAt Go.RowKit

set_option maxRecDepth 100000 in
theorem tangleLinks_lifted (os : Os) (started : os.Started) (H : Type) (enc : TypeId × Value → H) :
    ReturnsInHanded {} Try.checked os 8 .any (Rows.tangleLinksSpec.pre6 enc Try.prog Try.f8 Rows.tangleLinksRow.domain false) (Rows.tangleLinksSpec.post enc Try.prog Try.f8 false true false false) := by
  refine returnsInHanded_of_change_sized (C := Try.checked) own0 started (by kernel_rfl) Try.func8
    (ChangeSpec.witness6 (enc := enc) (C := Try.checked) false ⟨#[], #[.slice none 0 0], []⟩ 8 (by kernel_rfl) (by kernel_rfl) (by kernel_rfl) (by kernel_rfl)) ?_
  intro W base args ds gs before hval0 hW hcnd hsz0 _
  have hval : ∀ (j : Nat) t v, Try.f8.params[j]? = some t → args[j]? = some v → Value.okWide Try.prog W .any base t v := hval0
  have hW' := hW
  obtain ⟨p, q, hA0, hV, rfl, hfz, hnd⟩ := hW
  have hA : DataW.TrodAll enc Try.prog W 0 (fun _ => true) true Try.f8.params.toList args.toList ds p := hA0
  rw [Try.params8] at hA hval
  obtain ⟨v0, vs0, d0, ds0, p0, q0, hargs, rfl, rfl, h0, r0⟩ := trodAll_cons hA
  obtain ⟨rfl, rfl, rfl⟩ := trodAll_nil r0
  obtain rfl : args = #[v0] := by cases args; simp_all
  obtain ⟨rfl, rfl⟩ := trodVars_none hV
  have hsz : (DataW.weightsEach Try.prog [53] [d0]).all (· ≤ reachBytes) = true := by
    have h := hsz0
    rw [Try.params8] at h
    exact h
  have hw0 : ∀ n ∈ d0.weights Try.prog 53, n ≤ reachBytes := fun n hn => by
    have := List.all_eq_true.1 hsz n (DataW.weights_mem_each (ts := [53]) (ds := [d0]) (j := 0) (t := 53) rfl rfl n hn)
    simpa using this
  have k0 := h0
  have lt0 : ∀ x ∈ p0, x.block < W.heap.size := by obtain ⟨m, hm⟩ := k0; exact DataW.trod_lt m _ _ _ hm
  obtain ⟨s0, n0, c0, rfl⟩ := okWide_slice Try.underlying53 (hval 0 53 v0 rfl rfl)
  obtain ⟨fuel0, hf0⟩ := h0
  obtain ⟨l0, hI0, hL0, hR0⟩ := ints_inI (v := .slice s0 n0 c0) hf0 hw0
  obtain rfl : n0 = l0.length := by obtain ⟨s, c, e⟩ := hI0.slice; injection e
  clear hA0 hval0
  refine (tangleLinks_any s0 c0 l0 W hL0 hI0).mono fun e W' ⟨he, bel⟩ => ?_
  subst he
  exact ⟨_, rfl, _, _, _, [], _, [], hW', trodAll_mk1 (shut_bool Try.underlying4 _), (trodAll_cons_mk (Below.trod laidOut0 (by kernel_rfl) (of_decide_eq_true (by kernel_rfl)) k0 bel lt0) trodAll_mk0), rfl, bel.frame _, fun h => by cases h⟩

theorem and_two {a b : Bool} (h1 : a = true) (h2 : b = true) : (a && b) = true := by rw [h1, h2]; rfl
set_option maxHeartbeats 4000000 in
set_option maxRecDepth 100000 in
theorem tangleLinks_closed : joinedFacts Try.prog 8 Try.f8 Rows.tangleLinksSpec Rows.tangleLinksRow = true := by
  unfold joinedFacts
  iterate 31 (refine and_two ?_ ?_; rotate_left; (as_aux_lemma => kernel_rfl))
  as_aux_lemma => kernel_rfl
theorem tangleLinks_named : Try.prog.funcNamed Rows.tangleLinksRow.func = some 8 := by kernel_rfl
theorem tangleLinks_wrap : Try.f8.isWrapper Try.prog Rows.tangleLinksRow.wrapper Rows.tangleLinksRow.mainSum := by
  unfold Func.isWrapper
  first | (rw [if_pos (by decide +kernel)]; kernel_rfl) | (rw [if_neg (by decide +kernel)]; exact ⟨rfl, rfl⟩)
/-- THE STATEMENT. -/
theorem tangleLinks_holds : Rows.TangleLinksSaid :=
  OpenClaim.holds_of_wide 8 Try.f8 rfl rfl rfl rfl rfl rfl rfl ⟨rfl, rfl, rfl, rfl, rfl⟩ rfl rfl rfl rfl rfl tangleLinks_named Try.func8 tangleLinks_closed
    (of_decide_eq_true (by kernel_rfl)) tangleLinks_wrap
    (fun os started H enc _ => tangleLinks_lifted os started H enc)
#print axioms tangleLinks_holds
end Go.Proofs.Ytphhlflcghffbaa
