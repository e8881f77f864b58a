/-
  PROVED HERE: for every number n and every list of numbers whatever, braid.Normal of n and of a copy of the list answers Delta's power and permutations that are the normal form that the document asks for (within its bounds, each of them a permutation that is neither nothing nor Delta, neighbours settled, and their word doing to the free group's letters what the list does), or the error that the document asks for (ErrRange, ErrSize) and nothing, and the list is left as it was.
  CONDITIONS: none but the row's own reach.
-/
import Derived.Test.YthlmkoiilgjflaaLBraidNormals
import Derived.Test.YthlmkoiilgjflaaOpenNP
namespace Go.Proofs.Ythlmkoiilgjflaa
open Go.ChangeShapes Go.WideShapes Go.ChangeAt Go.RowKit

set_option maxRecDepth 100000 in
theorem braidNormals_lifted (os : Os) (started : os.Started) (H : Type) (enc : TypeId × Value → H) :
    ReturnsInHanded {} Try.checked os 3 .any (Rows.braidNormalsSpec.pre6 enc Try.prog Try.f3 Rows.braidNormalsRow.domain false) (Rows.braidNormalsSpec.post enc Try.prog Try.f3 false true false false) := by
  refine returnsInHanded_of_change_sized (C := Try.checked) own0 started (by kernel_rfl) Try.func3
    (ChangeSpec.witness6 (enc := enc) (C := Try.checked) false ⟨#[], #[.int .i64 0, .slice none 0 0], []⟩ 8 (by kernel_rfl) (by kernel_rfl) (by kernel_rfl) (by kernel_rfl)) ?_
  intro W base args ds gs before hval0 hW hcnd hsz0 _
  have hval : ∀ (j : Nat) t v, Try.f3.params[j]? = some t → args[j]? = some v → Value.okWide Try.prog W .any base t v := hval0
  have hW' := hW
  obtain ⟨p, q, hA0, hV, rfl, hfz, hnd⟩ := hW
  have hA : DataW.TrodAll enc Try.prog W 0 (fun _ => true) true Try.f3.params.toList args.toList ds p := hA0
  rw [Try.params3] at hA hval
  obtain ⟨v0, vs0, d0, ds0, p0, q0, hargs, rfl, rfl, h0, r0⟩ := trodAll_cons hA
  obtain ⟨v1, vs1, d1, ds1, p1, q1, rfl, rfl, rfl, h1, r1⟩ := trodAll_cons r0
  obtain ⟨rfl, rfl, rfl⟩ := trodAll_nil r1
  obtain rfl : args = #[v0, v1] := by cases args; simp_all
  obtain ⟨rfl, rfl⟩ := trodVars_none hV
  have hsz : (DataW.weightsEach Try.prog [3, 22] [d0, d1]).all (· ≤ reachBytes) = true := by
    have h := hsz0
    rw [Try.params3] at h
    exact h
  have hw1 : ∀ n ∈ d1.weights Try.prog 22, n ≤ reachBytes := fun n hn => by
    have := List.all_eq_true.1 hsz n (DataW.weights_mem_each (ts := [3, 22]) (ds := [d0, d1]) (j := 1) (t := 22) rfl rfl n hn)
    simpa using this
  have k1 := h1
  have lt1 : ∀ x ∈ p1, x.block < W.heap.size := by obtain ⟨m, hm⟩ := k1; exact DataW.trod_lt m _ _ _ hm
  obtain ⟨a0, rfl, rfl, rfl, w0⟩ := open_int Try.underlying3 (hval 0 3 v0 rfl rfl) h0
  obtain ⟨s1, n1, c1, rfl⟩ := okWide_slice Try.underlying22 (hval 1 22 v1 rfl rfl)
  obtain ⟨fuel1, hf1⟩ := h1
  obtain ⟨l1, hI1, hL1, hR1⟩ := ints_inI (v := .slice s1 n1 c1) hf1 hw1
  obtain rfl : n1 = l1.length := by obtain ⟨s, c, e⟩ := hI1.slice; injection e
  clear hA0 hval0
  refine (braidNormals_any a0 s1 c1 l1 W hL1 hI1).mono fun e W' ⟨he, bel⟩ => ?_
  subst he
  exact ⟨_, rfl, _, _, _, [], _, [], hW', trodAll_mk1 (shut_bool Try.underlying4 _), (trodAll_cons_mk (shut_int Try.underlying3 w0) (trodAll_cons_mk (Below.trod laidOut0 (by kernel_rfl) (of_decide_eq_true (by kernel_rfl)) k1 bel lt1) trodAll_mk0)), rfl, bel.frame _, fun h => by cases h⟩

theorem and_two {a b : Bool} (h1 : a = true) (h2 : b = true) : (a && b) = true := by rw [h1, h2]; rfl
set_option maxHeartbeats 4000000 in
set_option maxRecDepth 100000 in
theorem braidNormals_closed : joinedFacts Try.prog 3 Try.f3 Rows.braidNormalsSpec Rows.braidNormalsRow = true := by
  unfold joinedFacts
  iterate 31 (refine and_two ?_ ?_; rotate_left; (as_aux_lemma => kernel_rfl))
  as_aux_lemma => kernel_rfl
theorem braidNormals_named : Try.prog.funcNamed Rows.braidNormalsRow.func = some 3 := by kernel_rfl
theorem braidNormals_wrap : Try.f3.isWrapper Try.prog Rows.braidNormalsRow.wrapper Rows.braidNormalsRow.mainSum := by
  unfold Func.isWrapper
  first | (rw [if_pos (by decide +kernel)]; kernel_rfl) | (rw [if_neg (by decide +kernel)]; exact ⟨rfl, rfl⟩)
/-- THE STATEMENT. -/
theorem braidNormals_holds : Rows.BraidNormalsSaid :=
  OpenClaim.holds_of_wide 3 Try.f3 rfl rfl rfl rfl rfl rfl rfl ⟨rfl, rfl, rfl, rfl, rfl⟩ rfl rfl rfl rfl rfl braidNormals_named Try.func3 braidNormals_closed
    (of_decide_eq_true (by kernel_rfl)) braidNormals_wrap
    (fun os started H enc _ => braidNormals_lifted os started H enc)
#print axioms braidNormals_holds
end Go.Proofs.Ythlmkoiilgjflaa
