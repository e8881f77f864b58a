/-
  PROVED HERE: for every number of strands and every two lists of numbers whatever, of two words of at most twelve letters on two to five strands: braid.Equal says that they are one braid just if their normal forms are the same, and just if braid.Act tells the same of both (Artin's theorem for so many strands).
  CONDITIONS: none but the row's own reach.
-/
import Derived.Test.YtdlmhcickcgnfaaLBraidFaithful
import Derived.Test.YtdlmhcickcgnfaaOpenNP
namespace Go.Proofs.Ytdlmhcickcgnfaa
open Go.ChangeShapes Go.WideShapes Go.ChangeAt Go.RowKit

set_option maxRecDepth 100000 in
theorem braidFaithful_lifted (os : Os) (started : os.Started) (H : Type) (enc : TypeId × Value → H) :
    ReturnsInHanded {} Try.checked os 4 .any (Rows.braidFaithfulSpec.pre6 enc Try.prog Try.f4 Rows.braidFaithfulRow.domain false) (Rows.braidFaithfulSpec.post enc Try.prog Try.f4 false true false false) := by
  refine returnsInHanded_of_change_sized (C := Try.checked) own0 started (by kernel_rfl) Try.func4
    (ChangeSpec.witness6 (enc := enc) (C := Try.checked) false ⟨#[], #[.int .i64 0, .slice none 0 0, .slice none 0 0], []⟩ 8 (by kernel_rfl) (by kernel_rfl) (by kernel_rfl) (by kernel_rfl)) ?_
  intro W base args ds gs before hval0 hW hcnd hsz0 _
  have hval : ∀ (j : Nat) t v, Try.f4.params[j]? = some t → args[j]? = some v → Value.okWide Try.prog W .any base t v := hval0
  have hW' := hW
  obtain ⟨p, q, hA0, hV, rfl, hfz, hnd⟩ := hW
  have hA : DataW.TrodAll enc Try.prog W 0 (fun _ => true) true Try.f4.params.toList args.toList ds p := hA0
  rw [Try.params4] at hA hval
  obtain ⟨v0, vs0, d0, ds0, p0, q0, hargs, rfl, rfl, h0, r0⟩ := trodAll_cons hA
  obtain ⟨v1, vs1, d1, ds1, p1, q1, rfl, rfl, rfl, h1, r1⟩ := trodAll_cons r0
  obtain ⟨v2, vs2, d2, ds2, p2, q2, rfl, rfl, rfl, h2, r2⟩ := trodAll_cons r1
  obtain ⟨rfl, rfl, rfl⟩ := trodAll_nil r2
  obtain rfl : args = #[v0, v1, v2] := by cases args; simp_all
  obtain ⟨rfl, rfl⟩ := trodVars_none hV
  have hsz : (DataW.weightsEach Try.prog [3, 22, 22] [d0, d1, d2]).all (· ≤ reachBytes) = true := by
    have h := hsz0
    rw [Try.params4] at h
    exact h
  have hw1 : ∀ n ∈ d1.weights Try.prog 22, n ≤ reachBytes := fun n hn => by
    have := List.all_eq_true.1 hsz n (DataW.weights_mem_each (ts := [3, 22, 22]) (ds := [d0, d1, d2]) (j := 1) (t := 22) rfl rfl n hn)
    simpa using this
  have k1 := h1
  have lt1 : ∀ x ∈ p1, x.block < W.heap.size := by obtain ⟨m, hm⟩ := k1; exact DataW.trod_lt m _ _ _ hm
  have hw2 : ∀ n ∈ d2.weights Try.prog 22, n ≤ reachBytes := fun n hn => by
    have := List.all_eq_true.1 hsz n (DataW.weights_mem_each (ts := [3, 22, 22]) (ds := [d0, d1, d2]) (j := 2) (t := 22) rfl rfl n hn)
    simpa using this
  have k2 := h2
  have lt2 : ∀ x ∈ p2, x.block < W.heap.size := by obtain ⟨m, hm⟩ := k2; exact DataW.trod_lt m _ _ _ hm
  obtain ⟨a0, rfl, rfl, rfl, w0⟩ := open_int Try.underlying3 (hval 0 3 v0 rfl rfl) h0
  obtain ⟨s1, n1, c1, rfl⟩ := okWide_slice Try.underlying22 (hval 1 22 v1 rfl rfl)
  obtain ⟨fuel1, hf1⟩ := h1
  obtain ⟨l1, hI1, hL1, hR1⟩ := ints_inI (v := .slice s1 n1 c1) hf1 hw1
  obtain rfl : n1 = l1.length := by obtain ⟨s, c, e⟩ := hI1.slice; injection e
  obtain ⟨s2, n2, c2, rfl⟩ := okWide_slice Try.underlying22 (hval 2 22 v2 rfl rfl)
  obtain ⟨fuel2, hf2⟩ := h2
  obtain ⟨l2, hI2, hL2, hR2⟩ := ints_inI (v := .slice s2 n2 c2) hf2 hw2
  obtain rfl : n2 = l2.length := by obtain ⟨s, c, e⟩ := hI2.slice; injection e
  clear hA0 hval0
  refine (braidFaithful_any a0 s1 s2 c1 c2 l1 l2 W (wf_range w0) hR1 hR2 hI1.rdI hI2.rdI).mono fun e W' ⟨he, bel⟩ => ?_
  subst he
  exact ⟨_, rfl, _, _, _, [], _, [], hW', trodAll_mk1 (shut_bool Try.underlying4 _), (trodAll_cons_mk (shut_int Try.underlying3 w0) (trodAll_cons_mk (Below.trod laidOut0 (by kernel_rfl) (of_decide_eq_true (by kernel_rfl)) k1 bel lt1) (trodAll_cons_mk (Below.trod laidOut0 (by kernel_rfl) (of_decide_eq_true (by kernel_rfl)) k2 bel lt2) trodAll_mk0))), rfl, bel.frame _, fun h => by cases h⟩

theorem and_two {a b : Bool} (h1 : a = true) (h2 : b = true) : (a && b) = true := by rw [h1, h2]; rfl
set_option maxHeartbeats 4000000 in
set_option maxRecDepth 100000 in
theorem braidFaithful_closed : joinedFacts Try.prog 4 Try.f4 Rows.braidFaithfulSpec Rows.braidFaithfulRow = true := by
  unfold joinedFacts
  iterate 31 (refine and_two ?_ ?_; rotate_left; (as_aux_lemma => kernel_rfl))
  as_aux_lemma => kernel_rfl
theorem braidFaithful_named : Try.prog.funcNamed Rows.braidFaithfulRow.func = some 4 := by kernel_rfl
theorem braidFaithful_wrap : Try.f4.isWrapper Try.prog Rows.braidFaithfulRow.wrapper Rows.braidFaithfulRow.mainSum := by
  unfold Func.isWrapper
  first | (rw [if_pos (by decide +kernel)]; kernel_rfl) | (rw [if_neg (by decide +kernel)]; exact ⟨rfl, rfl⟩)
/-- THE STATEMENT. -/
theorem braidFaithful_holds : Rows.BraidFaithfulSaid :=
  OpenClaim.holds_of_wide 4 Try.f4 rfl rfl rfl rfl rfl rfl rfl ⟨rfl, rfl, rfl, rfl, rfl⟩ rfl rfl rfl rfl rfl braidFaithful_named Try.func4 braidFaithful_closed
    (of_decide_eq_true (by kernel_rfl)) braidFaithful_wrap
    (fun os started H enc _ => braidFaithful_lifted os started H enc)
#print axioms braidFaithful_holds
end Go.Proofs.Ytdlmhcickcgnfaa
