/-
  PROVED HERE: for every diagram and all numbers whatever: where code.May says that the diagram may not be, canon.Mirror refuses it with ErrState; else, mirrored twice it is the same by canon.Same, and its mirror is planar just if it is; a part of it reversed twice gives back the same, and reversing keeps the number of strands; the sum of it with itself, where it has at most eight crossings and eight loops, may be, has twice its crossings, and is planar just if it is.
  CONDITIONS: none but the row's own reach.
-/
import Derived.Test.YtkbapnjlnnggaaaLCanonTwice
import Derived.Test.YtkbapnjlnnggaaaOpenSP
namespace Go.Proofs.Ytkbapnjlnnggaaa
open Go.ChangeShapes Go.WideShapes Go.ChangeAt Go.RowKit

set_option maxRecDepth 100000 in
theorem canonTwice_lifted (os : Os) (started : os.Started) (H : Type) (enc : TypeId × Value → H) :
    ReturnsInHanded {} Try.checked os 3 .any (Rows.canonTwiceSpec.pre6 enc Try.prog Try.f3 Rows.canonTwiceRow.domain false) (Rows.canonTwiceSpec.post enc Try.prog Try.f3 false true false false) := by
  refine returnsInHanded_of_change_sized (C := Try.checked) own0 started (by kernel_rfl) Try.func3
    (ChangeSpec.witness6 (enc := enc) (C := Try.checked) false ⟨#[], #[.agg #[.slice none 0 0, .int .i64 0], .int .i64 0, .int .i64 0, .int .i64 0], []⟩ 8 (by kernel_rfl) (by kernel_rfl) (by kernel_rfl) (by kernel_rfl)) ?_
  intro W base args ds gs before hval0 hW hcnd hsz0 _
  have hval : ∀ (j : Nat) t v, Try.f3.params[j]? = some t → args[j]? = some v → Value.okWide Try.prog W .any base t v := hval0
  have hW' := hW
  obtain ⟨p, q, hA0, hV, rfl, hfz, hnd⟩ := hW
  have hA : DataW.TrodAll enc Try.prog W 0 (fun _ => true) true Try.f3.params.toList args.toList ds p := hA0
  rw [Try.params3] at hA hval
  obtain ⟨v0, vs0, d0, ds0, p0, q0, hargs, rfl, rfl, h0, r0⟩ := trodAll_cons hA
  obtain ⟨v1, vs1, d1, ds1, p1, q1, rfl, rfl, rfl, h1, r1⟩ := trodAll_cons r0
  obtain ⟨v2, vs2, d2, ds2, p2, q2, rfl, rfl, rfl, h2, r2⟩ := trodAll_cons r1
  obtain ⟨v3, vs3, d3, ds3, p3, q3, rfl, rfl, rfl, h3, r3⟩ := trodAll_cons r2
  obtain ⟨rfl, rfl, rfl⟩ := trodAll_nil r3
  obtain rfl : args = #[v0, v1, v2, v3] := by cases args; simp_all
  obtain ⟨rfl, rfl⟩ := trodVars_none hV
  have hsz : (DataW.weightsEach Try.prog [24, 3, 3, 3] [d0, d1, d2, d3]).all (· ≤ reachBytes) = true := by
    have h := hsz0
    rw [Try.params3] at h
    exact h
  have hw0 : ∀ n ∈ d0.weights Try.prog 24, n ≤ reachBytes := fun n hn => by
    have := List.all_eq_true.1 hsz n (DataW.weights_mem_each (ts := [24, 3, 3, 3]) (ds := [d0, d1, d2, d3]) (j := 0) (t := 24) rfl rfl n hn)
    simpa using this
  have k0 := h0
  have lt0 : ∀ x ∈ p0, x.block < W.heap.size := by obtain ⟨m, hm⟩ := k0; exact DataW.trod_lt m _ _ _ hm
  obtain ⟨vc0, C0, loops0, rfl, hC0, hl0, -, -⟩ := diag_open (hval 0 24 v0 rfl rfl) h0 hw0
  obtain ⟨a1, rfl, rfl, rfl, w1⟩ := open_int Try.underlying3 (hval 1 3 v1 rfl rfl) h1
  obtain ⟨a2, rfl, rfl, rfl, w2⟩ := open_int Try.underlying3 (hval 2 3 v2 rfl rfl) h2
  obtain ⟨a3, rfl, rfl, rfl, w3⟩ := open_int Try.underlying3 (hval 3 3 v3 rfl rfl) h3
  clear hA0 hval0
  refine (canonTwice_any vc0 C0 loops0 a1 a2 a3 W (hC0.crs (by unfold maxLen; omega)) (wf_range w1) (wf_range w2) (wf_range w3)).mono fun e W' ⟨he, bel⟩ => ?_
  subst he
  exact ⟨_, rfl, _, _, _, [], _, [], hW', trodAll_mk1 (shut_bool Try.underlying4 _), (trodAll_cons_mk (Below.trod laidOut0 (by kernel_rfl) (of_decide_eq_true (by kernel_rfl)) k0 bel lt0) (trodAll_cons_mk (shut_int Try.underlying3 w1) (trodAll_cons_mk (shut_int Try.underlying3 w2) (trodAll_cons_mk (shut_int Try.underlying3 w3) trodAll_mk0)))), rfl, bel.frame _, fun h => by cases h⟩

theorem and_two {a b : Bool} (h1 : a = true) (h2 : b = true) : (a && b) = true := by rw [h1, h2]; rfl
set_option maxHeartbeats 4000000 in
set_option maxRecDepth 100000 in
theorem canonTwice_closed : joinedFacts Try.prog 3 Try.f3 Rows.canonTwiceSpec Rows.canonTwiceRow = true := by
  unfold joinedFacts
  iterate 31 (refine and_two ?_ ?_; rotate_left; (as_aux_lemma => kernel_rfl))
  as_aux_lemma => kernel_rfl
theorem canonTwice_named : Try.prog.funcNamed Rows.canonTwiceRow.func = some 3 := by kernel_rfl
theorem canonTwice_wrap : Try.f3.isWrapper Try.prog Rows.canonTwiceRow.wrapper Rows.canonTwiceRow.mainSum := by
  unfold Func.isWrapper
  first | (rw [if_pos (by decide +kernel)]; kernel_rfl) | (rw [if_neg (by decide +kernel)]; exact ⟨rfl, rfl⟩)
/-- THE STATEMENT. -/
theorem canonTwice_holds : Rows.CanonTwiceSaid :=
  OpenClaim.holds_of_wide 3 Try.f3 rfl rfl rfl rfl rfl rfl rfl ⟨rfl, rfl, rfl, rfl, rfl⟩ rfl rfl rfl rfl rfl canonTwice_named Try.func3 canonTwice_closed
    (of_decide_eq_true (by kernel_rfl)) canonTwice_wrap
    (fun os started H enc _ => canonTwice_lifted os started H enc)
#print axioms canonTwice_holds
end Go.Proofs.Ytkbapnjlnnggaaa
