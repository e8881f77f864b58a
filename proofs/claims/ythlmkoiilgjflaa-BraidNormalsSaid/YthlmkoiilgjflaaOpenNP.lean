/- Several texts of the proof, one behind the other. -/
import Derived.Test.YthlmkoiilgjflaaOpenS
import Derived.Test.YthlmkoiilgjflaaInP
import Derived.Test.YthlmkoiilgjflaaW7P
/- Numbers that come in: a slice of them, and that each is an int of the language. -/
namespace Go.Proofs.Ythlmkoiilgjflaa
open Go.ChangeShapes Go.WideShapes Go.ChangeAt Go.RowKit

theorem bytesIntN : Try.prog.bytesOf 3 = 8 := by kernel_rfl
theorem InAt.rdN {w : World} {B size n : Nat} {v : Value} {xs : List Value} (h : InAt w B size v n xs) : RdAt w B size v n xs := by
  rcases h with ⟨rfl, rfl⟩ | ⟨ad, cap, rfl, rfl⟩ | ⟨b, off, cap, rfl, hlt, hc⟩
  · exact ⟨none, 0, rfl, fun h => absurd h (Nat.lt_irrefl 0)⟩
  · exact ⟨some ad, cap, rfl, fun h => absurd h (Nat.lt_irrefl 0)⟩
  · exact ⟨_, cap, rfl, fun _ => ⟨b, off, rfl, hlt, hc⟩⟩
theorem wf_range {z : Int} (h : (Lit.int .i64 z).wf = true) : -9223372036854775808 ≤ z ∧ z ≤ 9223372036854775807 := by
  have e1 : IntKind.i64.min = -9223372036854775808 := by decide
  have e2 : IntKind.i64.max = 9223372036854775807 := by decide
  simp only [Lit.wf, Bool.and_eq_true, decide_eq_true_eq] at h
  omega
/-- Numbers that came in. -/
theorem ints_in {H : Type} {enc : TypeId × Value → H} {W : World} {v : Value} {d : DataW H} {p : List MemPlace} {fuel : Nat} (hf : DataW.trod enc Try.prog W 0 (fun _ => true) true fuel 22 [v] = some (d, p)) (hw : ∀ n ∈ d.weights Try.prog 22, n ≤ reachBytes) :
    ∃ l : List Int, RdAt W W.heap.size 1 v l.length (intsV l) ∧ l.length ≤ 140737488355328 ∧ ∀ x ∈ l, -9223372036854775808 ≤ x ∧ x ≤ 9223372036854775807 := by
  obtain ⟨xs, hS, hL, hE⟩ := ones_trod Try.underlying22 cellsInt bytesIntN hf hw
  have each : ∀ i, i < xs.length → ∃ z : Int, xs.getD i (.bool false) = .int .i64 z ∧ (-9223372036854775808 ≤ z ∧ z ≤ 9223372036854775807) := fun i hi => by
    obtain ⟨D, q, n, hD, -⟩ := hE i hi
    obtain ⟨z0, e0, _, hz⟩ := DataW.trod_int Try.underlying3 hD
    simp only [List.cons.injEq, and_true] at e0
    exact ⟨z0, e0, wf_range hz⟩
  obtain ⟨f, hfs⟩ := Deep.choose_lt each
  have ex : intsV ((List.range xs.length).map f) = xs := by
    apply List.ext_getElem?
    intro j
    by_cases hj : j < xs.length
    · have h := (hfs j hj).1
      rw [List.getD_eq_getElem?_getD, List.getElem?_eq_getElem hj, Option.getD_some] at h
      rw [List.getElem?_eq_getElem hj, h]
      simp [intsV, hj]
    · rw [List.getElem?_eq_none (by simp [intsV]; omega), List.getElem?_eq_none (by omega)]
  refine ⟨(List.range xs.length).map f, ?_, by simp; omega, fun x hx => ?_⟩
  · rw [ex]
    simpa using hS.rdN
  · obtain ⟨j, hj, rfl⟩ := List.mem_map.1 hx
    exact (hfs j (List.mem_range.1 hj)).2
end Go.Proofs.Ythlmkoiilgjflaa
/- Numbers that come in, as they may be copied. -/
namespace Go.Proofs.Ythlmkoiilgjflaa
open Go.ChangeShapes Go.WideShapes Go.ChangeAt Go.RowKit

theorem ints_inI {H : Type} {enc : TypeId × Value → H} {W : World} {v : Value} {d : DataW H} {p : List MemPlace} {fuel : Nat} (hf : DataW.trod enc Try.prog W 0 (fun _ => true) true fuel 22 [v] = some (d, p)) (hw : ∀ n ∈ d.weights Try.prog 22, n ≤ reachBytes) :
    ∃ l : List Int, InAt W W.heap.size 1 v l.length (intsV l) ∧ l.length * 8 ≤ 140737488355328 ∧ ∀ x ∈ l, -9223372036854775808 ≤ x ∧ x ≤ 9223372036854775807 := by
  obtain ⟨xs, hS, hL, hE⟩ := ones_trod Try.underlying22 cellsInt bytesIntN hf hw
  have each : ∀ i, i < xs.length → ∃ z : Int, xs.getD i (.bool false) = .int .i64 z ∧ (-9223372036854775808 ≤ z ∧ z ≤ 9223372036854775807) := fun i hi => by
    obtain ⟨D, q, n, hD, -⟩ := hE i hi
    obtain ⟨z0, e0, _, hz⟩ := DataW.trod_int Try.underlying3 hD
    simp only [List.cons.injEq, and_true] at e0
    exact ⟨z0, e0, wf_range hz⟩
  obtain ⟨f, hfs⟩ := Deep.choose_lt each
  have ex : intsV ((List.range xs.length).map f) = xs := by
    apply List.ext_getElem?
    intro j
    by_cases hj : j < xs.length
    · have h := (hfs j hj).1
      rw [List.getD_eq_getElem?_getD, List.getElem?_eq_getElem hj, Option.getD_some] at h
      rw [List.getElem?_eq_getElem hj, h]
      simp [intsV, hj]
    · rw [List.getElem?_eq_none (by simp [intsV]; omega), List.getElem?_eq_none (by omega)]
  refine ⟨(List.range xs.length).map f, ?_, by simpa using hL, fun x hx => ?_⟩
  · rw [ex]
    simpa using hS
  · obtain ⟨j, hj, rfl⟩ := List.mem_map.1 hx
    exact (hfs j (List.mem_range.1 hj)).2
theorem InAt.slice {w : World} {B size n : Nat} {v : Value} {xs : List Value} (h : InAt w B size v n xs) : ∃ a c, v = .slice a n c := by
  rcases h with ⟨rfl, rfl⟩ | ⟨ad, cap, rfl, rfl⟩ | ⟨b, off, cap, rfl, hlt, hc⟩
  · exact ⟨none, 0, rfl⟩
  · exact ⟨some ad, cap, rfl⟩
  · exact ⟨_, cap, rfl⟩
end Go.Proofs.Ythlmkoiilgjflaa
