/- The law GaussTells: its walk. -/
import Derived.Test.YtkbapnjlnnggaaaW5P
import Derived.Test.YtkbapnjlnnggaaaW8P
namespace Go.Proofs.Ytkbapnjlnnggaaa
open Go.RowKit

theorem visM_facts {C : List Cr} {loops : Int} (hm : mayD C loops = true) : (visM C).length ≤ 100 ∧ ∀ j, j < (visM C).length → ((visM C).getD j []).length ≤ 100 := by
  obtain ⟨s1, -, -, -⟩ := sizeB_iff (may_size hm)
  obtain ⟨h1, h2⟩ := walksM_facts hm
  have e : (visM C).length = (walksM C).length := by simp [visM]
  refine ⟨by omega, fun j hj => ?_⟩
  rw [e] at hj
  have e2 : (visM C).getD j [] = visL C ((walksM C).getD j []) := by
    unfold visM
    rw [List.getD_eq_getElem?_getD, List.getElem?_map, List.getD_eq_getElem?_getD, List.getElem?_eq_getElem hj]
    rfl
  rw [e2]
  have := (h2 j hj).2.1
  simp only [visL, List.length_map]
  omega
theorem slice_CrsW {w : World} {B : Nat} {v : Value} {C : List Cr} (h : CrsW w B v C) : ∃ a cap, v = .slice a C.length cap := by
  rcases h with ⟨rfl, rfl⟩ | ⟨ad, cap, rfl, rfl⟩ | ⟨b, off, cap, rfl, -, -⟩
  · exact ⟨_, _, rfl⟩
  · exact ⟨_, _, rfl⟩
  · exact ⟨_, _, rfl⟩
theorem slice_Crs {w : World} {B : Nat} {v : Value} {C : List Cr} (h : Crs w B v C) : ∃ a cap, v = .slice a C.length cap := by
  obtain ⟨a, cap, rfl, -, -⟩ := h
  exact ⟨a, cap, rfl⟩

end Go.Proofs.Ytkbapnjlnnggaaa
