/- Ends of strands: the walk of ref.EndsOf. -/
import Derived.Test.YtdlmhcickcgnfaaBR4
import Derived.Deep.Cut
namespace Go.Proofs.Ytdlmhcickcgnfaa
open Go.RowKit

/-- Places from 0 on. -/
def subl (L : List Int) : List Int := mapI L.length fun i => L.getD i 0 - 1
theorem subl_len (L : List Int) : (subl L).length = L.length := mapI_len _ _
theorem subl_at (L : List Int) (i : Nat) (h : i < L.length) : (subl L).getD i 0 = L.getD i 0 - 1 := mapI_at _ _ _ h
theorem trd_len (L : List Int) (i : Nat) : (trd L i).length = L.length := by unfold trd; simp
theorem subl_trd (L : List Int) (i : Nat) (h : i < L.length) : trd (subl L) i = subl (trd L i) := by
  apply List.ext_getElem?
  intro j
  by_cases hj : j < L.length
  · have h1 : (trd (subl L) i)[j]? = some ((trd (subl L) i).getD j 0) := by
      rw [List.getD_eq_getElem?_getD, List.getElem?_eq_getElem (by rw [trd_len, subl_len]; exact hj)]; rfl
    have h2 : (subl (trd L i))[j]? = some ((subl (trd L i)).getD j 0) := by
      rw [List.getD_eq_getElem?_getD, List.getElem?_eq_getElem (by rw [subl_len, trd_len]; exact hj)]; rfl
    rw [h1, h2, subl_at _ _ (by rw [trd_len]; exact hj)]
    unfold trd
    rw [getD_setI, getD_setI, getD_setI, getD_setI, List.length_set, List.length_set, subl_len, subl_at _ _ h, subl_at _ _ (show i - 1 < L.length by omega), subl_at _ _ hj]
    congr 1
    split
    · rfl
    · split <;> rfl
  · rw [List.getElem?_eq_none (by rw [trd_len, subl_len]; omega), List.getElem?_eq_none (by rw [subl_len, trd_len]; omega)]
theorem subl_first (n : Nat) (l : List Int) : (mapI n fun i => (i : Int) + 0) = subl (begT n l 0) := by
  have e : begT n l 0 = mapI n fun i => (i : Int) + 1 := rfl
  rw [e]
  unfold subl
  rw [mapI_len]
  exact mapI_congr _ _ _ fun j hj => by rw [mapI_at _ _ _ hj]; omega

end Go.Proofs.Ytdlmhcickcgnfaa
