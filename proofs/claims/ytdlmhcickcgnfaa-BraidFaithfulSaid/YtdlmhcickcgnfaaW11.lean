/- Lists of whole numbers that a call owns; the walk of gauss.evenNumbers. -/
import Derived.Test.YtdlmhcickcgnfaaW7
namespace Go.Proofs.Ytdlmhcickcgnfaa
open Go.RowKit

def intsV (l : List Int) : List Value := l.map fun x => .int .i64 x
theorem intsV_len (l : List Int) : (intsV l).length = l.length := by simp [intsV]
theorem intsV_get (l : List Int) (i : Nat) (h : i < l.length) : (intsV l)[i]? = some (.int .i64 (l.getD i 0)) := by simp [intsV, List.getD, h]
theorem intsV_set (l : List Int) (i : Nat) (x : Int) : (intsV l).set i (.int .i64 x) = intsV (l.set i x) := by simp [intsV, List.map_set]
theorem intsV_app (l : List Int) (x : Int) : intsV (l ++ [x]) = intsV l ++ [.int .i64 x] := by simp [intsV]
theorem made_zero (n : Nat) : (madeCells (Value.int .i64 0).cells (n * 1)).toList = intsV (List.replicate n 0) := by
  have e : (Value.int .i64 0).cells = #[Value.int .i64 0] := rfl
  rw [e, toList_madeCells_one, Nat.mul_one]
  simp [intsV]
/-- The even numbers of all crossings, behind j even visits. -/
def evL (x : Nat → Nat) (o : Nat → Bool) (n j : Nat) : List Int := (List.range n).map fun c => evTo x o c j
theorem evL_len (x : Nat → Nat) (o : Nat → Bool) (n j : Nat) : (evL x o n j).length = n := by simp [evL]
theorem evL_at (x : Nat → Nat) (o : Nat → Bool) (n j c : Nat) (h : c < n) : (evL x o n j).getD c 0 = evTo x o c j := by simp [evL, List.getD, h]
theorem evL_zero (x : Nat → Nat) (o : Nat → Bool) (n : Nat) : evL x o n 0 = List.replicate n 0 := by
  unfold evL
  simp only [evTo]
  rw [List.map_const', List.length_range]
theorem evL_next (x : Nat → Nat) (o : Nat → Bool) (n j c : Nat) (h : x (2 * j + 1) = c) (hc : c < n) : (evL x o n j).set c (evN o j) = evL x o n (j + 1) := by
  apply List.ext_getElem?
  intro i
  rw [List.getElem?_set]
  by_cases hi : i < n
  · by_cases e : c = i
    · subst e
      simp [evL, evTo, h, hc]
    · rw [if_neg e]
      simp [evL, hi, evTo, h, e]
  · rw [List.getElem?_eq_none (by rw [evL_len]; omega), List.getElem?_eq_none (by rw [evL_len]; omega)]
    split
    · split
      · next h1 => rw [evL_len] at h1; omega
      · rfl
    · rfl
theorem evTo_le (x : Nat → Nat) (o : Nat → Bool) (c j : Nat) : -(2 * (j : Int)) ≤ evTo x o c j ∧ evTo x o c j ≤ 2 * (j : Int) := by
  induction j with
  | zero => simp [evTo]
  | succ j ih =>
    simp only [evTo, evN]
    split
    · split <;> omega
    · omega
/-- The visits of a list, place by place. -/
def vX (V : List (Nat × Bool)) (p : Nat) : Nat := (V.getD p (0, false)).1
def vO (V : List (Nat × Bool)) (p : Nat) : Bool := (V.getD p (0, false)).2

end Go.Proofs.Ytdlmhcickcgnfaa
