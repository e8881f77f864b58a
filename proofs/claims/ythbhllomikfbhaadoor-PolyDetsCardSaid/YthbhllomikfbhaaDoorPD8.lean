/- The walk of knotworkref.DetMay. -/
import Derived.Test.YthbhllomikfbhaaDoorPD7
namespace Go.Proofs.YthbhllomikfbhaaDoor.Poly
open Go.RowKit Go.Maps

/-- What the document asks of a table, as a number: 2 a wrong size, 1 a place that may not be handed in, 3 a place that is too great, 0 none. -/
def detMayN (T : List (List (List (Int × Int)))) : Int := if squareB T = false then 2 else if everyB mayB T = false then 1 else if everyB fewB T = false then 3 else 0

/-- The places ahead of place j of row k, in order, all have it. -/
def Ahead (G : List (Int × Int) → Bool) (T : List (List (List (Int × Int)))) (k j : Nat) : Bool :=
  (List.range k).all (fun i => (List.range (T.getD i []).length).all fun m => G ((T.getD i []).getD m [])) && (List.range j).all fun m => G ((T.getD k []).getD m [])

theorem ahead_row (G : List (Int × Int) → Bool) (T : List (List (List (Int × Int)))) (k : Nat) : Ahead G T k (T.getD k []).length = Ahead G T (k + 1) 0 := by
  unfold Ahead
  simp [List.range_succ, List.all_append]
theorem ahead_next (G : List (Int × Int) → Bool) (T : List (List (List (Int × Int)))) (k j : Nat) : Ahead G T k (j + 1) = (Ahead G T k j && G ((T.getD k []).getD j [])) := by
  unfold Ahead
  simp [List.range_succ, List.all_append, Bool.and_assoc]
theorem ahead_end (G : List (Int × Int) → Bool) (T : List (List (List (Int × Int)))) : Ahead G T T.length 0 = everyB G T := by
  unfold Ahead everyB
  simp
theorem ahead_start (G : List (Int × Int) → Bool) (T : List (List (List (Int × Int)))) : Ahead G T 0 0 = true := by
  unfold Ahead
  simp

theorem detMay_size {T : List (List (List (Int × Int)))} (h : squareB T = false) : detMayN T = 2 := by unfold detMayN; rw [if_pos h]
theorem detMay_form {T : List (List (List (Int × Int)))} (h : squareB T = true) (h1 : everyB mayB T = false) : detMayN T = 1 := by unfold detMayN; rw [if_neg (by simp [h]), if_pos h1]
theorem detMay_range {T : List (List (List (Int × Int)))} (h : squareB T = true) (h1 : everyB mayB T = true) (h2 : everyB fewB T = false) : detMayN T = 3 := by unfold detMayN; rw [if_neg (by simp [h]), if_neg (by simp [h1]), if_pos h2]
theorem detMay_ok {T : List (List (List (Int × Int)))} (h : squareB T = true) (h1 : everyB mayB T = true) (h2 : everyB fewB T = true) : detMayN T = 0 := by unfold detMayN; rw [if_neg (by simp [h]), if_neg (by simp [h1]), if_neg (by simp [h2])]

end Go.Proofs.YthbhllomikfbhaaDoor.Poly
