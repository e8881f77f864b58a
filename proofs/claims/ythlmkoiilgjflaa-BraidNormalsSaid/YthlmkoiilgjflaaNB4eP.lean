/- Several texts of the proof, one behind the other. -/
import Derived.Test.YthlmkoiilgjflaaNB3P
import Derived.Test.YthlmkoiilgjflaaGD3P
/- BraidNormals: words of permutation braids reckoned: six places (e). -/
namespace Go.Proofs.Ythlmkoiilgjflaa
theorem chkG_9 : chkG 6 9 = true := by decide +kernel
theorem chkG_10 : chkG 6 10 = true := by decide +kernel
theorem chkG_11 : chkG 6 11 = true := by decide +kernel
end Go.Proofs.Ythlmkoiilgjflaa
/- Act tells words apart (Artin): plain mathematics. -/
namespace Go.Proofs.Ythlmkoiilgjflaa

/-- What the last strand around one does. -/
def tA (N : Nat) (x : Int) : List (List Int) := (aw1 N x).foldl stp (act0 N)
def vA (N : Nat) (x : Int) : List Int := ((tA N x).getD (N - 1) []).take (((tA N x).getD (N - 1) []).length / 2)
def okA (N : Nat) : Bool := (lets (N - 1)).all fun x => decide ((tA N x).getD (N - 1) [] = gl (gl (vA N x) [(N : Int)]) (rc (vA N x)) ∧ rho N (vA N x) = [x] ∧ rho N ((tA N x).getD (N - 1) []) = []) && ((List.range (N - 1)).all fun i => decide (rho N ((tA N x).getD i []) = [((i + 1 : Nat) : Int)]))
theorem okA_2 : okA 2 = true := by decide +kernel
theorem okA_3 : okA 3 = true := by decide +kernel
theorem okA_4 : okA 4 = true := by decide +kernel
theorem okA_5 : okA 5 = true := by decide +kernel
theorem okA_6 : okA 6 = true := by decide +kernel
theorem okA_all {N : Nat} (h2 : 2 ≤ N) (h6 : N ≤ 6) : okA N = true := by
  have : N = 2 ∨ N = 3 ∨ N = 4 ∨ N = 5 ∨ N = 6 := by omega
  rcases this with rfl | rfl | rfl | rfl | rfl
  · exact okA_2
  · exact okA_3
  · exact okA_4
  · exact okA_5
  · exact okA_6
/-- Where a place comes from. -/
def pj (w : List Int) (j : Nat) : Nat := w.foldr (fun x k => swp (x.natAbs - 1) k) j
def okP (N : Nat) : Bool := (List.range (N - 1)).all fun k => decide (pj (cw N (k + 1)) (N - 1) ≠ N - 1)
theorem okP_all {N : Nat} (h2 : 2 ≤ N) (h6 : N ≤ 6) : okP N = true := by
  have : N = 2 ∨ N = 3 ∨ N = 4 ∨ N = 5 ∨ N = 6 := by omega
  rcases this with rfl | rfl | rfl | rfl | rfl <;> decide
end Go.Proofs.Ythlmkoiilgjflaa
