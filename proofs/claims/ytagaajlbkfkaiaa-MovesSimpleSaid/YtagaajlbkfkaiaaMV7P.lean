/- Several texts of the proof, one behind the other. -/
import Derived.Test.YtagaajlbkfkaiaaMV5P
import Derived.Test.YtagaajlbkfkaiaaTkhP
import Derived.Deep.RegionHeld
import Derived.Test.YtagaajlbkfkaiaaME1P
import Derived.Test.YtagaajlbkfkaiaaF2P
import Derived.Test.YtagaajlbkfkaiaaW2P
/- Moves: the walk of bench.curl, where it may be done. Made by genmv7.py. -/
namespace Go.Proofs.Ytagaajlbkfkaiaa
open Go.RowKit Go.Maps

end Go.Proofs.Ytagaajlbkfkaiaa
/- The walk of ref.pullable. Made by genme2.py. -/
namespace Go.Proofs.Ytagaajlbkfkaiaa
open Go.RowKit

/-- The reference's test of a ring. -/
def jlR (C : List Cr) (x y : Nat) (l : List Nat) : Bool := decide (l.length = 2) && (((decide (dC C (l.getD 0 0) = x) && decide (dC C (l.getD 1 0) = y)) || (decide (dC C (l.getD 0 0) = y) && decide (dC C (l.getD 1 0) = x))) && ((decide (hgt C (dA (l.getD 0 0)) = 2) && decide (hgt C (dA (l.getD 1 0)) = 0)) || (decide (hgt C (dA (l.getD 0 0)) = 0) && decide (hgt C (dA (l.getD 1 0)) = 2))))
theorem jl_same (C : List Cr) (x y : Nat) (l : List Nat) : jlR C x y l = jlB C x y l := by
  unfold jlR jlB
  by_cases h2 : l.length = 2
  · obtain ⟨u, v, rfl⟩ : ∃ u v, l = [u, v] := by
      match l, h2 with
      | [u, v], _ => exact ⟨u, v, rfl⟩
    rw [decide_eq_true h2, Bool.true_and, Bool.true_and]
    congr 1
    have e0 : [u, v].getD 0 0 = u := rfl
    have e1 : [u, v].getD 1 0 = v := rfl
    rw [e0, e1]
    unfold topB botB hiB hgt
    simp only [List.any_cons, List.any_nil, Bool.or_false]
    generalize enS C (dA u) true = a
    generalize enS C (dA u) false = b
    generalize enS C (dA v) true = c
    generalize enS C (dA v) false = d
    rcases Nat.mod_two_eq_zero_or_one a with h1 | h1 <;> rcases Nat.mod_two_eq_zero_or_one b with h3 | h3 <;> rcases Nat.mod_two_eq_zero_or_one c with h4 | h4 <;> rcases Nat.mod_two_eq_zero_or_one d with h5 | h5 <;> rw [h1, h3, h4, h5] <;> decide
  · rw [decide_eq_false h2]
    rfl
end Go.Proofs.Ytagaajlbkfkaiaa
/- The walk of ref.set. Made by genme3.py. -/
namespace Go.Proofs.Ytagaajlbkfkaiaa
open Go.RowKit

/-- A crossing with another arc at side k. -/
def Cr.at (x : Cr) (k : Nat) (v : Int) : Cr := if k = 0 then ⟨v, x.b, x.c, x.d, x.plus⟩ else if k = 1 then ⟨x.a, v, x.c, x.d, x.plus⟩ else if k = 2 then ⟨x.a, x.b, v, x.d, x.plus⟩ else ⟨x.a, x.b, x.c, v, x.plus⟩
end Go.Proofs.Ytagaajlbkfkaiaa
