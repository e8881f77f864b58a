/- What ref.LinkOf makes: pairs, and where the tangle's ends are. -/
import Derived.Test.YtphhlflcghffbaaTM4
import Derived.Test.YtphhlflcghffbaaTL6
namespace Go.Proofs.Ytphhlflcghffbaa
open Go.RowKit Go.Maps

/-- Pairs, and the ends in the north-east, south-west, south-east. -/
structure RS where
  P : List (Nat × Nat)
  ne : Nat
  sw : Nat
  se : Nat
def rs0 : RS := ⟨[], 1, 2, 3⟩
/-- One crossing more. -/
def rsStep (r : RS) (n : Nat) (right up : Bool) : RS :=
  if right = true then ⟨r.P ++ [(r.ne, cor n up 0)] ++ [(r.se, cor n up 2)], cor n up 1, r.sw, cor n up 3⟩ else ⟨r.P ++ [(r.sw, cor n up 0)] ++ [(r.se, cor n up 1)], r.ne, cor n up 2, cor n up 3⟩
def rsR (r : RS) (n : Nat) (right up : Bool) : Nat → RS
  | 0 => r
  | j + 1 => rsStep (rsR r n right up j) (n + j) right up
def rsL (l : List Int) : Nat → RS
  | 0 => rs0
  | i + 1 => rsR (rsL l i) (szTo l i) (decide (i % 2 = 0)) (decide (0 < l.getD i 0)) (l.getD i 0).natAbs
/-- All pairs. -/
def rsP (r : RS) : List (Nat × Nat) := r.P ++ [(0, r.ne)] ++ [(r.sw, r.se)]
theorem rsStep_len (r : RS) (n : Nat) (right up : Bool) : (rsStep r n right up).P.length = r.P.length + 2 := by
  unfold rsStep
  split <;> simp
theorem rsR_len (r : RS) (n : Nat) (right up : Bool) (j : Nat) : (rsR r n right up j).P.length = r.P.length + 2 * j := by
  induction j with
  | zero => rfl
  | succ j ih => rw [rsR, rsStep_len, ih]; omega
theorem rsL_len (l : List Int) (i : Nat) : (rsL l i).P.length = 2 * szTo l i := by
  induction i with
  | zero => rfl
  | succ i ih => rw [rsL, rsR_len, ih, szTo]; omega
end Go.Proofs.Ytphhlflcghffbaa
