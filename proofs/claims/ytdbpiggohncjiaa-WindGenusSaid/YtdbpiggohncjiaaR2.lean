/- Rings along any row of darts. -/
import Derived.Test.YtdbpiggohncjiaaR1
namespace Go.Proofs.Ytdbpiggohncjiaa
open Go.RowKit

def ringStep (f : Nat → Nat) (n : Nat) (r : List (List Nat) × List Bool) (x : Nat) : List (List Nat) × List Bool := (if (walkF f (n + 1) r.2 x []).1 = [] then r.1 else r.1 ++ [(walkF f (n + 1) r.2 x []).1], (walkF f (n + 1) r.2 x []).2)
def ringsL (f : Nat → Nat) (n : Nat) (l : List Nat) : List (List Nat) × List Bool := l.foldl (ringStep f n) ([], List.replicate (n + 1) false)
theorem ringsL_snoc (f : Nat → Nat) (n : Nat) (l : List Nat) (x : Nat) : ringsL f n (l ++ [x]) = ringStep f n (ringsL f n l) x := by simp [ringsL]
theorem ringsL_walks (f : Nat → Nat) (n a : Nat) : ringsL f n ((List.range a).map (· + 1)) = walksTo f n a := by
  induction a with
  | zero => rfl
  | succ a ih =>
    rw [List.range_succ, List.map_append, List.map_cons, List.map_nil, ringsL_snoc, ih]
    rfl
theorem ringsF_len (f : Nat → Nat) (n : Nat) (l : List Nat) : ∀ r, (l.foldl (ringStep f n) r).2.length = r.2.length ∧ (l.foldl (ringStep f n) r).1.length ≤ r.1.length + l.length := by
  induction l with
  | nil => intro r; simp
  | cons x l ih =>
    intro r
    have h := ih (ringStep f n r x)
    have h2 : (ringStep f n r x).2.length = r.2.length := by unfold ringStep; rw [walkF_len]
    have h1 : (ringStep f n r x).1.length ≤ r.1.length + 1 := by
      unfold ringStep
      split
      · exact Nat.le_succ _
      · simp
    simp only [List.foldl_cons, List.length_cons]
    omega
theorem ringsL_len (f : Nat → Nat) (n : Nat) (l : List Nat) : (ringsL f n l).2.length = n + 1 ∧ (ringsL f n l).1.length ≤ l.length := by
  have h := ringsF_len f n l ([], List.replicate (n + 1) false)
  simp only [List.length_replicate, List.length_nil, Nat.zero_add] at h
  exact h
theorem ringStep_next {f : Nat → Nat} {n : Nat} {r : List (List Nat) × List Bool} {x : Nat} {acc : List Nat} {seen : List Bool} (h : walkF f (n + 1) r.2 x [] = (acc, seen)) : ringStep f n r x = (if acc = [] then r.1 else r.1 ++ [acc], seen) := by
  unfold ringStep
  rw [h]
theorem faces_rings (C : List Cr) (l : List (DN C.length)) (h : l = dl C.length (2 * C.length)) : (ringsL (fd C) (4 * C.length) (l.map fun x => x.1)).1 = facesM C := by
  rw [h, dl_val _ _ (Nat.le_refl _), show 2 * (2 * C.length) = 4 * C.length by omega, ringsL_walks]
  rfl
end Go.Proofs.Ytdbpiggohncjiaa
