/- The columns of a set of bits, and a last row taken column by column. Plain mathematics: no program is named here. -/
import Derived.Test.YthbhllomikfbhaaDoorPD8
namespace Go.Proofs.YthbhllomikfbhaaDoor.Poly

/-- Each column of the list with its sign and the other columns. -/
def picksE : List Nat → List (Int × Nat × List Nat)
  | [] => []
  | c :: cs => (sgn cs.length, c, cs) :: (picksE cs).map fun p => (p.1, p.2.1, c :: p.2.2)
/-- Their sum. -/
def sumE (b : Nat → List (Int × Int)) (h : List Nat → Int → Int) : List (Int × Nat × List Nat) → Int → Int
  | [], _ => 0
  | p :: ps, y => p.1 * prodL (b p.2.1) (h p.2.2) y + sumE b h ps y

theorem sumE_map (b : Nat → List (Int × Int)) (h : List Nat → Int → Int) (c : Nat) (ps : List (Int × Nat × List Nat)) (y : Int) : sumE b h (ps.map fun p => (p.1, p.2.1, c :: p.2.2)) y = sumE b (fun r => h (c :: r)) ps y := by
  induction ps with
  | nil => rfl
  | cons p ps ih => simp only [List.map_cons, sumE, ih]
theorem rowE_picks (b : Nat → List (Int × Int)) (h : List Nat → Int → Int) (cs : List Nat) (y : Int) : rowE b cs h y = sumE b h (picksE cs) y := by
  induction cs generalizing h with
  | nil => rfl
  | cons c cs ih => simp only [rowE, picksE, sumE, sumE_map, ih]
theorem sumE_append (b : Nat → List (Int × Int)) (h : List Nat → Int → Int) (ps qs : List (Int × Nat × List Nat)) (y : Int) : sumE b h (ps ++ qs) y = sumE b h ps y + sumE b h qs y := by
  induction ps with
  | nil => simp [sumE]
  | cons p ps ih => simp only [List.cons_append, sumE, ih]; omega

/-- The columns of a set, rising. -/
def colsOf (s : Nat) : List Nat := (List.range 6).filter fun c => (s >>> c) % 2 == 1
/-- The sign of column c in the set s. -/
def signOf (s c : Nat) : Int := if onesTo (s >>> c) 6 % 2 = 0 then -1 else 1
/-- What the loop has taken behind the first m columns. -/
def progE (s m : Nat) : List (Int × Nat × List Nat) := ((List.range m).filter fun c => (s >>> c) % 2 == 1).map fun c => (signOf s c, c, colsOf (s - 2 ^ c))

theorem prog_next (s m : Nat) : progE s (m + 1) = progE s m ++ (if (s >>> m) % 2 = 1 then [(signOf s m, m, colsOf (s - 2 ^ m))] else []) := by
  unfold progE
  rw [List.range_succ, List.filter_append, List.map_append]
  congr 1
  by_cases h : (s >>> m) % 2 = 1
  · simp [h]
  · simp [h]

theorem prog_all : ∀ s, s < 64 → progE s 6 = picksE (colsOf s) := by decide +kernel
theorem prog_few_all : ((List.range 7).all fun n => (List.range (2 ^ n)).all fun s => decide (progE s n = progE s 6)) = true := by decide +kernel
theorem prog_few (n : Nat) (hn : n < 7) (s : Nat) (hs : s < 2 ^ n) : progE s n = progE s 6 := by
  have h := prog_few_all
  simp only [List.all_eq_true, List.mem_range, decide_eq_true_eq] at h
  exact h n hn s hs
theorem cols_len : ∀ s, s < 64 → (colsOf s).length = onesTo s 6 := by decide +kernel
theorem cols_full : ∀ n, n < 7 → colsOf (2 ^ n - 1) = List.range n := by decide +kernel
theorem cols_less : ∀ s, s < 64 → ∀ c, c < 6 → (s >>> c) % 2 = 1 → s - 2 ^ c < s ∧ onesTo (s - 2 ^ c) 6 + 1 = onesTo s 6 := by decide +kernel
theorem ones_le : ∀ n, n < 7 → ∀ s, s < 2 ^ n → onesTo s 6 ≤ n ∧ (0 < s → 0 < onesTo s 6) := by decide +kernel

/-- The loop's sum at its end. -/
theorem rowE_prog (b : Nat → List (Int × Int)) (h : List Nat → Int → Int) (n s : Nat) (hn : n < 7) (hs : s < 2 ^ n) (y : Int) : sumE b h (progE s n) y = rowE b (colsOf s) h y := by
  have h64 : s < 64 := Nat.lt_of_lt_of_le hs (Nat.pow_le_pow_right (n := 2) (by decide) (show n ≤ 6 by omega))
  rw [rowE_picks, prog_few n hn s hs, prog_all s h64]
end Go.Proofs.YthbhllomikfbhaaDoor.Poly
