/- The walk of ref.DiagramMay: which diagrams may be, by counting. -/
import Derived.Test.YtagaajlbkfkaiaaH1
namespace Go.Proofs.Ytagaajlbkfkaiaa
open Go.RowKit

/-- At how many of the first k sides a comes in. -/
def sideIn (x : Cr) (a : Int) : Nat → Nat
  | 0 => 0
  | k + 1 => sideIn x a k + (if x.arc k = a ∧ x.comes k = true then 1 else 0)
/-- At how many of the first k sides a goes out. -/
def sideOut (x : Cr) (a : Int) : Nat → Nat
  | 0 => 0
  | k + 1 => sideOut x a k + (if x.arc k = a ∧ x.comes k = false then 1 else 0)
def inTo (C : List Cr) (a : Int) : Nat → Nat
  | 0 => 0
  | i + 1 => inTo C a i + sideIn (C.getD i Cr.none) a 4
def outTo (C : List Cr) (a : Int) : Nat → Nat
  | 0 => 0
  | i + 1 => outTo C a i + sideOut (C.getD i Cr.none) a 4
/-- Arc a comes in once and goes out once. -/
def onceB (C : List Cr) (a : Nat) : Bool := decide (inTo C a C.length = 1) && decide (outTo C a C.length = 1)
/-- Crossings and loops are not too many, and not none. -/
def sizeB (C : List Cr) (loops : Int) : Bool := decide (C.length ≤ 16) && decide (0 ≤ loops) && decide (loops ≤ 16) && !(decide (C.length = 0) && decide (loops = 0))
/-- The diagram may be. -/
def mayD (C : List Cr) (loops : Int) : Bool := sizeB C loops && (List.range (2 * C.length)).all fun j => onceB C (j + 1)

theorem sideIn_le (x : Cr) (a : Int) (k : Nat) : sideIn x a k ≤ k := by
  induction k with
  | zero => exact Nat.le_refl _
  | succ k ih => simp only [sideIn]; split <;> omega
theorem sideOut_le (x : Cr) (a : Int) (k : Nat) : sideOut x a k ≤ k := by
  induction k with
  | zero => exact Nat.le_refl _
  | succ k ih => simp only [sideOut]; split <;> omega
theorem inTo_le (C : List Cr) (a : Int) (i : Nat) : inTo C a i ≤ 4 * i := by
  induction i with
  | zero => exact Nat.le_refl _
  | succ i ih => have := sideIn_le (C.getD i Cr.none) a 4; simp only [inTo]; omega
theorem outTo_le (C : List Cr) (a : Int) (i : Nat) : outTo C a i ≤ 4 * i := by
  induction i with
  | zero => exact Nat.le_refl _
  | succ i ih => have := sideOut_le (C.getD i Cr.none) a 4; simp only [outTo]; omega
theorem mayD_no {C : List Cr} {loops : Int} {a : Nat} (h0 : 1 ≤ a) (h1 : a ≤ 2 * C.length) (h : onceB C a = false) : mayD C loops = false := by
  cases hm : mayD C loops with
  | false => rfl
  | true =>
    simp only [mayD, Bool.and_eq_true, List.all_eq_true, List.mem_range] at hm
    have := hm.2 (a - 1) (by omega)
    rw [show a - 1 + 1 = a by omega, h] at this
    cases this
theorem mayD_yes {C : List Cr} {loops : Int} (hs : sizeB C loops = true) (h : ∀ a : Nat, 1 ≤ a → a ≤ 2 * C.length → onceB C a = true) : mayD C loops = true := by
  simp only [mayD, Bool.and_eq_true, List.all_eq_true, List.mem_range]
  exact ⟨hs, fun j hj => h (j + 1) (by omega) (by omega)⟩
theorem mayD_size {C : List Cr} {loops : Int} (hs : sizeB C loops = false) : mayD C loops = false := by
  simp [mayD, hs]

/-- A slice of crossings. -/
def Crs (w : World) (B : Nat) (v : Value) (C : List Cr) : Prop := ∃ a cap, v = .slice a C.length cap ∧ C.length ≤ maxLen ∧ (0 < C.length → ∃ b off, a = some ⟨b, off, none⟩ ∧ b < B ∧ CrossAt w b off C)

set_option maxHeartbeats 4000000 in
set_option maxRecDepth 100000 in
theorem may17_size (v : Value) (C : List Cr) (loops : Int) (w : World) (h : Crs w w.heap.size v C) (hs : sizeB C loops = false) :
    Calls Try.prog 31 #[.agg #[v, .int .i64 loops]] w fun e w' => e = .returned (.bool false) ∧ Below w.heap.size w w' := by
  obtain ⟨a, cap, rfl, hn, _⟩ := h
  have hn' : C.length ≤ 9223372036854775807 := hn
  have hb1 : ∀ o, Below w.heap.size w (w.alloc o) := fun o => (Below.refl _ _).alloc (Nat.le_refl _) o
  by_cases h1 : 16 < C.length
  · have d1 : decide (16 < (C.length : Int)) = true := by simp; omega
    have d2 : decide (16 < C.length) = true := by simp; omega
    go_enter Try.func31, Try.ntmps31
    go_wp2
    go_ret
    exact ⟨rfl, hb1 _⟩
  · by_cases h2 : loops < 0
    · have d2 : decide (loops < 0) = true := by simpa using h2
      go_enter Try.func31, Try.ntmps31
      go_wp2
      go_ret
      exact ⟨rfl, hb1 _⟩
    · by_cases h3 : 16 < loops
      · have d3 : decide (16 < loops) = true := by simpa using h3
        go_enter Try.func31, Try.ntmps31
        go_wp2
        go_ret
        exact ⟨rfl, hb1 _⟩
      · have h4 : C.length = 0 ∧ loops = 0 := by
          simp only [sizeB, Bool.and_eq_false_iff, decide_eq_false_iff_not, Bool.not_eq_false', Bool.and_eq_true, decide_eq_true_eq] at hs
          omega
        obtain ⟨h4, rfl⟩ := h4
        rw [h4]
        go_enter Try.func31, Try.ntmps31
        go_wp2
        go_ret
        exact ⟨rfl, hb1 _⟩
end Go.Proofs.Ytagaajlbkfkaiaa
