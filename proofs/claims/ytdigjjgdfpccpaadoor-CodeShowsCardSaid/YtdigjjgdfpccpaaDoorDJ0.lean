/- Texts of diagrams, as bytes: plain functions on lists, their lengths. No program is named here. -/
import Derived.Lib.ItoaNum
import Derived.Lib.ItoaLen
import Derived.Lib.ItoaMem
import Derived.Lib.Join
import Derived.Test.YtdigjjgdfpccpaaDoorH2
namespace Go.Proofs.YtdigjjgdfpccpaaDoor

/-- What a crossing's text begins with. -/
def openL (p : Bool) : List UInt8 := if p then [88, 43, 91] else [88, 45, 91]
/-- The numbers of a crossing, as texts. -/
def numsL (x : Cr) : List (List UInt8) := [Lib.itoa x.a, Lib.itoa x.b, Lib.itoa x.c, Lib.itoa x.d]
/-- The text of a crossing. -/
def crossL (x : Cr) : List UInt8 := openL x.plus ++ Lib.join (numsL x) [44] ++ [93]
/-- The parts of a text. -/
def partsL (C : List Cr) (loops : Nat) : List (List UInt8) := C.map crossL ++ List.replicate loops [79]
/-- The whole text. -/
def textD (C : List Cr) (loops : Nat) : List UInt8 := Lib.join (partsL C loops) [32]
/-- Parts, each behind a blank. -/
def blankL (l : List (List UInt8)) : List UInt8 := (l.map (32 :: ·)).flatten

theorem blank_snoc (l : List (List UInt8)) (x : List UInt8) : blankL (l ++ [x]) = blankL l ++ ([32] ++ x) := by
  unfold blankL
  simp
theorem join_blank (l : List (List UInt8)) (h : l ≠ []) : Lib.join l [32] = (blankL l).drop 1 := by
  cases l with
  | nil => exact absurd rfl h
  | cons x r =>
    rw [Lib.join_cons]
    unfold blankL Lib.joinTail
    simp
theorem blank_len (l : List (List UInt8)) (m : Nat) (h : ∀ x ∈ l, x.length ≤ m) : (blankL l).length ≤ l.length * (m + 1) := by
  induction l with
  | nil => simp [blankL]
  | cons x r ih =>
    have h1 := ih (fun y hy => h y (List.mem_cons_of_mem _ hy))
    have h2 := h x List.mem_cons_self
    unfold blankL at h1 ⊢
    simp only [List.map_cons, List.flatten_cons, List.length_append, List.length_cons]
    rw [Nat.add_mul]
    omega
theorem nums_join (x : Cr) : Lib.join (numsL x) [44] = Lib.itoa x.a ++ [44] ++ Lib.itoa x.b ++ [44] ++ Lib.itoa x.c ++ [44] ++ Lib.itoa x.d := by
  unfold numsL
  rw [Lib.join_cons]
  unfold Lib.joinTail
  simp
/-- Arcs that are no more than a million in size. -/
def Small (x : Cr) : Prop := (-1000000 ≤ x.a ∧ x.a ≤ 1000000) ∧ (-1000000 ≤ x.b ∧ x.b ≤ 1000000) ∧ (-1000000 ≤ x.c ∧ x.c ≤ 1000000) ∧ (-1000000 ≤ x.d ∧ x.d ≤ 1000000)
theorem itoa_small (n : Int) (h : -1000000 ≤ n ∧ n ≤ 1000000) : (Lib.itoa n).length ≤ 21 := Lib.itoa_length_le n (by omega) (by omega)
theorem nums_len {x : Cr} (h : Small x) : ∀ y ∈ numsL x, y.length ≤ 21 := by
  intro y hy
  unfold numsL at hy
  obtain ⟨h1, h2, h3, h4⟩ := h
  simp only [List.mem_cons, List.not_mem_nil, or_false] at hy
  rcases hy with rfl | rfl | rfl | rfl
  · exact itoa_small _ h1
  · exact itoa_small _ h2
  · exact itoa_small _ h3
  · exact itoa_small _ h4
theorem cross_len {x : Cr} (h : Small x) : (crossL x).length ≤ 100 := by
  obtain ⟨h1, h2, h3, h4⟩ := h
  have a1 := itoa_small _ h1
  have a2 := itoa_small _ h2
  have a3 := itoa_small _ h3
  have a4 := itoa_small _ h4
  have hp : (openL x.plus).length = 3 := by cases x.plus <;> rfl
  unfold crossL
  rw [nums_join]
  simp only [List.length_append, List.length_cons, List.length_nil, hp]
  omega
theorem parts_len {C : List Cr} {loops : Nat} (h : ∀ x ∈ C, Small x) : ∀ y ∈ partsL C loops, y.length ≤ 100 := by
  intro y hy
  unfold partsL at hy
  rcases List.mem_append.1 hy with hy | hy
  · obtain ⟨x, hx, rfl⟩ := List.mem_map.1 hy
    exact cross_len (h x hx)
  · rw [List.eq_of_mem_replicate hy]
    decide
end Go.Proofs.YtdigjjgdfpccpaaDoor
