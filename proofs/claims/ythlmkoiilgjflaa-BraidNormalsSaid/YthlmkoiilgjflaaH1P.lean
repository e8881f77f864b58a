/- Several texts of the proof, one behind the other. -/
import Derived.Test.YthlmkoiilgjflaaBase
/- Diagrams in a world; the walks of ref.ArcAt, ref.Entry, drawing.Arcs and drawing.ComesIn. -/
namespace Go.Proofs.Ythlmkoiilgjflaa
open Go.RowKit

/-- A crossing: its four arcs, and whether it is Plus. -/
structure Cr where
  a : Int
  b : Int
  c : Int
  d : Int
  plus : Bool
/-- No crossing at all. -/
def Cr.none : Cr := ⟨0, 0, 0, 0, false⟩
/-- The arc at side k. -/
def Cr.arc (x : Cr) (k : Nat) : Int := if k = 0 then x.a else if k = 1 then x.b else if k = 2 then x.c else x.d
/-- Does a strand come in at side k? -/
def Cr.comes (x : Cr) (k : Nat) : Bool := k == 0 || (k == 1 && !x.plus) || (k == 3 && x.plus)

/-- These crossings lie there, five cells each. -/
def CrossAt (w : World) (b off : Nat) (C : List Cr) : Prop := ∀ i, i < C.length →
  w.cell? ⟨b, off + i * 5, none⟩ = some (.int .i64 (C.getD i Cr.none).a) ∧ w.cell? ⟨b, off + i * 5 + 1, none⟩ = some (.int .i64 (C.getD i Cr.none).b) ∧ w.cell? ⟨b, off + i * 5 + 2, none⟩ = some (.int .i64 (C.getD i Cr.none).c) ∧
  w.cell? ⟨b, off + i * 5 + 3, none⟩ = some (.int .i64 (C.getD i Cr.none).d) ∧ w.cell? ⟨b, off + i * 5 + 4, none⟩ = some (.bool (C.getD i Cr.none).plus)
theorem CrossAt.on {w w' : World} {B b off : Nat} {C : List Cr} (h : CrossAt w b off C) (hb : Below B w w') (hlt : b < B) : CrossAt w' b off C := fun i hi =>
  ⟨bcell hb hlt (h i hi).1, bcell hb hlt (h i hi).2.1, bcell hb hlt (h i hi).2.2.1, bcell hb hlt (h i hi).2.2.2.1, bcell hb hlt (h i hi).2.2.2.2⟩

theorem below2 (w : World) (o1 o2 : Obj) : Below w.heap.size w ((w.alloc o1).alloc o2) := ((Below.refl _ _).alloc (Nat.le_refl _) _).alloc (by simp) _
theorem below3 (w : World) (o1 o2 o3 : Obj) : Below w.heap.size w (((w.alloc o1).alloc o2).alloc o3) := (below2 w o1 o2).alloc (by simp; omega) _

end Go.Proofs.Ythlmkoiilgjflaa
/- The walk of ref.DiagramMay: which diagrams may be, by counting. -/
namespace Go.Proofs.Ythlmkoiilgjflaa
open Go.RowKit

/-- At how many of the first k sides a comes in. -/
def sideIn (x : Cr) (a : Int) : Nat → Nat
  | 0 => 0
  | k + 1 => sideIn x a k + (if x.arc k = a ∧ x.comes k = true then 1 else 0)
/-- At how many of the first k sides a goes out. -/
def sideOut (x : Cr) (a : Int) : Nat → Nat
  | 0 => 0
  | k + 1 => sideOut x a k + (if x.arc k = a ∧ x.comes k = false then 1 else 0)
def inTo (C : List Cr) (a : Int) : Nat → Nat
  | 0 => 0
  | i + 1 => inTo C a i + sideIn (C.getD i Cr.none) a 4
def outTo (C : List Cr) (a : Int) : Nat → Nat
  | 0 => 0
  | i + 1 => outTo C a i + sideOut (C.getD i Cr.none) a 4
/-- Arc a comes in once and goes out once. -/
def onceB (C : List Cr) (a : Nat) : Bool := decide (inTo C a C.length = 1) && decide (outTo C a C.length = 1)
/-- Crossings and loops are not too many, and not none. -/
def sizeB (C : List Cr) (loops : Int) : Bool := decide (C.length ≤ 16) && decide (0 ≤ loops) && decide (loops ≤ 16) && !(decide (C.length = 0) && decide (loops = 0))
/-- The diagram may be. -/
def mayD (C : List Cr) (loops : Int) : Bool := sizeB C loops && (List.range (2 * C.length)).all fun j => onceB C (j + 1)

theorem sideIn_le (x : Cr) (a : Int) (k : Nat) : sideIn x a k ≤ k := by
  induction k with
  | zero => exact Nat.le_refl _
  | succ k ih => simp only [sideIn]; split <;> omega
theorem sideOut_le (x : Cr) (a : Int) (k : Nat) : sideOut x a k ≤ k := by
  induction k with
  | zero => exact Nat.le_refl _
  | succ k ih => simp only [sideOut]; split <;> omega
theorem inTo_le (C : List Cr) (a : Int) (i : Nat) : inTo C a i ≤ 4 * i := by
  induction i with
  | zero => exact Nat.le_refl _
  | succ i ih => have := sideIn_le (C.getD i Cr.none) a 4; simp only [inTo]; omega
theorem outTo_le (C : List Cr) (a : Int) (i : Nat) : outTo C a i ≤ 4 * i := by
  induction i with
  | zero => exact Nat.le_refl _
  | succ i ih => have := sideOut_le (C.getD i Cr.none) a 4; simp only [outTo]; omega
theorem mayD_no {C : List Cr} {loops : Int} {a : Nat} (h0 : 1 ≤ a) (h1 : a ≤ 2 * C.length) (h : onceB C a = false) : mayD C loops = false := by
  cases hm : mayD C loops with
  | false => rfl
  | true =>
    simp only [mayD, Bool.and_eq_true, List.all_eq_true, List.mem_range] at hm
    have := hm.2 (a - 1) (by omega)
    rw [show a - 1 + 1 = a by omega, h] at this
    cases this
theorem mayD_yes {C : List Cr} {loops : Int} (hs : sizeB C loops = true) (h : ∀ a : Nat, 1 ≤ a → a ≤ 2 * C.length → onceB C a = true) : mayD C loops = true := by
  simp only [mayD, Bool.and_eq_true, List.all_eq_true, List.mem_range]
  exact ⟨hs, fun j hj => h (j + 1) (by omega) (by omega)⟩
theorem mayD_size {C : List Cr} {loops : Int} (hs : sizeB C loops = false) : mayD C loops = false := by
  simp [mayD, hs]

/-- A slice of crossings. -/
def Crs (w : World) (B : Nat) (v : Value) (C : List Cr) : Prop := ∃ a cap, v = .slice a C.length cap ∧ C.length ≤ maxLen ∧ (0 < C.length → ∃ b off, a = some ⟨b, off, none⟩ ∧ b < B ∧ CrossAt w b off C)

end Go.Proofs.Ythlmkoiilgjflaa
