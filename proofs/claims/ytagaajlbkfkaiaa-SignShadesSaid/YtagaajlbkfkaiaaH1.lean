/- Diagrams in a world; the walks of ref.ArcAt, ref.Entry, drawing.Arcs and drawing.ComesIn. -/
import Derived.Test.YtagaajlbkfkaiaaBase
namespace Go.Proofs.Ytagaajlbkfkaiaa
open Go.RowKit

/-- A crossing: its four arcs, and whether it is Plus. -/
structure Cr where
  a : Int
  b : Int
  c : Int
  d : Int
  plus : Bool
/-- No crossing at all. -/
def Cr.none : Cr := ⟨0, 0, 0, 0, false⟩
/-- The arc at side k. -/
def Cr.arc (x : Cr) (k : Nat) : Int := if k = 0 then x.a else if k = 1 then x.b else if k = 2 then x.c else x.d
/-- Does a strand come in at side k? -/
def Cr.comes (x : Cr) (k : Nat) : Bool := k == 0 || (k == 1 && !x.plus) || (k == 3 && x.plus)

/-- These crossings lie there, five cells each. -/
def CrossAt (w : World) (b off : Nat) (C : List Cr) : Prop := ∀ i, i < C.length →
  w.cell? ⟨b, off + i * 5, none⟩ = some (.int .i64 (C.getD i Cr.none).a) ∧ w.cell? ⟨b, off + i * 5 + 1, none⟩ = some (.int .i64 (C.getD i Cr.none).b) ∧ w.cell? ⟨b, off + i * 5 + 2, none⟩ = some (.int .i64 (C.getD i Cr.none).c) ∧
  w.cell? ⟨b, off + i * 5 + 3, none⟩ = some (.int .i64 (C.getD i Cr.none).d) ∧ w.cell? ⟨b, off + i * 5 + 4, none⟩ = some (.bool (C.getD i Cr.none).plus)
theorem CrossAt.on {w w' : World} {B b off : Nat} {C : List Cr} (h : CrossAt w b off C) (hb : Below B w w') (hlt : b < B) : CrossAt w' b off C := fun i hi =>
  ⟨bcell hb hlt (h i hi).1, bcell hb hlt (h i hi).2.1, bcell hb hlt (h i hi).2.2.1, bcell hb hlt (h i hi).2.2.2.1, bcell hb hlt (h i hi).2.2.2.2⟩

theorem below2 (w : World) (o1 o2 : Obj) : Below w.heap.size w ((w.alloc o1).alloc o2) := ((Below.refl _ _).alloc (Nat.le_refl _) _).alloc (by simp) _
theorem below3 (w : World) (o1 o2 o3 : Obj) : Below w.heap.size w (((w.alloc o1).alloc o2).alloc o3) := (below2 w o1 o2).alloc (by simp; omega) _

set_option maxHeartbeats 2000000 in
set_option maxRecDepth 100000 in
theorem arcAt_any (b off cap : Nat) (loops : Int) (C : List Cr) (i k : Nat) (w : World) (hi : i < C.length) (hk : k < 4) (hbw : b < w.heap.size) (hC : CrossAt w b off C) :
    Calls Try.prog 60 #[.agg #[.slice (some ⟨b, off, none⟩) C.length cap, .int .i64 loops], .agg #[.int .i64 i, .int .i64 k]] w fun e w' => e = .returned (.int .i64 ((C.getD i Cr.none).arc k)) ∧ Below w.heap.size w w' := by
  obtain ⟨c0, c1, c2, c3, c4⟩ := hC i hi
  clear hC
  generalize C.getD i Cr.none = x at c0 c1 c2 c3 c4
  have hk4 : k = 0 ∨ k = 1 ∨ k = 2 ∨ k = 3 := by omega
  rcases hk4 with rfl | rfl | rfl | rfl
  · go_enter Try.func60, Try.ntmps60
    go_wp2
    go_ret
    exact ⟨rfl, below3 _ _ _ _⟩
  · go_enter Try.func60, Try.ntmps60
    go_wp2
    go_ret
    exact ⟨rfl, below3 _ _ _ _⟩
  · go_enter Try.func60, Try.ntmps60
    go_wp2
    go_ret
    exact ⟨rfl, below3 _ _ _ _⟩
  · go_enter Try.func60, Try.ntmps60
    go_wp2
    go_ret
    exact ⟨rfl, below3 _ _ _ _⟩

set_option maxHeartbeats 2000000 in
set_option maxRecDepth 100000 in
theorem entry_any (b off cap : Nat) (loops : Int) (C : List Cr) (i k : Nat) (w : World) (hi : i < C.length) (hk : k < 4) (hbw : b < w.heap.size) (hC : CrossAt w b off C) :
    Calls Try.prog 61 #[.agg #[.slice (some ⟨b, off, none⟩) C.length cap, .int .i64 loops], .agg #[.int .i64 i, .int .i64 k]] w fun e w' => e = .returned (.bool ((C.getD i Cr.none).comes k)) ∧ Below w.heap.size w w' := by
  obtain ⟨c0, c1, c2, c3, c4⟩ := hC i hi
  clear hC c0 c1 c2 c3
  generalize C.getD i Cr.none = x at c4
  obtain ⟨xa, xb, xc, xd, xp⟩ := x
  have hk4 : k = 0 ∨ k = 1 ∨ k = 2 ∨ k = 3 := by omega
  rcases hk4 with rfl | rfl | rfl | rfl
  · go_enter Try.func61, Try.ntmps61
    go_wp2
    go_ret
    exact ⟨rfl, below2 _ _ _⟩
  · cases xp
    · go_enter Try.func61, Try.ntmps61
      go_wp2
      go_ret
      exact ⟨rfl, below2 _ _ _⟩
    · go_enter Try.func61, Try.ntmps61
      go_wp2
      go_ret
      exact ⟨rfl, below2 _ _ _⟩
  · go_enter Try.func61, Try.ntmps61
    go_wp2
    go_ret
    exact ⟨rfl, below2 _ _ _⟩
  · cases xp
    · go_enter Try.func61, Try.ntmps61
      go_wp2
      go_ret
      exact ⟨rfl, below2 _ _ _⟩
    · go_enter Try.func61, Try.ntmps61
      go_wp2
      go_ret
      exact ⟨rfl, below2 _ _ _⟩

set_option maxHeartbeats 1000000 in
set_option maxRecDepth 100000 in
theorem comesIn_any (x : Cr) (k : Nat) (w : World) (hk : k < 4) :
    Calls Try.prog 76 #[.agg #[.int .i64 x.a, .int .i64 x.b, .int .i64 x.c, .int .i64 x.d, .bool x.plus], .int .i64 k] w fun e w' => e = .returned (.bool (x.comes k)) ∧ Below w.heap.size w w' := by
  obtain ⟨xa, xb, xc, xd, xp⟩ := x
  have hk4 : k = 0 ∨ k = 1 ∨ k = 2 ∨ k = 3 := by omega
  rcases hk4 with rfl | rfl | rfl | rfl
  · go_enter Try.func76, Try.ntmps76
    go_wp2
    go_ret
    exact ⟨rfl, (Below.refl _ _).alloc (Nat.le_refl _) _⟩
  · cases xp
    · go_enter Try.func76, Try.ntmps76
      go_wp2
      go_ret
      exact ⟨rfl, (Below.refl _ _).alloc (Nat.le_refl _) _⟩
    · go_enter Try.func76, Try.ntmps76
      go_wp2
      go_ret
      exact ⟨rfl, (Below.refl _ _).alloc (Nat.le_refl _) _⟩
  · go_enter Try.func76, Try.ntmps76
    go_wp2
    go_ret
    exact ⟨rfl, (Below.refl _ _).alloc (Nat.le_refl _) _⟩
  · cases xp
    · go_enter Try.func76, Try.ntmps76
      go_wp2
      go_ret
      exact ⟨rfl, (Below.refl _ _).alloc (Nat.le_refl _) _⟩
    · go_enter Try.func76, Try.ntmps76
      go_wp2
      go_ret
      exact ⟨rfl, (Below.refl _ _).alloc (Nat.le_refl _) _⟩

set_option maxHeartbeats 1000000 in
set_option maxRecDepth 100000 in
theorem arcs_any (x : Cr) (w : World) :
    Calls Try.prog 75 #[.agg #[.int .i64 x.a, .int .i64 x.b, .int .i64 x.c, .int .i64 x.d, .bool x.plus]] w fun e w' => e = .returned (.agg #[.int .i64 x.a, .int .i64 x.b, .int .i64 x.c, .int .i64 x.d]) ∧ Below w.heap.size w w' := by
  go_enter Try.func75, Try.ntmps75
  go_wp2
  exact bodyPost_ret (v := .agg #[.int .i64 x.a, .int .i64 x.b, .int .i64 x.c, .int .i64 x.d]) (by simp [results, Try.results75, go_sem]) rfl ⟨rfl, below2 _ _ _⟩
end Go.Proofs.Ytagaajlbkfkaiaa
