/- The walk of gauss.pass. -/
import Derived.Test.YtmggackacaobjaaB2
import Derived.Test.YtmggackacaobjaaK1
namespace Go.Proofs.Ytmggackacaobjaa
open Go.RowKit

theorem cells_set (C : List Cr) (i : Nat) (hi : i < C.length) (r : Nat) (hr : r < 5) (v : Value) (x : Cr) (hx : (crossCells [C.getD i Cr.none]).set r v = crossCells [x]) : (crossCells C).set (i * 5 + r) v = crossCells (C.set i x) := by
  induction C generalizing i with
  | nil => simp at hi
  | cons t l ih =>
    have e : ∀ y : Cr, ∀ m : List Cr, crossCells (y :: m) = crossCells [y] ++ crossCells m := fun y m => by simp [crossCells]
    have el : (crossCells [t]).length = 5 := by simp [crossCells]
    cases i with
    | zero =>
      rw [List.set_cons_zero, e t l, e x l, Nat.zero_mul, Nat.zero_add, List.set_append_left _ _ (by rw [el]; exact hr)]
      rw [show (t :: l).getD 0 Cr.none = t from rfl] at hx
      rw [hx]
    | succ i =>
      rw [List.set_cons_succ, e t l, e t (l.set i x), List.set_append_right _ _ (by rw [el]; omega), el, show (i + 1) * 5 + r - 5 = i * 5 + r by omega]
      rw [ih i (by simpa using hi) (by simpa using hx)]
theorem set_getD (C : List Cr) (i : Nat) (x : Cr) (h : i < C.length) : (C.set i x).getD i Cr.none = x := by
  simp [List.getD_eq_getElem?_getD, h]
/-- A crossing that is passed. -/
def passC (x : Cr) (over : Bool) (fr to : Int) : Cr :=
  if over = false then { x with a := fr, c := to } else if x.plus = true then { x with d := fr, b := to } else { x with b := fr, d := to }
theorem passC_plus (x : Cr) (over : Bool) (fr to : Int) : (passC x over fr to).plus = x.plus := by
  unfold passC
  split
  · rfl
  · split <;> rfl

set_option maxHeartbeats 4000000 in
set_option maxRecDepth 100000 in
theorem pass_any (g n cg B : Nat) (Cs : List Cr) (c : Nat) (over : Bool) (fr to : Int) (w : World) (hn : n = Cs.length) (hc : c < Cs.length) (hrow : w.ownsRow B 64 5 (.slice (some ⟨g, 0, none⟩) n cg) n (crossCells Cs)) :
    Calls Try.prog 119 #[.pointer (some ⟨g, c * 5, none⟩), .bool over, .int .i64 fr, .int .i64 to] w fun e w' => e = .returned (.tuple #[]) ∧ w'.ownsRow B 64 5 (.slice (some ⟨g, 0, none⟩) n cg) n (crossCells (Cs.set c (passC (Cs.getD c Cr.none) over fr to))) ∧ w.grownBy w' (some g) := by
  have HR : Hid (w.ownsRow B 64 5 (.slice (some ⟨g, 0, none⟩) n cg) n (crossCells Cs)) := hrow
  obtain ⟨q0, q1, q2, q3, q4⟩ := cells_get Cs c hc
  have hgl := (hrow.lt g rfl).2
  have c0 := hrow.cellAt (c * 5) (by omega)
  have c1 := hrow.cellAt (c * 5 + 1) (by omega)
  have c2 := hrow.cellAt (c * 5 + 2) (by omega)
  have c3 := hrow.cellAt (c * 5 + 3) (by omega)
  have c4 := hrow.cellAt (c * 5 + 4) (by omega)
  rw [q0] at c0
  rw [q1] at c1
  rw [q2] at c2
  rw [q3] at c3
  rw [q4] at c4
  have z0 := hrow.frozenAt (c * 5)
  have z1 := hrow.frozenAt (c * 5 + 1)
  have z2 := hrow.frozenAt (c * 5 + 2)
  have z3 := hrow.frozenAt (c * 5 + 3)
  obtain ⟨x, hx⟩ : ∃ x, Cs.getD c Cr.none = x := ⟨_, rfl⟩
  have HX : Hid (Cs.getD c Cr.none = x) := hx
  rw [hx] at c0 c1 c2 c3 c4
  rw [hx]
  obtain ⟨xa, xb, xc, xd, xp⟩ := x
  simp only at c0 c1 c2 c3 c4
  clear hrow q0 q1 q2 q3 q4 hx
  cases over with
  | false =>
    go_enter Try.func119, Try.ntmps119
    go_wp2
    refine bodyPost_end (v := .tuple #[]) (results_none rfl _ _ _) rfl ?_
    have hs1 := HR.out.stored (c * 5) (.int .i64 fr)
    rw [show c * 5 = c * 5 + 0 from rfl, cells_set Cs c hc 0 (by omega) (.int .i64 fr) ⟨fr, xb, xc, xd, xp⟩ (by rw [HX.out]; rfl)] at hs1
    have hs2 := hs1.1.stored (c * 5 + 2) (.int .i64 to)
    rw [cells_set (Cs.set c ⟨fr, xb, xc, xd, xp⟩) c (by simpa using hc) 2 (by omega) (.int .i64 to) ⟨fr, xb, to, xd, xp⟩ (by rw [set_getD Cs c _ hc]; rfl), List.set_set] at hs2
    exact ⟨rfl, hs2.1, grown_trans hs1.2 hs2.2⟩
  | true =>
    cases xp with
    | true =>
      go_enter Try.func119, Try.ntmps119
      go_wp2
      refine bodyPost_end (v := .tuple #[]) (results_none rfl _ _ _) rfl ?_
      have hs1 := HR.out.stored (c * 5 + 3) (.int .i64 fr)
      rw [cells_set Cs c hc 3 (by omega) (.int .i64 fr) ⟨xa, xb, xc, fr, true⟩ (by rw [HX.out]; rfl)] at hs1
      have hs2 := hs1.1.stored (c * 5 + 1) (.int .i64 to)
      rw [cells_set (Cs.set c ⟨xa, xb, xc, fr, true⟩) c (by simpa using hc) 1 (by omega) (.int .i64 to) ⟨xa, to, xc, fr, true⟩ (by rw [set_getD Cs c _ hc]; rfl), List.set_set] at hs2
      exact ⟨rfl, hs2.1, grown_trans hs1.2 hs2.2⟩
    | false =>
      go_enter Try.func119, Try.ntmps119
      go_wp2
      refine bodyPost_end (v := .tuple #[]) (results_none rfl _ _ _) rfl ?_
      have hs1 := HR.out.stored (c * 5 + 1) (.int .i64 fr)
      rw [cells_set Cs c hc 1 (by omega) (.int .i64 fr) ⟨xa, fr, xc, xd, false⟩ (by rw [HX.out]; rfl)] at hs1
      have hs2 := hs1.1.stored (c * 5 + 3) (.int .i64 to)
      rw [cells_set (Cs.set c ⟨xa, fr, xc, xd, false⟩) c (by simpa using hc) 3 (by omega) (.int .i64 to) ⟨xa, fr, xc, to, false⟩ (by rw [set_getD Cs c _ hc]; rfl), List.set_set] at hs2
      exact ⟨rfl, hs2.1, grown_trans hs1.2 hs2.2⟩
end Go.Proofs.Ytmggackacaobjaa
