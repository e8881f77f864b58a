/- A crossing is stored whole into a row. -/
import Derived.Test.YtfceigcjonlhkaaK1
namespace Go.Proofs.Ytfceigcjonlhkaa
open Go.RowKit

theorem cells_setR (C : List Cr) (i : Nat) (hi : i < C.length) (r : Nat) (hr : r < 5) (v : Value) (x : Cr) (hx : (crossCells [C.getD i Cr.none]).set r v = crossCells [x]) : (crossCells C).set (i * 5 + r) v = crossCells (C.set i x) := by
  induction C generalizing i with
  | nil => simp at hi
  | cons t l ih =>
    have e : ∀ y : Cr, ∀ m : List Cr, crossCells (y :: m) = crossCells [y] ++ crossCells m := fun y m => by simp [crossCells]
    have el : (crossCells [t]).length = 5 := by simp [crossCells]
    cases i with
    | zero =>
      rw [List.set_cons_zero, e t l, e x l, Nat.zero_mul, Nat.zero_add, List.set_append_left _ _ (by rw [el]; exact hr)]
      rw [show (t :: l).getD 0 Cr.none = t from rfl] at hx
      rw [hx]
    | succ i =>
      rw [List.set_cons_succ, e t l, e t (l.set i x), List.set_append_right _ _ (by rw [el]; omega), el, show (i + 1) * 5 + r - 5 = i * 5 + r by omega]
      rw [ih i (by simpa using hi) (by simpa using hx)]
theorem crs_set_atR (Cs : List Cr) (c : Nat) (y : Cr) (hc : c < Cs.length) : (Cs.set c y).getD c Cr.none = y := by
  rw [List.getD_eq_getElem?_getD, List.getElem?_set_self hc, Option.getD_some]
theorem put5R {w : World} {B n g cap c : Nat} {Cs : List Cr} (h : w.ownsRow B 101 5 (.slice (some ⟨g, 0, none⟩) n cap) n (crossCells Cs)) (hc : c < Cs.length) (y : Cr) :
    (((((w.setCell ⟨g, c * 5, none⟩ (.int .i64 y.a)).setCell ⟨g, c * 5 + 1, none⟩ (.int .i64 y.b)).setCell ⟨g, c * 5 + 2, none⟩ (.int .i64 y.c)).setCell ⟨g, c * 5 + 3, none⟩ (.int .i64 y.d)).setCell ⟨g, c * 5 + 4, none⟩ (.bool y.plus)).ownsRow B 101 5 (.slice (some ⟨g, 0, none⟩) n cap) n (crossCells (Cs.set c y)) ∧
    w.grownBy (((((w.setCell ⟨g, c * 5, none⟩ (.int .i64 y.a)).setCell ⟨g, c * 5 + 1, none⟩ (.int .i64 y.b)).setCell ⟨g, c * 5 + 2, none⟩ (.int .i64 y.c)).setCell ⟨g, c * 5 + 3, none⟩ (.int .i64 y.d)).setCell ⟨g, c * 5 + 4, none⟩ (.bool y.plus)) (some g) := by
  obtain ⟨x, hx⟩ : ∃ x, Cs.getD c Cr.none = x := ⟨_, rfl⟩
  have h0 := h.stored (c * 5) (.int .i64 y.a)
  have e0 := cells_setR Cs c hc 0 (by omega) (.int .i64 y.a) ⟨y.a, x.b, x.c, x.d, x.plus⟩ (by rw [hx]; rfl)
  rw [Nat.add_zero] at e0
  rw [e0] at h0
  have h1 := h0.1.stored (c * 5 + 1) (.int .i64 y.b)
  rw [cells_setR _ c (by simpa using hc) 1 (by omega) (.int .i64 y.b) ⟨y.a, y.b, x.c, x.d, x.plus⟩ (by rw [crs_set_atR _ _ _ hc]; rfl), List.set_set] at h1
  have h2 := h1.1.stored (c * 5 + 2) (.int .i64 y.c)
  rw [cells_setR _ c (by simpa using hc) 2 (by omega) (.int .i64 y.c) ⟨y.a, y.b, y.c, x.d, x.plus⟩ (by rw [crs_set_atR _ _ _ hc]; rfl), List.set_set] at h2
  have h3 := h2.1.stored (c * 5 + 3) (.int .i64 y.d)
  rw [cells_setR _ c (by simpa using hc) 3 (by omega) (.int .i64 y.d) ⟨y.a, y.b, y.c, y.d, x.plus⟩ (by rw [crs_set_atR _ _ _ hc]; rfl), List.set_set] at h3
  have h4 := h3.1.stored (c * 5 + 4) (.bool y.plus)
  rw [cells_setR _ c (by simpa using hc) 4 (by omega) (.bool y.plus) y (by rw [crs_set_atR _ _ _ hc]; rfl), List.set_set] at h4
  exact ⟨h4.1, grown_trans (grown_trans (grown_trans (grown_trans h0.2 h1.2) h2.2) h3.2) h4.2⟩
/-- A crossing is laid whole. -/
def st5R (w : World) (g c : Nat) (y : Cr) : World := ((((w.setCell ⟨g, c * 5, none⟩ (.int .i64 y.a)).setCell ⟨g, c * 5 + 1, none⟩ (.int .i64 y.b)).setCell ⟨g, c * 5 + 2, none⟩ (.int .i64 y.c)).setCell ⟨g, c * 5 + 3, none⟩ (.int .i64 y.d)).setCell ⟨g, c * 5 + 4, none⟩ (.bool y.plus)
theorem far5R {W : World} {G g o : Nat} {v : Value} (h : G ≠ g) (h0 : W.cell? ⟨G, o, none⟩ = some v) (c : Nat) (y : Cr) : (st5R W g c y).cell? ⟨G, o, none⟩ = some v := by
  have e : ∀ (W' : World) (i : Nat) (u : Value), (W'.setCell ⟨g, i, none⟩ u).cell? ⟨G, o, none⟩ = W'.cell? ⟨G, o, none⟩ := fun W' i u => World.cell?_setCell_far _ _ _ _ (fun e => h e.symm)
  unfold st5R
  rw [e, e, e, e, e]
  exact h0
theorem drew_cellR (W : World) (a : Addr) : W.drew.cell? a = W.cell? a := rfl
end Go.Proofs.Ytfceigcjonlhkaa
