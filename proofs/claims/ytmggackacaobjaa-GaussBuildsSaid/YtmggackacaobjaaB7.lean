/- What is laid of arcs keeps signs; a crossing is stored back whole. -/
import Derived.Test.YtmggackacaobjaaB6
import Derived.Test.YtmggackacaobjaaS2
namespace Go.Proofs.Ytmggackacaobjaa
open Go.RowKit

theorem wrap64_twice (n : Int) : wrap64 (wrap64 n) = wrap64 n := by unfold wrap64; omega
theorem wrap64_one (n : Int) : wrap64 (wrap64 n + 1) = wrap64 (n + 1) := by unfold wrap64; omega
theorem bAll_wrap (P : List Bool) (L : List Vi) (j : Nat) : wrap64 (bAll P L j).2 = (bAll P L j).2 := by
  cases j with
  | zero => exact IntWalk.wrap64_in 1 (by omega)
  | succ j => exact wrap64_twice _
theorem bRow_plus (first : Int) (V : Vi) (Cs : List Cr) (k c : Nat) : ((bRow first V Cs k).getD c Cr.none).plus = (Cs.getD c Cr.none).plus := by
  induction k with
  | zero => rfl
  | succ k ih =>
    rw [bRow, ← ih]
    generalize bRow first V Cs k = D
    generalize (V.getD k (0, false)).1.toNat = i
    by_cases e : i = c
    · subst e
      by_cases h : i < D.length
      · rw [List.getD_eq_getElem?_getD, List.getElem?_set_self h, Option.getD_some, passC_plus]
      · rw [List.set_eq_of_length_le (by omega)]
    · rw [List.getD_eq_getElem?_getD, List.getElem?_set_ne e, ← List.getD_eq_getElem?_getD]
theorem bAll_plus (P : List Bool) (L : List Vi) (j c : Nat) (h : c < P.length) : ((bAll P L j).1.getD c Cr.none).plus = P.getD c false := by
  induction j with
  | zero =>
    show ((signC P P.length).getD c Cr.none).plus = _
    rw [signC_at P _ _ h, if_pos h]
  | succ j ih => rw [bAll, bRow_plus, ih]
theorem crs_set_at (Cs : List Cr) (c : Nat) (y : Cr) (hc : c < Cs.length) : (Cs.set c y).getD c Cr.none = y := by
  rw [List.getD_eq_getElem?_getD, List.getElem?_set_self hc, Option.getD_some]
theorem put5 {w : World} {B n g cap c : Nat} {Cs : List Cr} (h : w.ownsRow B 64 5 (.slice (some ⟨g, 0, none⟩) n cap) n (crossCells Cs)) (hc : c < Cs.length) (y : Cr) :
    (((((w.setCell ⟨g, c * 5, none⟩ (.int .i64 y.a)).setCell ⟨g, c * 5 + 1, none⟩ (.int .i64 y.b)).setCell ⟨g, c * 5 + 2, none⟩ (.int .i64 y.c)).setCell ⟨g, c * 5 + 3, none⟩ (.int .i64 y.d)).setCell ⟨g, c * 5 + 4, none⟩ (.bool y.plus)).ownsRow B 64 5 (.slice (some ⟨g, 0, none⟩) n cap) n (crossCells (Cs.set c y)) ∧
    w.grownBy (((((w.setCell ⟨g, c * 5, none⟩ (.int .i64 y.a)).setCell ⟨g, c * 5 + 1, none⟩ (.int .i64 y.b)).setCell ⟨g, c * 5 + 2, none⟩ (.int .i64 y.c)).setCell ⟨g, c * 5 + 3, none⟩ (.int .i64 y.d)).setCell ⟨g, c * 5 + 4, none⟩ (.bool y.plus)) (some g) := by
  obtain ⟨x, hx⟩ : ∃ x, Cs.getD c Cr.none = x := ⟨_, rfl⟩
  have h0 := h.stored (c * 5) (.int .i64 y.a)
  have e0 := cells_set Cs c hc 0 (by omega) (.int .i64 y.a) ⟨y.a, x.b, x.c, x.d, x.plus⟩ (by rw [hx]; rfl)
  rw [Nat.add_zero] at e0
  rw [e0] at h0
  have h1 := h0.1.stored (c * 5 + 1) (.int .i64 y.b)
  rw [cells_set _ c (by simpa using hc) 1 (by omega) (.int .i64 y.b) ⟨y.a, y.b, x.c, x.d, x.plus⟩ (by rw [crs_set_at _ _ _ hc]; rfl), List.set_set] at h1
  have h2 := h1.1.stored (c * 5 + 2) (.int .i64 y.c)
  rw [cells_set _ c (by simpa using hc) 2 (by omega) (.int .i64 y.c) ⟨y.a, y.b, y.c, x.d, x.plus⟩ (by rw [crs_set_at _ _ _ hc]; rfl), List.set_set] at h2
  have h3 := h2.1.stored (c * 5 + 3) (.int .i64 y.d)
  rw [cells_set _ c (by simpa using hc) 3 (by omega) (.int .i64 y.d) ⟨y.a, y.b, y.c, y.d, x.plus⟩ (by rw [crs_set_at _ _ _ hc]; rfl), List.set_set] at h3
  have h4 := h3.1.stored (c * 5 + 4) (.bool y.plus)
  rw [cells_set _ c (by simpa using hc) 4 (by omega) (.bool y.plus) y (by rw [crs_set_at _ _ _ hc]; rfl), List.set_set] at h4
  exact ⟨h4.1, grown_trans (grown_trans (grown_trans (grown_trans h0.2 h1.2) h2.2) h3.2) h4.2⟩
/-- A crossing is laid whole. -/
def st5 (w : World) (g c : Nat) (y : Cr) : World := ((((w.setCell ⟨g, c * 5, none⟩ (.int .i64 y.a)).setCell ⟨g, c * 5 + 1, none⟩ (.int .i64 y.b)).setCell ⟨g, c * 5 + 2, none⟩ (.int .i64 y.c)).setCell ⟨g, c * 5 + 3, none⟩ (.int .i64 y.d)).setCell ⟨g, c * 5 + 4, none⟩ (.bool y.plus)
theorem out_put {W w : World} {B G g q cap c : Nat} {ol : Int} {Cs : List Cr} {p : Obj} (h : OutAt W B G (.slice (some ⟨g, 0, none⟩) q cap) ol Cs) (hG : G < B) (hc : c < Cs.length) (hl : Cs.length = q) (y : Cr) (o : Obj) (htb : W.heap[w.heap.size]? = some p) (hb : Below w.heap.size w W) (hw : w.heap.size < B) (hB : B ≤ W.heap.size) :
    OutAt ((st5 W g c y).alloc o) B G (.slice (some ⟨g, 0, none⟩) q cap) ol (Cs.set c y) ∧ ((st5 W g c y).alloc o).heap[w.heap.size]? = some p ∧ Below w.heap.size w ((st5 W g c y).alloc o) ∧ B ≤ ((st5 W g c y).alloc o).heap.size := by
  have hrow := h.row
  rw [hl] at hrow
  have h5 : (st5 W g c y).ownsRow B 64 5 (.slice (some ⟨g, 0, none⟩) q cap) q (crossCells (Cs.set c y)) ∧ W.grownBy (st5 W g c y) (some g) := put5 hrow hc y
  have hg := (hrow.lt g rfl).1
  have hs := h5.2.size
  refine ⟨⟨alloc_old ((h5.2.block _ (Array.getElem?_eq_some_iff.1 h.box).1 (fun e => by have : G = g := Option.some.inj e; omega)).trans h.box), ?_⟩, alloc_old ((h5.2.block _ (by omega) (fun e => by have : w.heap.size = g := Option.some.inj e; omega)).trans htb), ?_, ?_⟩
  · rw [List.length_set, hl]
    exact h5.1.alloc o
  · exact (hb.grown h5.2 hb.size (fun k hk => by have : g = k := Option.some.inj hk; omega)).alloc (Nat.le_trans hb.size hs) o
  · rw [World.size_alloc]; omega
end Go.Proofs.Ytmggackacaobjaa
