/- Helps for the walk of drawing.Of: stores of four and of two cells; the state of its loops. -/
import Derived.Test.YtdlmhcickcgnfaaH6
import Derived.Test.YtdlmhcickcgnfaaEnds
namespace Go.Proofs.Ytdlmhcickcgnfaa
open Go.RowKit

theorem set_block {w : World} {g i : Nat} {cs : Array Value} {t : TypeId} {fz : Nat × Nat} {u : Value} (h : w.heap[g]? = some (.cells cs t fz)) : (w.setCell ⟨g, i, none⟩ u).heap[g]? = some (.cells (cs.setIfInBounds i u) t fz) := by
  simp only [World.setCell, Array.getElem?_modify, if_true, h]
  rfl
theorem set_grown (w : World) (g i : Nat) (u : Value) : w.grownBy (w.setCell ⟨g, i, none⟩ u) (some g) :=
  ⟨rfl, rfl, rfl, by simp, fun k _ hk => heap_setCell_other w ⟨g, i, none⟩ k u (fun e => hk (by simp [e]))⟩
theorem grown_trans {a b c : World} {row : Option Nat} (h : a.grownBy b row) (k : b.grownBy c row) : a.grownBy c row :=
  ⟨k.os.trans h.os, k.tape.trans h.tape, k.output.trans h.output, Nat.le_trans h.size k.size, fun j hj hn => (k.block j (Nat.lt_of_lt_of_le hj h.size) hn).trans (h.block j hj hn)⟩
/-- The world behind a store of four cells. -/
def st4 (w : World) (g : Nat) (a b c d : Value) : World := (((w.setCell ⟨g, 0, none⟩ a).setCell ⟨g, 1, none⟩ b).setCell ⟨g, 2, none⟩ c).setCell ⟨g, 3, none⟩ d
theorem st4_grown (w : World) (g : Nat) (a b c d : Value) : w.grownBy (st4 w g a b c d) (some g) :=
  grown_trans (grown_trans (grown_trans (set_grown _ _ _ _) (set_grown _ _ _ _)) (set_grown _ _ _ _)) (set_grown _ _ _ _)
theorem st4_block {w : World} {g : Nat} {t : TypeId} {a0 b0 c0 d0 a b c d : Value} (h : w.heap[g]? = some (.cells #[a0, b0, c0, d0] t (0, 0))) : (st4 w g a b c d).heap[g]? = some (.cells #[a, b, c, d] t (0, 0)) := by
  unfold st4
  rw [set_block (set_block (set_block (set_block h)))]
  rfl
theorem st4_cell {w : World} {g h o : Nat} {v a b c d : Value} (hne : h ≠ g) (hc : w.cell? ⟨h, o, none⟩ = some v) : ((((w.setCell ⟨g, 0, none⟩ a).setCell ⟨g, 1, none⟩ b).setCell ⟨g, 2, none⟩ c).setCell ⟨g, 3, none⟩ d).cell? ⟨h, o, none⟩ = some v :=
  (st4_grown w g a b c d).cell (a := ⟨h, o, none⟩) hc (fun e => hne (Option.some.inj e))
theorem block_cell {w : World} {g i : Nat} {cs : Array Value} {t : TypeId} {fz : Nat × Nat} {v : Value} (h : w.heap[g]? = some (.cells cs t fz)) (hv : cs[i]? = some v) : w.cell? ⟨g, i, none⟩ = some v := by
  unfold World.cell?
  rw [h]
  simpa using hv
theorem block_frozen {w : World} {g i : Nat} {cs : Array Value} {t : TypeId} (h : w.heap[g]? = some (.cells cs t (0, 0))) : w.frozen? ⟨g, i, none⟩ = false := by simp [World.frozen?, h]
/-- A row that is not empty has a block. -/
theorem own_block {w : World} {B e s n : Nat} {v : Value} {xs : List Value} (h : w.ownsRow B e s v n xs) (hn : 0 < n) : ∃ g c, v = .slice (some ⟨g, 0, none⟩) n c ∧ B ≤ g ∧ g < w.heap.size := by
  rcases h.2 with ⟨_, h0⟩ | ⟨g, cap, cur, rfl, hb, hg, _⟩
  · omega
  · exact ⟨g, cap, rfl, (h.lt g rfl).1, (h.lt g rfl).2⟩

theorem flat_set2 (l : List (Int × Int)) (a : Nat) (i k : Int) (ha : a < l.length) : ((flat l).set (a * 2) (.int .i64 i)).set (a * 2 + 1) (.int .i64 k) = flat (l.set a (i, k)) := by
  rw [flat_setE _ _ _ ha, flat_setC _ _ _ (by rw [setE_length]; exact ha)]
  congr 1
  unfold setC setE
  rw [List.set_set]
  congr 1
  simp [List.getD, ha]
/-- The world behind a store of two cells. -/
def st2 (w : World) (g o : Nat) (a b : Value) : World := (w.setCell ⟨g, o, none⟩ a).setCell ⟨g, o + 1, none⟩ b
theorem st2_grown (w : World) (g o : Nat) (a b : Value) : w.grownBy (st2 w g o a b) (some g) := grown_trans (set_grown _ _ _ _) (set_grown _ _ _ _)
theorem own_st2 {w : World} {B e n g cap a : Nat} {l : List (Int × Int)} {i k : Int} (h : w.ownsRow B e 2 (.slice (some ⟨g, 0, none⟩) n cap) n (flat l)) (ha : a < l.length) : (st2 w g (a * 2) (.int .i64 i) (.int .i64 k)).ownsRow B e 2 (.slice (some ⟨g, 0, none⟩) n cap) n (flat (l.set a (i, k))) := by
  have h1 := (h.stored (a * 2) (.int .i64 i)).1
  have h2 := (h1.stored (a * 2 + 1) (.int .i64 k)).1
  rw [flat_set2 l a i k ha] at h2
  exact h2
end Go.Proofs.Ytdlmhcickcgnfaa
