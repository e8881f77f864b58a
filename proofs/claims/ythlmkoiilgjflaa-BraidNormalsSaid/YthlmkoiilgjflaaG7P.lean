/- Several texts of the proof, one behind the other. -/
import Derived.Test.YthlmkoiilgjflaaH6P
import Derived.Test.YthlmkoiilgjflaaEnds
import Derived.Test.YthlmkoiilgjflaaGA0
/- Helps for the walk of drawing.Of: stores of four and of two cells; the state of its loops. -/
namespace Go.Proofs.Ythlmkoiilgjflaa
open Go.RowKit

theorem set_block {w : World} {g i : Nat} {cs : Array Value} {t : TypeId} {fz : Nat × Nat} {u : Value} (h : w.heap[g]? = some (.cells cs t fz)) : (w.setCell ⟨g, i, none⟩ u).heap[g]? = some (.cells (cs.setIfInBounds i u) t fz) := by
  simp only [World.setCell, Array.getElem?_modify, if_true, h]
  rfl
theorem set_grown (w : World) (g i : Nat) (u : Value) : w.grownBy (w.setCell ⟨g, i, none⟩ u) (some g) :=
  ⟨rfl, rfl, rfl, by simp, fun k _ hk => heap_setCell_other w ⟨g, i, none⟩ k u (fun e => hk (by simp [e]))⟩
theorem grown_trans {a b c : World} {row : Option Nat} (h : a.grownBy b row) (k : b.grownBy c row) : a.grownBy c row :=
  ⟨k.os.trans h.os, k.tape.trans h.tape, k.output.trans h.output, Nat.le_trans h.size k.size, fun j hj hn => (k.block j (Nat.lt_of_lt_of_le hj h.size) hn).trans (h.block j hj hn)⟩
/-- The world behind a store of four cells. -/
def st4 (w : World) (g : Nat) (a b c d : Value) : World := (((w.setCell ⟨g, 0, none⟩ a).setCell ⟨g, 1, none⟩ b).setCell ⟨g, 2, none⟩ c).setCell ⟨g, 3, none⟩ d
theorem st4_grown (w : World) (g : Nat) (a b c d : Value) : w.grownBy (st4 w g a b c d) (some g) :=
  grown_trans (grown_trans (grown_trans (set_grown _ _ _ _) (set_grown _ _ _ _)) (set_grown _ _ _ _)) (set_grown _ _ _ _)
theorem st4_block {w : World} {g : Nat} {t : TypeId} {a0 b0 c0 d0 a b c d : Value} (h : w.heap[g]? = some (.cells #[a0, b0, c0, d0] t (0, 0))) : (st4 w g a b c d).heap[g]? = some (.cells #[a, b, c, d] t (0, 0)) := by
  unfold st4
  rw [set_block (set_block (set_block (set_block h)))]
  rfl
theorem st4_cell {w : World} {g h o : Nat} {v a b c d : Value} (hne : h ≠ g) (hc : w.cell? ⟨h, o, none⟩ = some v) : ((((w.setCell ⟨g, 0, none⟩ a).setCell ⟨g, 1, none⟩ b).setCell ⟨g, 2, none⟩ c).setCell ⟨g, 3, none⟩ d).cell? ⟨h, o, none⟩ = some v :=
  (st4_grown w g a b c d).cell (a := ⟨h, o, none⟩) hc (fun e => hne (Option.some.inj e))
theorem block_cell {w : World} {g i : Nat} {cs : Array Value} {t : TypeId} {fz : Nat × Nat} {v : Value} (h : w.heap[g]? = some (.cells cs t fz)) (hv : cs[i]? = some v) : w.cell? ⟨g, i, none⟩ = some v := by
  unfold World.cell?
  rw [h]
  simpa using hv
theorem block_frozen {w : World} {g i : Nat} {cs : Array Value} {t : TypeId} (h : w.heap[g]? = some (.cells cs t (0, 0))) : w.frozen? ⟨g, i, none⟩ = false := by simp [World.frozen?, h]
/-- A row that is not empty has a block. -/
theorem own_block {w : World} {B e s n : Nat} {v : Value} {xs : List Value} (h : w.ownsRow B e s v n xs) (hn : 0 < n) : ∃ g c, v = .slice (some ⟨g, 0, none⟩) n c ∧ B ≤ g ∧ g < w.heap.size := by
  rcases h.2 with ⟨_, h0⟩ | ⟨g, cap, cur, rfl, hb, hg, _⟩
  · omega
  · exact ⟨g, cap, rfl, (h.lt g rfl).1, (h.lt g rfl).2⟩

theorem flat_set2 (l : List (Int × Int)) (a : Nat) (i k : Int) (ha : a < l.length) : ((flat l).set (a * 2) (.int .i64 i)).set (a * 2 + 1) (.int .i64 k) = flat (l.set a (i, k)) := by
  rw [flat_setE _ _ _ ha, flat_setC _ _ _ (by rw [setE_length]; exact ha)]
  congr 1
  unfold setC setE
  rw [List.set_set]
  congr 1
  simp [List.getD, ha]
/-- The world behind a store of two cells. -/
def st2 (w : World) (g o : Nat) (a b : Value) : World := (w.setCell ⟨g, o, none⟩ a).setCell ⟨g, o + 1, none⟩ b
theorem st2_grown (w : World) (g o : Nat) (a b : Value) : w.grownBy (st2 w g o a b) (some g) := grown_trans (set_grown _ _ _ _) (set_grown _ _ _ _)
theorem own_st2 {w : World} {B e n g cap a : Nat} {l : List (Int × Int)} {i k : Int} (h : w.ownsRow B e 2 (.slice (some ⟨g, 0, none⟩) n cap) n (flat l)) (ha : a < l.length) : (st2 w g (a * 2) (.int .i64 i) (.int .i64 k)).ownsRow B e 2 (.slice (some ⟨g, 0, none⟩) n cap) n (flat (l.set a (i, k))) := by
  have h1 := (h.stored (a * 2) (.int .i64 i)).1
  have h2 := (h1.stored (a * 2 + 1) (.int .i64 k)).1
  rw [flat_set2 l a i k ha] at h2
  exact h2
end Go.Proofs.Ythlmkoiilgjflaa
/- BraidNormals: how long texts may grow behind permutation braids: the reckoning. -/
namespace Go.Proofs.Ythlmkoiilgjflaa

/-- The greatest length and the sum of six lengths, behind one permutation braid more. -/
def grw (p : Nat × Nat) : Nat × Nat := (2 * p.2, 2 * (min p.1 p.2 + min (2 * p.1) p.2 + min (3 * p.1) p.2 + min (4 * p.1) p.2 + min (5 * p.1) p.2) + p.2)
def grws (p : Nat × Nat) : Nat → Nat × Nat
  | 0 => p
  | k + 1 => grw (grws p k)
/-- Six lengths, each at most M, at most S together. -/
structure Lens (p : Nat × Nat) (a0 a1 a2 a3 a4 a5 : Nat) : Prop where
  each : a0 ≤ p.1 ∧ a1 ≤ p.1 ∧ a2 ≤ p.1 ∧ a3 ≤ p.1 ∧ a4 ≤ p.1 ∧ a5 ≤ p.1
  all : a0 + a1 + a2 + a3 + a4 + a5 ≤ p.2
/-- Each text is conjugated by those to its left at most. -/
theorem Lens.left {p : Nat × Nat} {a0 a1 a2 a3 a4 a5 b0 b1 b2 b3 b4 b5 : Nat} (h : Lens p a0 a1 a2 a3 a4 a5) (h0 : b0 ≤ a0) (h1 : b1 ≤ a1 + 2 * a0) (h2 : b2 ≤ a2 + 2 * (a0 + a1)) (h3 : b3 ≤ a3 + 2 * (a0 + a1 + a2)) (h4 : b4 ≤ a4 + 2 * (a0 + a1 + a2 + a3)) (h5 : b5 ≤ a5 + 2 * (a0 + a1 + a2 + a3 + a4)) : Lens (grw p) b0 b1 b2 b3 b4 b5 := by
  obtain ⟨⟨e0, e1, e2, e3, e4, e5⟩, s⟩ := h
  obtain ⟨M, S⟩ := p
  simp only at e0 e1 e2 e3 e4 e5 s
  refine ⟨?_, ?_⟩
  · simp only [grw]; omega
  · simp only [grw]
    have k1 : a0 ≤ min M S := by omega
    have k2 : a0 + a1 ≤ min (2 * M) S := by omega
    have k3 : a0 + a1 + a2 ≤ min (3 * M) S := by omega
    have k4 : a0 + a1 + a2 + a3 ≤ min (4 * M) S := by omega
    have k5 : a0 + a1 + a2 + a3 + a4 ≤ min (5 * M) S := by omega
    generalize min M S = m1 at k1 ⊢
    generalize min (2 * M) S = m2 at k2 ⊢
    generalize min (3 * M) S = m3 at k3 ⊢
    generalize min (4 * M) S = m4 at k4 ⊢
    generalize min (5 * M) S = m5 at k5 ⊢
    omega
/-- Each by those to its right. -/
theorem Lens.right {p : Nat × Nat} {a0 a1 a2 a3 a4 a5 b0 b1 b2 b3 b4 b5 : Nat} (h : Lens p a0 a1 a2 a3 a4 a5) (h5 : b5 ≤ a5) (h4 : b4 ≤ a4 + 2 * a5) (h3 : b3 ≤ a3 + 2 * (a5 + a4)) (h2 : b2 ≤ a2 + 2 * (a5 + a4 + a3)) (h1 : b1 ≤ a1 + 2 * (a5 + a4 + a3 + a2)) (h0 : b0 ≤ a0 + 2 * (a5 + a4 + a3 + a2 + a1)) : Lens (grw p) b0 b1 b2 b3 b4 b5 := by
  have hr : Lens p a5 a4 a3 a2 a1 a0 := by
    obtain ⟨⟨e0, e1, e2, e3, e4, e5⟩, s⟩ := h
    exact ⟨⟨e5, e4, e3, e2, e1, e0⟩, by omega⟩
  have := hr.left h5 h4 h3 h2 h1 h0
  obtain ⟨⟨e0, e1, e2, e3, e4, e5⟩, s⟩ := this
  exact ⟨⟨e5, e4, e3, e2, e1, e0⟩, by omega⟩
/-- More in, more out. -/
theorem grw_mono {p q : Nat × Nat} (h1 : p.1 ≤ q.1) (h2 : p.2 ≤ q.2) : (grw p).1 ≤ (grw q).1 ∧ (grw p).2 ≤ (grw q).2 := by
  obtain ⟨a, b⟩ := p
  obtain ⟨c, d⟩ := q
  simp only [grw] at *
  refine ⟨by omega, ?_⟩
  have k1 : min a b ≤ min c d := by omega
  have k2 : min (2 * a) b ≤ min (2 * c) d := by omega
  have k3 : min (3 * a) b ≤ min (3 * c) d := by omega
  have k4 : min (4 * a) b ≤ min (4 * c) d := by omega
  have k5 : min (5 * a) b ≤ min (5 * c) d := by omega
  omega
/-- Behind at most 14 permutation braids: two texts together, and half turns besides, take less than 2^47 bytes. -/
theorem left_fits : ∀ k, k ≤ 14 → (2 * (grws (1, 6) k).1 + 1000) * 8 ≤ 140737488355328 := by decide +kernel
/-- From the right, 20 letters behind at most six. -/
theorem right_fits : ∀ k, k ≤ 6 → (2 * (grws (54608393, 77227934) k).1 + 1000) * 8 ≤ 140737488355328 := by decide +kernel
/-- The longest behind so many letters (Pell), and all together. -/
def pell : Nat → Nat × Nat
  | 0 => (1, 1)
  | k + 1 => (2 * (pell k).1 + (pell k).2, (pell k).1)
def pellS : Nat → Nat
  | 0 => 6
  | k + 1 => pellS k + 2 * (pell k).1
theorem pell_last : (pell 20).1 = 54608393 ∧ pellS 20 = 77227934 := by decide +kernel
theorem pell_pos (k : Nat) : (pell k).2 ≤ (pell k).1 := by
  cases k with
  | zero => exact Nat.le_refl _
  | succ k => simp only [pell]; omega
/-- Lengths of texts behind k letters: each, any two, all. -/
structure Pl (k : Nat) (L : List Nat) : Prop where
  one : ∀ i, L.getD i 0 ≤ (pell k).1
  two : ∀ i j, i ≠ j → L.getD i 0 + L.getD j 0 ≤ (pell k).1 + (pell k).2
end Go.Proofs.Ythlmkoiilgjflaa
