/- Several texts of the proof, one behind the other. -/
import Derived.Test.YtagaajlbkfkaiaaMV4
import Derived.Test.YtagaajlbkfkaiaaS2P
import Derived.Test.YtagaajlbkfkaiaaW2P
import Derived.Test.YtagaajlbkfkaiaaMV3
/- Moves: the walks of moves.crossed and bench.relaid. -/
namespace Go.Proofs.Ytagaajlbkfkaiaa
open Go.RowKit Go.Maps

theorem may_len {C : List Cr} {loops : Int} (hm : mayD C loops = true) : C.length ≤ 16 := by
  have : sizeB C loops = true := by
    unfold mayD at hm
    exact (Bool.and_eq_true_iff.1 hm).1
  exact (sizeB_iff this).1
theorem hid_of {P : Prop} (h : P) : Hid P := h
/-- The boxes of moves.crossed. -/
structure PsAt (w W : World) (f s p q : Int × Int) (g9 g10 : Nat) : Prop where
  b0 : W.heap[w.heap.size]? = some (.cells #[.int .i64 f.1, .int .i64 f.2] 154 (0, 0))
  b1 : W.heap[w.heap.size + 1]? = some (.cells #[.int .i64 s.1, .int .i64 s.2] 154 (0, 0))
  b2 : W.heap[w.heap.size + 1 + 1]? = some (.cells #[.int .i64 0, .int .i64 0, .int .i64 0, .int .i64 0, .bool false] 71 (0, 0))
  b9 : W.heap[g9]? = some (.cells #[.int .i64 p.1, .int .i64 p.2] 154 (0, 0))
  b10 : W.heap[g10]? = some (.cells #[.int .i64 q.1, .int .i64 q.2] 154 (0, 0))
  ne : g9 ≠ g10
  l9 : w.heap.size + 2 < g9
  l10 : w.heap.size + 2 < g10
  bel : Below w.heap.size w W
theorem PsAt.on {w W W' : World} {f s p q : Int × Int} {g9 g10 : Nat} (h : PsAt w W f s p q g9 g10) (hb : Below W.heap.size W W') : PsAt w W' f s p q g9 g10 :=
  have hl {k : Nat} {o : Obj} (e : W.heap[k]? = some o) : W'.heap[k]? = some o := (hb.block _ (Array.getElem?_eq_some_iff.1 e).1).trans e
  ⟨hl h.b0, hl h.b1, hl h.b2, hl h.b9, hl h.b10, h.ne, h.l9, h.l10, h.bel.trans (hb.mono h.bel.size)⟩
end Go.Proofs.Ytagaajlbkfkaiaa
/- Moves: the walk of bench.curl. Made by genmv6.py. -/
namespace Go.Proofs.Ytagaajlbkfkaiaa
open Go.RowKit Go.Maps

/-- A move, flat. -/
def mvV (k x y ua : Int) (ub : Bool) (va : Int) (vb ov : Bool) : Value := .agg #[.int .i64 k, .int .i64 x, .int .i64 y, .int .i64 ua, .bool ub, .int .i64 va, .bool vb, .bool ov]

end Go.Proofs.Ytagaajlbkfkaiaa
/- The three boxes of a move's own function. -/
namespace Go.Proofs.Ytagaajlbkfkaiaa
open Go.RowKit

/-- A bench, a move and the answer's box. -/
def BmAt (w W : World) (a : Option Addr) (cap : Nat) (C : List Cr) (loops : Int) (gF cF gT cT : Nat) (k x y ua va : Int) (ub vb ov : Bool) : Prop := (W.heap[w.heap.size]? = some (.cells #[.slice a C.length cap, .int .i64 loops, .slice (some ⟨gF, 0, none⟩) (2 * C.length + 1) cF, .slice (some ⟨gT, 0, none⟩) (2 * C.length + 1) cT] 63 (0, 0)) ∧ W.heap[w.heap.size + 1]? = some (.cells #[.int .i64 k, .int .i64 x, .int .i64 y, .int .i64 ua, .bool ub, .int .i64 va, .bool vb, .bool ov] 28 (0, 0)) ∧ W.heap[w.heap.size + 1 + 1]? = some (.cells #[.slice none 0 0, .int .i64 0] 24 (0, 0))) ∧ (w.heap.size < W.heap.size ∧ w.heap.size + 1 < W.heap.size ∧ w.heap.size + 1 + 1 < W.heap.size)
theorem bm_ex (w : World) (a : Option Addr) (cap : Nat) (C : List Cr) (loops : Int) (gF cF gT cT : Nat) (k x y ua va : Int) (ub vb ov : Bool) : ∃ Y, ((w.alloc (.cells #[.slice a C.length cap, .int .i64 loops, .slice (some ⟨gF, 0, none⟩) (2 * C.length + 1) cF, .slice (some ⟨gT, 0, none⟩) (2 * C.length + 1) cT] 63)).alloc (.cells #[.int .i64 k, .int .i64 x, .int .i64 y, .int .i64 ua, .bool ub, .int .i64 va, .bool vb, .bool ov] 28)).alloc (.cells #[.slice none 0 0, .int .i64 0] 24) = Y ∧ Below w.heap.size w Y ∧ BmAt w Y a cap C loops gF cF gT cT k x y ua va ub vb ov ∧ w.heap.size + 3 ≤ Y.heap.size :=
  ⟨_, rfl, below3 _ _ _ _, ⟨⟨alloc_old (alloc_old (alloc_at rfl)), alloc_old (alloc_at (by simp)), alloc_at (by simp)⟩, by simp; omega⟩, by simp⟩
theorem bm_ce {w Y : World} {a : Option Addr} {cap : Nat} {C : List Cr} {loops : Int} {gF cF gT cT : Nat} {k x y ua va : Int} {ub vb ov : Bool} (h : BmAt w Y a cap C loops gF cF gT cT k x y ua va ub vb ov) (W : World) (hW : Below Y.heap.size Y W) : (W.heap[w.heap.size]? = some (.cells #[.slice a C.length cap, .int .i64 loops, .slice (some ⟨gF, 0, none⟩) (2 * C.length + 1) cF, .slice (some ⟨gT, 0, none⟩) (2 * C.length + 1) cT] 63 (0, 0)) ∧ W.heap[w.heap.size + 1]? = some (.cells #[.int .i64 k, .int .i64 x, .int .i64 y, .int .i64 ua, .bool ub, .int .i64 va, .bool vb, .bool ov] 28 (0, 0)) ∧ W.heap[w.heap.size + 1 + 1]? = some (.cells #[.slice none 0 0, .int .i64 0] 24 (0, 0))) ∧ (w.heap.size < W.heap.size ∧ w.heap.size + 1 < W.heap.size ∧ w.heap.size + 1 + 1 < W.heap.size) := by
  have hl {k : Nat} {o : Obj} (e : Y.heap[k]? = some o) : W.heap[k]? = some o := (hW.block _ (Array.getElem?_eq_some_iff.1 e).1).trans e
  have hs := hW.size
  exact ⟨⟨hl h.1.1, hl h.1.2.1, hl h.1.2.2⟩, Nat.lt_of_lt_of_le h.2.1 hs, Nat.lt_of_lt_of_le h.2.2.1 hs, Nat.lt_of_lt_of_le h.2.2.2 hs⟩
theorem bm_cells {w W : World} {a : Option Addr} {cap : Nat} {C : List Cr} {loops : Int} {gF cF gT cT : Nat} {k x y ua va : Int} {ub vb ov : Bool} (h : (W.heap[w.heap.size]? = some (.cells #[.slice a C.length cap, .int .i64 loops, .slice (some ⟨gF, 0, none⟩) (2 * C.length + 1) cF, .slice (some ⟨gT, 0, none⟩) (2 * C.length + 1) cT] 63 (0, 0)) ∧ W.heap[w.heap.size + 1]? = some (.cells #[.int .i64 k, .int .i64 x, .int .i64 y, .int .i64 ua, .bool ub, .int .i64 va, .bool vb, .bool ov] 28 (0, 0)) ∧ W.heap[w.heap.size + 1 + 1]? = some (.cells #[.slice none 0 0, .int .i64 0] 24 (0, 0))) ∧ (w.heap.size < W.heap.size ∧ w.heap.size + 1 < W.heap.size ∧ w.heap.size + 1 + 1 < W.heap.size)) : w.heap.size < W.heap.size ∧ w.heap.size + 1 < W.heap.size ∧ w.heap.size + 1 + 1 < W.heap.size ∧ W.cell? ⟨w.heap.size, 0, none⟩ = some (.slice a C.length cap) ∧ W.cell? ⟨w.heap.size, 1, none⟩ = some (.int .i64 loops) ∧ W.cell? ⟨w.heap.size, 2, none⟩ = some (.slice (some ⟨gF, 0, none⟩) (2 * C.length + 1) cF) ∧ W.cell? ⟨w.heap.size, 3, none⟩ = some (.slice (some ⟨gT, 0, none⟩) (2 * C.length + 1) cT) ∧ W.cell? ⟨w.heap.size + 1, 0, none⟩ = some (.int .i64 k) ∧ W.cell? ⟨w.heap.size + 1, 1, none⟩ = some (.int .i64 x) ∧ W.cell? ⟨w.heap.size + 1, 2, none⟩ = some (.int .i64 y) ∧ W.cell? ⟨w.heap.size + 1, 3, none⟩ = some (.int .i64 ua) ∧ W.cell? ⟨w.heap.size + 1, 4, none⟩ = some (.bool ub) ∧ W.cell? ⟨w.heap.size + 1, 5, none⟩ = some (.int .i64 va) ∧ W.cell? ⟨w.heap.size + 1, 6, none⟩ = some (.bool vb) ∧ W.cell? ⟨w.heap.size + 1, 7, none⟩ = some (.bool ov) ∧ W.cell? ⟨w.heap.size + 1 + 1, 0, none⟩ = some (.slice none 0 0) ∧ W.cell? ⟨w.heap.size + 1 + 1, 1, none⟩ = some (.int .i64 0) ∧ W.frozen? ⟨w.heap.size + 1 + 1, 0, none⟩ = false ∧ W.frozen? ⟨w.heap.size + 1 + 1, 1, none⟩ = false :=
  ⟨h.2.1, h.2.2.1, h.2.2.2, block_cell h.1.1 rfl, block_cell h.1.1 rfl, block_cell h.1.1 rfl, block_cell h.1.1 rfl, block_cell h.1.2.1 rfl, block_cell h.1.2.1 rfl, block_cell h.1.2.1 rfl, block_cell h.1.2.1 rfl, block_cell h.1.2.1 rfl, block_cell h.1.2.1 rfl, block_cell h.1.2.1 rfl, block_cell h.1.2.1 rfl, block_cell h.1.2.2 rfl, block_cell h.1.2.2 rfl, block_frozen h.1.2.2, block_frozen h.1.2.2⟩
end Go.Proofs.Ytagaajlbkfkaiaa
