/- Several texts of the proof, one behind the other. -/
import Derived.Test.YtagaajlbkfkaiaaME11
import Derived.Deep.QuietTactic
import Derived.BigQuiet
import Derived.Test.YtagaajlbkfkaiaaMT1
import Derived.Test.YtagaajlbkfkaiaaF6P
/- The walk of ref.slideOf from its counting on. Made by genme12.py. -/
namespace Go.Proofs.Ytagaajlbkfkaiaa
open Go.RowKit

end Go.Proofs.Ytagaajlbkfkaiaa
/- The walk of ref.slideOf. Made by genme13.py. -/
namespace Go.Proofs.Ytagaajlbkfkaiaa
open Go.RowKit

end Go.Proofs.Ytagaajlbkfkaiaa
/- The walk of ref.DoMove. Made by genme14.py. -/
namespace Go.Proofs.Ytagaajlbkfkaiaa
open Go.RowKit

/-- What a call answers: a diagram in memory of its own, and an error's number. -/
def RsAt (w : World) (D : List Cr) (lo ce : Int) (e : Ending) (w' : World) : Prop := ∃ a2 c2, e = .returned (.tuple #[.agg #[.slice a2 D.length c2, .int .i64 lo], .int .i64 ce]) ∧ w'.ownsRow w.heap.size 71 5 (.slice a2 D.length c2) D.length (crossCells D) ∧ Below w.heap.size w w'
theorem RsAt.no {w w' : World} {ce : Int} (hb : Below w.heap.size w w') : RsAt w [] 0 ce (.returned (.tuple #[.agg #[.slice none 0 0, .int .i64 0], .int .i64 ce])) w' := ⟨none, 0, rfl, World.ownsRow_nil _ _ _ _, hb⟩
/-- The answer is stored into the call's own box. -/
theorem RsAt.put {w V X : World} {D : List Cr} {lo ce : Int} {a2 : Option Addr} {c2 : Nat} (ho : X.ownsRow V.heap.size 71 5 (.slice a2 D.length c2) D.length (crossCells D)) (hV : w.heap.size + 3 ≤ V.heap.size) (hb : Below w.heap.size w X) : RsAt w D lo ce (.returned (.tuple #[.agg #[.slice a2 D.length c2, .int .i64 lo], .int .i64 ce])) ((X.setCell ⟨w.heap.size + 1 + 1, 0, none⟩ (.slice a2 D.length c2)).setCell ⟨w.heap.size + 1 + 1, 1, none⟩ (.int .i64 lo)) := by
  have hg := st2_grown X (w.heap.size + 1 + 1) 0 (.slice a2 D.length c2) (.int .i64 lo)
  refine ⟨a2, c2, rfl, own_low (ho.kept hg ?_) (by omega), hb.grown hg hb.size (fun q hq => by have := Option.some.inj hq; omega)⟩
  cases hv : (Value.slice a2 D.length c2).ownBlock with
  | none => exact Or.inl rfl
  | some k => exact Or.inr (fun e => by have h1 := (ho.lt k hv).1; have h2 := Option.some.inj e; omega)

/-- The three boxes of a call with a diagram and a move. -/
structure DmAt (w W : World) (a : Option Addr) (cap : Nat) (C : List Cr) (loops k x y ua va : Int) (ub vb ov : Bool) : Prop where
  b0 : W.heap[w.heap.size]? = some (.cells #[.slice a C.length cap, .int .i64 loops] 24 (0, 0))
  b1 : W.heap[w.heap.size + 1]? = some (.cells #[.int .i64 k, .int .i64 x, .int .i64 y, .int .i64 ua, .bool ub, .int .i64 va, .bool vb, .bool ov] 28 (0, 0))
  b2 : W.heap[w.heap.size + 1 + 1]? = some (.cells #[.slice none 0 0, .int .i64 0] 24 (0, 0))
theorem DmAt.on {w V W : World} {a : Option Addr} {cap : Nat} {C : List Cr} {loops k x y ua va : Int} {ub vb ov : Bool} (h : DmAt w V a cap C loops k x y ua va ub vb ov) (hb : Below V.heap.size V W) : DmAt w W a cap C loops k x y ua va ub vb ov :=
  have hl {k : Nat} {o : Obj} (e : V.heap[k]? = some o) : W.heap[k]? = some o := (hb.block _ (Array.getElem?_eq_some_iff.1 e).1).trans e
  ⟨hl h.b0, hl h.b1, hl h.b2⟩
theorem DmAt.cells {w W : World} {a : Option Addr} {cap : Nat} {C : List Cr} {loops k x y ua va : Int} {ub vb ov : Bool} (h : DmAt w W a cap C loops k x y ua va ub vb ov) : W.cell? ⟨w.heap.size, 0, none⟩ = some (.slice a C.length cap) ∧ W.cell? ⟨w.heap.size, 1, none⟩ = some (.int .i64 loops) ∧ W.cell? ⟨w.heap.size + 1, 0, none⟩ = some (.int .i64 k) ∧ W.cell? ⟨w.heap.size + 1, 1, none⟩ = some (.int .i64 x) ∧ W.cell? ⟨w.heap.size + 1, 2, none⟩ = some (.int .i64 y) ∧ W.cell? ⟨w.heap.size + 1, 3, none⟩ = some (.int .i64 ua) ∧ W.cell? ⟨w.heap.size + 1, 4, none⟩ = some (.bool ub) ∧ W.cell? ⟨w.heap.size + 1, 5, none⟩ = some (.int .i64 va) ∧ W.cell? ⟨w.heap.size + 1, 6, none⟩ = some (.bool vb) ∧ W.cell? ⟨w.heap.size + 1, 7, none⟩ = some (.bool ov) ∧ W.cell? ⟨w.heap.size + 1 + 1, 0, none⟩ = some (.slice none 0 0) ∧ W.cell? ⟨w.heap.size + 1 + 1, 1, none⟩ = some (.int .i64 0) ∧ W.frozen? ⟨w.heap.size + 1 + 1, 0, none⟩ = false ∧ W.frozen? ⟨w.heap.size + 1 + 1, 1, none⟩ = false ∧ w.heap.size < W.heap.size ∧ w.heap.size + 1 < W.heap.size ∧ w.heap.size + 1 + 1 < W.heap.size :=
  ⟨block_cell h.b0 rfl, block_cell h.b0 rfl, block_cell h.b1 rfl, block_cell h.b1 rfl, block_cell h.b1 rfl, block_cell h.b1 rfl, block_cell h.b1 rfl, block_cell h.b1 rfl, block_cell h.b1 rfl, block_cell h.b1 rfl, block_cell h.b2 rfl, block_cell h.b2 rfl, block_frozen h.b2, block_frozen h.b2, (Array.getElem?_eq_some_iff.1 h.b0).1, (Array.getElem?_eq_some_iff.1 h.b1).1, (Array.getElem?_eq_some_iff.1 h.b2).1⟩
end Go.Proofs.Ytagaajlbkfkaiaa
