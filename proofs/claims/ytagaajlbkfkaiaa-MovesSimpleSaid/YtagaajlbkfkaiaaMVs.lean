/- Moves: the walk of bench.slide from its map on. Made by genmvs.py. -/
import Derived.Test.YtagaajlbkfkaiaaMVcP
import Derived.Test.YtagaajlbkfkaiaaMV9b
import Derived.Test.YtagaajlbkfkaiaaMVe
import Derived.Test.YtagaajlbkfkaiaaTkhP
import Derived.Test.YtagaajlbkfkaiaaME1P
namespace Go.Proofs.Ytagaajlbkfkaiaa
open Go.RowKit Go.Maps

/-- Two boxes of spots, behind all that was there. -/
structure SsAt (Z W : World) (p1 p2 q1 q2 : Nat) (g h : Nat) : Prop where
  b0 : W.heap[g]? = some (.cells #[.int .i64 (p1 : Nat), .int .i64 (p2 : Nat)] 120 (0, 0))
  b1 : W.heap[h]? = some (.cells #[.int .i64 (q1 : Nat), .int .i64 (q2 : Nat)] 120 (0, 0))
  ne : g ≠ h
  l0 : Z.heap.size ≤ g
  l1 : Z.heap.size ≤ h
  bel : Below Z.heap.size Z W
theorem SsAt.on {Z W W' : World} {p1 p2 q1 q2 g h : Nat} (a : SsAt Z W p1 p2 q1 q2 g h) (hb : Below W.heap.size W W') : SsAt Z W' p1 p2 q1 q2 g h :=
  have hl {k : Nat} {o : Obj} (e : W.heap[k]? = some o) : W'.heap[k]? = some o := (hb.block _ (Array.getElem?_eq_some_iff.1 e).1).trans e
  ⟨hl a.b0, hl a.b1, a.ne, a.l0, a.l1, a.bel.trans (hb.mono a.bel.size)⟩
theorem SsAt.of {Z W : World} {g h : Nat} (a : W.heap[g]? = some (.cells #[.int .i64 0, .int .i64 0] 120 (0, 0)) ∧ W.heap[h]? = some (.cells #[.int .i64 0, .int .i64 0] 120 (0, 0)) ∧ g ≠ h ∧ Z.heap.size ≤ g ∧ Z.heap.size ≤ h ∧ Below Z.heap.size Z W) : SsAt Z W 0 0 0 0 g h := ⟨a.1, a.2.1, a.2.2.1, a.2.2.2.1, a.2.2.2.2.1, a.2.2.2.2.2⟩
end Go.Proofs.Ytagaajlbkfkaiaa
