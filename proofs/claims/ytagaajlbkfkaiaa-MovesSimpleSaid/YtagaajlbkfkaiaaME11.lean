/- The walk of ref.slideOf, where it may be done, from its copy on. Made by genme11.py. -/
import Derived.Test.YtagaajlbkfkaiaaME9P
import Derived.Test.YtagaajlbkfkaiaaMVs
namespace Go.Proofs.Ytagaajlbkfkaiaa
open Go.RowKit

/-- Two boxes of spots, behind all that was there. -/
structure SrAt (Z W : World) (p1 p2 q1 q2 : Nat) (g h : Nat) : Prop where
  b0 : W.heap[g]? = some (.cells #[.int .i64 (p1 : Nat), .int .i64 (p2 : Nat)] 96 (0, 0))
  b1 : W.heap[h]? = some (.cells #[.int .i64 (q1 : Nat), .int .i64 (q2 : Nat)] 96 (0, 0))
  ne : g ≠ h
  l0 : Z.heap.size ≤ g
  l1 : Z.heap.size ≤ h
  bel : Below Z.heap.size Z W
theorem SrAt.on {Z W W' : World} {p1 p2 q1 q2 g h : Nat} (a : SrAt Z W p1 p2 q1 q2 g h) (hb : Below W.heap.size W W') : SrAt Z W' p1 p2 q1 q2 g h :=
  have hl {k : Nat} {o : Obj} (e : W.heap[k]? = some o) : W'.heap[k]? = some o := (hb.block _ (Array.getElem?_eq_some_iff.1 e).1).trans e
  ⟨hl a.b0, hl a.b1, a.ne, a.l0, a.l1, a.bel.trans (hb.mono a.bel.size)⟩
theorem SrAt.of {Z W : World} {g h : Nat} (a : W.heap[g]? = some (.cells #[.int .i64 0, .int .i64 0] 96 (0, 0)) ∧ W.heap[h]? = some (.cells #[.int .i64 0, .int .i64 0] 96 (0, 0)) ∧ g ≠ h ∧ Z.heap.size ≤ g ∧ Z.heap.size ≤ h ∧ Below Z.heap.size Z W) : SrAt Z W 0 0 0 0 g h := ⟨a.1, a.2.1, a.2.2.1, a.2.2.2.1, a.2.2.2.2.1, a.2.2.2.2.2⟩

end Go.Proofs.Ytagaajlbkfkaiaa
