/- Moves: the walk of bench.push from its new arcs on. Made by genmv9b.py. -/
import Derived.Test.YtagaajlbkfkaiaaMV7P
import Derived.Test.YtagaajlbkfkaiaaTkhP
import Derived.Deep.RegionHeld
import Derived.Deep.Cut
namespace Go.Proofs.Ytagaajlbkfkaiaa
open Go.RowKit Go.Maps

/-- The boxes of bench.push. -/
structure UvAt (w W : World) (bs ms us vs : Array Value) (g5 g6 : Nat) : Prop where
  b0 : W.heap[w.heap.size]? = some (.cells bs 63 (0, 0))
  b1 : W.heap[w.heap.size + 1]? = some (.cells ms 28 (0, 0))
  b2 : W.heap[w.heap.size + 1 + 1]? = some (.cells #[.slice none 0 0, .int .i64 0] 24 (0, 0))
  b5 : W.heap[g5]? = some (.cells us 26 (0, 0))
  b6 : W.heap[g6]? = some (.cells vs 26 (0, 0))
  ne : g5 ≠ g6
  l5 : w.heap.size + 2 < g5
  l6 : w.heap.size + 2 < g6
  bel : Below w.heap.size w W
theorem UvAt.on {w W W' : World} {bs ms us vs : Array Value} {g5 g6 : Nat} (h : UvAt w W bs ms us vs g5 g6) (hb : Below W.heap.size W W') : UvAt w W' bs ms us vs g5 g6 :=
  have hl {k : Nat} {o : Obj} (e : W.heap[k]? = some o) : W'.heap[k]? = some o := (hb.block _ (Array.getElem?_eq_some_iff.1 e).1).trans e
  ⟨hl h.b0, hl h.b1, hl h.b2, hl h.b5, hl h.b6, h.ne, h.l5, h.l6, h.bel.trans (hb.mono h.bel.size)⟩
/-- Two boxes of passes, behind all that was there. -/
structure TwP (Z W : World) (p q : Int × Int) : Prop where
  b0 : W.heap[Z.heap.size]? = some (.cells #[.int .i64 p.1, .int .i64 p.2] 154 (0, 0))
  b1 : W.heap[Z.heap.size + 1]? = some (.cells #[.int .i64 q.1, .int .i64 q.2] 154 (0, 0))
  bel : Below Z.heap.size Z W
theorem TwP.on {Z W W' : World} {p q : Int × Int} (h : TwP Z W p q) (hb : Below W.heap.size W W') : TwP Z W' p q :=
  have hl {k : Nat} {o : Obj} (e : W.heap[k]? = some o) : W'.heap[k]? = some o := (hb.block _ (Array.getElem?_eq_some_iff.1 e).1).trans e
  ⟨hl h.b0, hl h.b1, h.bel.trans (hb.mono h.bel.size)⟩
theorem TwP.made (Z : World) (p q : Int × Int) : TwP Z ((Z.alloc (.cells #[.int .i64 p.1, .int .i64 p.2] 154)).alloc (.cells #[.int .i64 q.1, .int .i64 q.2] 154)) p q :=
  ⟨alloc_old (alloc_at rfl), alloc_at (by simp), below2 _ _ _⟩
/-- Two boxes of crossings, behind all that was there. -/
structure PqAt (Z W : World) (p q : Cr) (g h : Nat) : Prop where
  b0 : W.heap[g]? = some (.cells #[.int .i64 p.a, .int .i64 p.b, .int .i64 p.c, .int .i64 p.d, .bool p.plus] 71 (0, 0))
  b1 : W.heap[h]? = some (.cells #[.int .i64 q.a, .int .i64 q.b, .int .i64 q.c, .int .i64 q.d, .bool q.plus] 71 (0, 0))
  ne : g ≠ h
  l0 : Z.heap.size ≤ g
  l1 : Z.heap.size ≤ h
  bel : Below Z.heap.size Z W
theorem PqAt.on {Z W W' : World} {p q : Cr} {g h : Nat} (a : PqAt Z W p q g h) (hb : Below W.heap.size W W') : PqAt Z W' p q g h :=
  have hl {k : Nat} {o : Obj} (e : W.heap[k]? = some o) : W'.heap[k]? = some o := (hb.block _ (Array.getElem?_eq_some_iff.1 e).1).trans e
  ⟨hl a.b0, hl a.b1, a.ne, a.l0, a.l1, a.bel.trans (hb.mono a.bel.size)⟩
theorem PqAt.of {Z W : World} {g h : Nat} (a : W.heap[g]? = some (.cells #[.int .i64 0, .int .i64 0, .int .i64 0, .int .i64 0, .bool false] 71 (0, 0)) ∧ W.heap[h]? = some (.cells #[.int .i64 0, .int .i64 0, .int .i64 0, .int .i64 0, .bool false] 71 (0, 0)) ∧ g ≠ h ∧ Z.heap.size ≤ g ∧ Z.heap.size ≤ h ∧ Below Z.heap.size Z W) : PqAt Z W ⟨0, 0, 0, 0, false⟩ ⟨0, 0, 0, 0, false⟩ g h := ⟨a.1, a.2.1, a.2.2.1, a.2.2.2.1, a.2.2.2.2.1, a.2.2.2.2.2⟩
end Go.Proofs.Ytagaajlbkfkaiaa
