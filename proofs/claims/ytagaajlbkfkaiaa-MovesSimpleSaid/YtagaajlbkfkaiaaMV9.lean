/- Moves: the walk of bench.push. Made by genmv9.py. -/
import Derived.Test.YtagaajlbkfkaiaaMV9b
import Derived.Test.YtagaajlbkfkaiaaMV8
import Derived.Deep.RegionHeld
namespace Go.Proofs.Ytagaajlbkfkaiaa
open Go.RowKit Go.Maps

theorem UvAt.all {w W : World} {B0 B1 B2 B3 M0 M1 M2 M3 M4 M5 M6 M7 U0 U1 V0 V1 : Value} {g5 g6 : Nat} (h : UvAt w W #[B0, B1, B2, B3] #[M0, M1, M2, M3, M4, M5, M6, M7] #[U0, U1] #[V0, V1] g5 g6) : W.cell? ⟨w.heap.size, 0, none⟩ = some B0 ∧ W.cell? ⟨w.heap.size, 1, none⟩ = some B1 ∧ W.cell? ⟨w.heap.size, 2, none⟩ = some B2 ∧ W.cell? ⟨w.heap.size, 3, none⟩ = some B3 ∧ W.cell? ⟨w.heap.size + 1, 0, none⟩ = some M0 ∧ W.cell? ⟨w.heap.size + 1, 1, none⟩ = some M1 ∧ W.cell? ⟨w.heap.size + 1, 2, none⟩ = some M2 ∧ W.cell? ⟨w.heap.size + 1, 3, none⟩ = some M3 ∧ W.cell? ⟨w.heap.size + 1, 4, none⟩ = some M4 ∧ W.cell? ⟨w.heap.size + 1, 5, none⟩ = some M5 ∧ W.cell? ⟨w.heap.size + 1, 6, none⟩ = some M6 ∧ W.cell? ⟨w.heap.size + 1, 7, none⟩ = some M7 ∧ W.cell? ⟨g5, 0, none⟩ = some U0 ∧ W.cell? ⟨g5, 1, none⟩ = some U1 ∧ W.cell? ⟨g6, 0, none⟩ = some V0 ∧ W.cell? ⟨g6, 1, none⟩ = some V1 ∧ w.heap.size < W.heap.size ∧ w.heap.size + 1 < W.heap.size ∧ g5 < W.heap.size ∧ g6 < W.heap.size :=
  ⟨block_cell h.b0 rfl, block_cell h.b0 rfl, block_cell h.b0 rfl, block_cell h.b0 rfl, block_cell h.b1 rfl, block_cell h.b1 rfl, block_cell h.b1 rfl, block_cell h.b1 rfl, block_cell h.b1 rfl, block_cell h.b1 rfl, block_cell h.b1 rfl, block_cell h.b1 rfl, block_cell h.b5 rfl, block_cell h.b5 rfl, block_cell h.b6 rfl, block_cell h.b6 rfl, (Array.getElem?_eq_some_iff.1 h.b0).1, (Array.getElem?_eq_some_iff.1 h.b1).1, (Array.getElem?_eq_some_iff.1 h.b5).1, (Array.getElem?_eq_some_iff.1 h.b6).1⟩
end Go.Proofs.Ytagaajlbkfkaiaa
