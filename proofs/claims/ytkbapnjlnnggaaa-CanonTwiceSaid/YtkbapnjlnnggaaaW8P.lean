/- Several texts of the proof, one behind the other. -/
import Derived.Test.YtkbapnjlnnggaaaW4
import Derived.Test.YtkbapnjlnnggaaaW5P
/- The walk of ref.VisitsOf. -/
namespace Go.Proofs.Ytkbapnjlnnggaaa
open Go.RowKit

theorem visL_take (C : List Cr) (l : List Nat) (i : Nat) (h : i < l.length) : visL C (l.take (i + 1)) = visL C (l.take i) ++ [vis C (l.getD i 0)] := by
  have e2 : l.take (i + 1) = l.take i ++ [l.getD i 0] := by
    rw [List.take_add_one, List.getD_eq_getElem?_getD, List.getElem?_eq_getElem h]
    rfl
  rw [e2]
  simp [visL]
theorem visL_take_len (C : List Cr) (l : List Nat) (i : Nat) (h : i ≤ l.length) : (visL C (l.take i)).length = i := by simp [visL]; omega
theorem new_cell2 (W : World) (x y : Value) (e : TypeId) : ∀ j u, [x, y][j]? = some u → (W.alloc (.cells #[x, y] e)).cell? ((⟨W.heap.size, 0, none⟩ : Addr).add j) = some u := by
  intro j u hj
  rw [Addr.add_lit, Nat.zero_add]
  have hh : (W.alloc (.cells #[x, y] e)).heap[W.heap.size]? = some (.cells #[x, y] e (0, 0)) := Array.getElem?_push_size
  match j, hj with
  | 0, hj => simp at hj; subst hj; exact block_cell hh rfl
  | 1, hj => simp at hj; subst hj; exact block_cell hh rfl
theorem vis_one (t : Nat × Bool) : ∀ u ∈ [Value.int .i64 (t.1 : Nat), .bool t.2], u.oneCell' = true := vflat_one [t]

end Go.Proofs.Ytkbapnjlnnggaaa
/- The walk of gauss.Gauss. -/
namespace Go.Proofs.Ytkbapnjlnnggaaa
open Go.RowKit

end Go.Proofs.Ytkbapnjlnnggaaa
