/- Moves as cells, a copy of a row of moves, and rows of moves that come in. -/
import Derived.Test.YtagaajlbkfkaiaaMV2P
import Derived.Test.YtagaajlbkfkaiaaW2P
import Derived.Test.YtagaajlbkfkaiaaOpenP
namespace Go.Proofs.Ytagaajlbkfkaiaa
open Go.ChangeShapes Go.WideShapes Go.ChangeAt Go.RowKit

def Mo.cells (m : Mo) : List Value := [.int .i64 m.k, .int .i64 m.x, .int .i64 m.y, .int .i64 m.u, .bool m.ub, .int .i64 m.v, .bool m.vb, .bool m.ov]
def moCells (ms : List Mo) : List Value := ms.flatMap Mo.cells
theorem moCells_one (ms : List Mo) : ∀ u ∈ moCells ms, u.oneCell' = true := by
  intro u hu
  obtain ⟨m, -, h⟩ := List.mem_flatMap.1 hu
  simp only [Mo.cells, List.mem_cons, List.not_mem_nil, or_false] at h
  rcases h with rfl | rfl | rfl | rfl | rfl | rfl | rfl | rfl <;> rfl
theorem moCells_get : ∀ (ms : List Mo) (i r : Nat), i < ms.length → r < 8 → (moCells ms)[i * 8 + r]? = (ms.getD i Mo.none).cells[r]?
  | [], i, r, hi, _ => absurd hi (Nat.not_lt_zero _)
  | m :: ms, 0, r, _, hr => by
    unfold moCells
    rw [List.flatMap_cons, Nat.zero_mul, Nat.zero_add, List.getElem?_append_left (by simpa [Mo.cells] using hr)]
    rfl
  | m :: ms, i + 1, r, hi, hr => by
    have h := moCells_get ms i r (by simpa using hi) hr
    unfold moCells at h ⊢
    have hl : m.cells.length = 8 := rfl
    rw [List.flatMap_cons, List.getElem?_append_right (by rw [hl]; omega), hl, show (i + 1) * 8 + r - 8 = i * 8 + r by omega, h]
    rfl
theorem InAt.mvs {w : World} {B : Nat} {v : Value} {ms : List Mo} (h : InAt w B 8 v ms.length (moCells ms)) (hn : ms.length ≤ maxLen) : Mvs w B v ms := by
  rcases h with ⟨rfl, h0⟩ | ⟨ad, cap, rfl, h0⟩ | ⟨b, off, cap, rfl, hlt, hc⟩
  · exact ⟨none, 0, by rw [h0], hn, fun hp => by omega⟩
  · exact ⟨some ad, cap, by rw [h0], hn, fun hp => by omega⟩
  · refine ⟨_, cap, rfl, hn, fun _ => ⟨b, off, rfl, hlt, fun i hi => ?_⟩⟩
    have g : ∀ r, r < 8 → w.cell? ⟨b, off + i * 8 + r, none⟩ = (ms.getD i Mo.none).cells[r]? := fun r hr => by
      rw [← moCells_get ms i r hi hr, Nat.add_assoc]
      exact hc _ (by omega)
    exact ⟨g 0 (by decide), g 1 (by decide), g 2 (by decide), g 3 (by decide), g 4 (by decide), g 5 (by decide), g 6 (by decide), g 7 (by decide)⟩
theorem infoMove : (Try.prog.info? 28).map (fun i => (i.zero, i.size, i.bytes)) = some (some (.agg #[.int .i64 0, .int .i64 0, .int .i64 0, .int .i64 0, .bool false, .int .i64 0, .bool false, .bool false]), 8, 64) := by kernel_rfl
end Go.Proofs.Ytagaajlbkfkaiaa
