/- The walk of drawing.Of. -/
import Derived.Test.YtagaajlbkfkaiaaH4P
namespace Go.Proofs.Ytagaajlbkfkaiaa
open Go.RowKit

/-- No drawing at all. -/
def noDrawing : Value := .agg #[.slice none 0 0, .int .i64 0, .slice none 0 0, .slice none 0 0]

set_option maxHeartbeats 4000000 in
set_option maxRecDepth 100000 in
theorem of_size (v : Value) (C : List Cr) (loops : Int) (w : World) (h : Crs w w.heap.size v C) (hs : sizeB C loops = false) :
    Calls Try.prog 50 #[.agg #[v, .int .i64 loops]] w fun e w' => e = .returned (.tuple #[noDrawing, .bool false]) ∧ Below w.heap.size w w' := by
  obtain ⟨a, cap, rfl, hn, _⟩ := h
  have hn' : C.length ≤ 9223372036854775807 := hn
  by_cases h1 : 16 < C.length
  · have d1 : decide (16 < (C.length : Int)) = true := by simp; omega
    have d2 : decide (16 < C.length) = true := by simp; omega
    go_enter Try.func50, Try.ntmps50
    go_wp2
    exact bodyPost_ret (v := .tuple #[noDrawing, .bool false]) (by simp [results, Try.results50, go_sem, noDrawing]) rfl ⟨rfl, below2 _ _ _⟩
  · by_cases h2 : loops < 0
    · have d2 : decide (loops < 0) = true := by simpa using h2
      go_enter Try.func50, Try.ntmps50
      go_wp2
      exact bodyPost_ret (v := .tuple #[noDrawing, .bool false]) (by simp [results, Try.results50, go_sem, noDrawing]) rfl ⟨rfl, below2 _ _ _⟩
    · by_cases h3 : 16 < loops
      · have d3 : decide (16 < loops) = true := by simpa using h3
        go_enter Try.func50, Try.ntmps50
        go_wp2
        exact bodyPost_ret (v := .tuple #[noDrawing, .bool false]) (by simp [results, Try.results50, go_sem, noDrawing]) rfl ⟨rfl, below2 _ _ _⟩
      · have h4 : C.length = 0 ∧ loops = 0 := by
          simp only [sizeB, Bool.and_eq_false_iff, decide_eq_false_iff_not, Bool.not_eq_false', Bool.and_eq_true, decide_eq_true_eq] at hs
          omega
        obtain ⟨h4, rfl⟩ := h4
        rw [h4]
        go_enter Try.func50, Try.ntmps50
        go_wp2
        exact bodyPost_ret (v := .tuple #[noDrawing, .bool false]) (by simp [results, Try.results50, go_sem, noDrawing]) rfl ⟨rfl, below2 _ _ _⟩

end Go.Proofs.Ytagaajlbkfkaiaa
