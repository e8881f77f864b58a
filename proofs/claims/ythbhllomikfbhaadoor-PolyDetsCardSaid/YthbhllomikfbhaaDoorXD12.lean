/- poly.Det of a table of which nothing is wrong. -/
import Derived.Test.YthbhllomikfbhaaDoorPD12
namespace Go.Proofs.YthbhllomikfbhaaDoor.Poly
open Go.RowKit

theorem good_sq {T : List (List (List (Int × Int)))} (h : GoodT T T.length) (h6 : T.length ≤ 6) : squareB T = true := by
  refine (square_iff T).2 ⟨h6, fun i hi => (h.2 _ (getD_mem T i [] hi)).1⟩
theorem good_may {T : List (List (List (Int × Int)))} (h : GoodT T T.length) : everyB mayB T = true :=
  (every_iff mayB T).2 fun i hi j hj => ((h.2 _ (getD_mem T i [] hi)).2 _ (getD_mem _ j [] hj)).1
theorem good_few {T : List (List (List (Int × Int)))} (h : GoodT T T.length) : everyB fewB T = true :=
  (every_iff fewB T).2 fun i hi j hj => by
    have := ((h.2 _ (getD_mem T i [] hi)).2 _ (getD_mem _ j [] hj)).2
    simpa [fewB] using this
theorem det_good (v : Value) (T : List (List (List (Int × Int)))) (w : World) (h6 : T.length ≤ 6) (hg : GoodT T T.length) (h : Table w w.heap.size v T) :
    Calls Tryd.prog 22 #[v] w fun e w' => ∃ v' l, e = .returned (.tuple #[v', .int .i64 0]) ∧ Poly w' w'.heap.size v' l ∧ Canon l (detOf T) ∧ Below w.heap.size w w' := by
  have hsq := good_sq hg h6
  have hm := good_may hg
  have hs6 := (square_iff T).1 hsq
  have hS6 : ∀ i, i < T.length → (T.getD i []).length ≤ 6 := fun i hi => by rw [hs6.2 i hi]; exact hs6.1
  have hM2 := (every_iff mayB T).1 hm
  have h0 : detMayN T = 0 := detMay_ok hsq hm (good_few hg)
  refine (det_any v T w (by unfold maxLen; omega) (fun i hi => by have := hS6 i hi; unfold maxLen; omega) (fun i hi j hj => by
    have := ((may_iff _).1 (hM2 i hi j hj)).1
    unfold maxLen
    omega) h).mono ?_
  rintro e w' ⟨v', l, rfl, hp, -, h2, hb⟩
  exact ⟨v', l, by rw [h0], hp, (h2 h0).2.2, hb⟩
end Go.Proofs.YthbhllomikfbhaaDoor.Poly
