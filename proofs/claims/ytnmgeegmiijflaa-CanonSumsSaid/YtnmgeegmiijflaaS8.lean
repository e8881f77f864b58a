/- ref.SumOf whole, of diagrams that may be. -/
import Derived.Test.YtnmgeegmiijflaaS7
namespace Go.Proofs.Ytnmgeegmiijflaa
open Go.RowKit

theorem sumOf_any (v1 v2 : Value) (C D : List Cr) (l1 l2 x y : Int) (w : World) (h1 : Crs w w.heap.size v1 C) (h2 : Crs w w.heap.size v2 D) (hm : mayD C l1 = true) (hm' : mayD D l2 = true) :
    Calls Try.prog 43 #[.agg #[v1, .int .i64 l1], .int .i64 x, .agg #[v2, .int .i64 l2], .int .i64 y] w fun e w' => ∃ r, e = .returned (.tuple #[.agg #[r, .int .i64 (sumL C D l1 l2 x y)], .int .i64 (sumE C D l1 l2 x y)]) ∧ Crs w' w'.heap.size r (sumR C D l1 l2 x y) ∧ Below w.heap.size w w' := by
  have nil : ∀ (w : World), Crs w w.heap.size (.slice none 0 0) [] := fun w => ⟨none, 0, rfl, by unfold maxLen; simp, fun hp => by simp at hp⟩
  obtain ⟨s1, p1, p1', -⟩ := sizeB_iff (may_size hm)
  obtain ⟨s2, p2, p2', -⟩ := sizeB_iff (may_size hm')
  have fin : ∀ (z : Int), sumE C D l1 l2 x y = z → z ≠ 0 → ∀ (e : Ending) (w' : World), e = .returned (.tuple #[.agg #[.slice none 0 0, .int .i64 0], .int .i64 z]) ∧ Below w.heap.size w w' → ∃ r, e = .returned (.tuple #[.agg #[r, .int .i64 (sumL C D l1 l2 x y)], .int .i64 (sumE C D l1 l2 x y)]) ∧ Crs w' w'.heap.size r (sumR C D l1 l2 x y) ∧ Below w.heap.size w w' := fun z hz hz0 e w' hq => by
    have e2 : sumL C D l1 l2 x y = 0 := by rw [sumL, hz, if_neg hz0]
    have e3 : sumR C D l1 l2 x y = [] := by rw [sumR, hz, if_neg hz0]
    rw [e2, e3, hz]
    exact ⟨_, hq.1, nil w', hq.2⟩
  by_cases a1 : x < 1
  · exact (sumOf_1 v1 v2 C D l1 l2 x y w h1 h2 s1 s2 ⟨p1, p1'⟩ ⟨p2, p2'⟩ a1).mono (fin 3 (by have : ¬ 1 ≤ x := (by omega); simp [sumE, hasB, this]) (by decide))
  by_cases a2 : 2 * (C.length : Int) < x
  · exact (sumOf_2 v1 v2 C D l1 l2 x y w h1 h2 s1 s2 ⟨p1, p1'⟩ ⟨p2, p2'⟩ (by omega) a2).mono (fin 3 (by have : ¬ x ≤ 2 * (C.length : Int) := (by omega); simp [sumE, hasB, this]) (by decide))
  by_cases a3 : y < 1
  · exact (sumOf_3 v1 v2 C D l1 l2 x y w h1 h2 s1 s2 ⟨p1, p1'⟩ ⟨p2, p2'⟩ (by omega) (by omega) a3).mono (fin 3 (by have : ¬ 1 ≤ y := (by omega); simp [sumE, hasB, this]) (by decide))
  by_cases a4 : 2 * (D.length : Int) < y
  · exact (sumOf_4 v1 v2 C D l1 l2 x y w h1 h2 s1 s2 ⟨p1, p1'⟩ ⟨p2, p2'⟩ (by omega) (by omega) (by omega) a4).mono (fin 3 (by have : ¬ y ≤ 2 * (D.length : Int) := (by omega); simp [sumE, hasB, this]) (by decide))
  have hx : hasB C x = true := by simp [hasB]; omega
  have hy : hasB D y = true := by simp [hasB]; omega
  by_cases a5 : 16 < C.length + D.length
  · exact (sumOf_5 v1 v2 C D l1 l2 x y w h1 h2 s1 s2 ⟨p1, p1'⟩ ⟨p2, p2'⟩ (by omega) (by omega) (by omega) (by omega) a5).mono (fin 2 (by simp [sumE, hx, hy, a5]) (by decide))
  by_cases a6 : 16 < l1 + l2
  · exact (sumOf_6 v1 v2 C D l1 l2 x y w h1 h2 s1 s2 ⟨p1, p1'⟩ ⟨p2, p2'⟩ (by omega) (by omega) (by omega) (by omega) (by omega) a6).mono (fin 2 (by simp [sumE, hx, hy, a6]) (by decide))
  have e1 : sumE C D l1 l2 x y = 0 := by simp [sumE, hx, hy, a5, a6]
  refine (sumOf_ok v1 v2 C D l1 l2 x y w h1 h2 s1 s2 ⟨p1, p1'⟩ ⟨p2, p2'⟩ (by omega) (by omega) (by omega) (by omega) (by omega) (by omega) (arcs_in hm) (arcs_in hm')).mono fun e w' hq => ?_
  obtain ⟨r, he, hr, hb⟩ := hq
  exact ⟨r, by rw [he, sumL, e1]; rfl, by rw [sumR, e1]; exact hr, hb⟩
end Go.Proofs.Ytnmgeegmiijflaa
