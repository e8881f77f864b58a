/- Values at 1 and -1 of sums and products of polynomials, and what is flipped twice. Plain mathematics: no program is named here. -/
import Derived.Test.YthbhllomikfbhaaDoorXRing
import Derived.Test.YthbhllomikfbhaaDoorPA11
namespace Go.Proofs.YthbhllomikfbhaaDoor.Poly

/-- The value at t of a list of terms. -/
def val (t : Int) : List (Int × Int) → Int
  | [] => 0
  | s :: l => atV t s.1 s.2 + val t l

theorem atV_add (t e c d : Int) : atV t e (c + d) = atV t e c + atV t e d := by
  unfold atV
  split
  · rfl
  · rw [Int.mul_add]
theorem atV_zero (t e : Int) : atV t e 0 = 0 := by
  unfold atV
  split
  · rfl
  · rw [Int.mul_zero]
theorem atV_mul {t : Int} (ht : t = 1 ∨ t = -1) (e f c d : Int) : atV t (e + f) (c * d) = atV t e c * atV t f d := by
  unfold atV
  rcases ht with rfl | rfl
  · simp
  · split <;> split <;> split <;> first | omega | simp [Int.neg_mul, Int.mul_neg]

theorem val_append (t : Int) (a b : List (Int × Int)) : val t (a ++ b) = val t a + val t b := by
  induction a with
  | nil => simp [val]
  | cons s a ih => simp only [List.cons_append, val, ih]; omega

theorem val_filter (t e : Int) (l : List (Int × Int)) : val t l = atV t e (coefL l e) + val t (l.filter fun s => decide (s.1 ≠ e)) := by
  induction l with
  | nil => simp [val, coefL, atV_zero]
  | cons s l ih =>
    by_cases h : s.1 = e
    · have hf : (s :: l).filter (fun s => decide (s.1 ≠ e)) = l.filter fun s => decide (s.1 ≠ e) := by rw [List.filter_cons_of_neg (by simpa using h)]
      rw [hf]
      simp only [val, coefL, if_pos h, atV_add]
      rw [ih, h]
      omega
    · have hf : (s :: l).filter (fun s => decide (s.1 ≠ e)) = s :: l.filter fun s => decide (s.1 ≠ e) := by rw [List.filter_cons_of_pos (by simpa using h)]
      rw [hf]
      simp only [val, coefL, if_neg h, Int.zero_add]
      rw [ih]
      omega

theorem coef_filter (e x : Int) (l : List (Int × Int)) : coefL (l.filter fun s => decide (s.1 ≠ e)) x = if x = e then 0 else coefL l x := by
  induction l with
  | nil => simp [coefL]
  | cons s l ih =>
    by_cases h : s.1 = e
    · rw [List.filter_cons_of_neg (by simpa using h), ih]
      by_cases hx : x = e
      · rw [if_pos hx, if_pos hx]
      · rw [if_neg hx, if_neg hx, coefL, if_neg (by omega)]; omega
    · rw [List.filter_cons_of_pos (by simpa using h), coefL, ih]
      by_cases hx : x = e
      · rw [if_pos hx, if_pos hx, if_neg (by omega)]; rfl
      · rw [if_neg hx, if_neg hx, coefL]

theorem val_zero (t : Int) : ∀ (n : Nat) (l : List (Int × Int)), l.length ≤ n → (∀ x, coefL l x = 0) → val t l = 0
  | _, [], _, _ => rfl
  | 0, s :: l, h, _ => by simp at h
  | n + 1, s :: l, h, hz => by
    rw [val_filter t s.1, hz, atV_zero, val_zero t n _ ?_ ?_]
    · rfl
    · rw [List.filter_cons_of_neg (by simp)]
      have := List.length_filter_le (fun u : Int × Int => decide (u.1 ≠ s.1)) l
      simp at h
      omega
    · intro x
      rw [coef_filter, hz]
      split <;> rfl

def negL (l : List (Int × Int)) : List (Int × Int) := l.map fun s => (s.1, -s.2)
theorem coef_neg (l : List (Int × Int)) (x : Int) : coefL (negL l) x = -coefL l x := by
  induction l with
  | nil => rfl
  | cons s l ih =>
    have : coefL (negL (s :: l)) x = (if s.1 = x then -s.2 else 0) + coefL (negL l) x := rfl
    rw [this, ih, coefL]
    split <;> omega
theorem val_neg (t : Int) (l : List (Int × Int)) : val t (negL l) = -val t l := by
  induction l with
  | nil => rfl
  | cons s l ih =>
    have h1 : val t (negL (s :: l)) = atV t s.1 (-s.2) + val t (negL l) := rfl
    have h2 : atV t s.1 (-s.2) = -atV t s.1 s.2 := by
      unfold atV
      split
      · rfl
      · rw [Int.mul_neg]
    rw [h1, ih, h2, val]
    omega

/-- The value is told by the coefficients. -/
theorem val_coef (t : Int) {l m : List (Int × Int)} (h : ∀ x, coefL l x = coefL m x) : val t l = val t m := by
  have h0 := val_zero t _ (l ++ negL m) (Nat.le_refl _) fun x => by rw [coefL_append, coef_neg, h]; omega
  rw [val_append, val_neg] at h0
  omega

theorem val_add (t : Int) (a b : List (Int × Int)) : val t (addL a b) = val t a + val t b := by
  rw [← val_append]
  exact val_coef t fun x => coef_norm _ x

theorem val_shift {t : Int} (ht : t = 1 ∨ t = -1) (s : Int × Int) (b : List (Int × Int)) : val t (b.map fun u => (s.1 + u.1, s.2 * u.2)) = atV t s.1 s.2 * val t b := by
  induction b with
  | nil => simp [val]
  | cons u b ih => simp only [List.map_cons, val, ih, atV_mul ht, Int.mul_add]

theorem val_conv {t : Int} (ht : t = 1 ∨ t = -1) (a b : List (Int × Int)) : val t (convL a b) = val t a * val t b := by
  induction a with
  | nil => simp [convL, val]
  | cons s a ih => simp only [convL, val_append, val_shift ht, ih, val, Int.add_mul]

theorem val_mul {t : Int} (ht : t = 1 ∨ t = -1) (a b : List (Int × Int)) : val t (mulL a b) = val t a * val t b := by
  rw [← val_conv ht]
  exact val_coef t fun x => coef_norm _ x

theorem val_at (t : Int) (l : List (Int × Int)) (k : Nat) (hk : k ≤ l.length) : atTo l t k = val t (l.take k) := by
  induction k with
  | zero => simp [atTo, val]
  | succ k ih =>
    have hk' : k < l.length := by omega
    rw [atTo, ih (by omega), List.take_succ_eq_append_getElem hk', val_append]
    have g : l.getD k (0, 0) = l[k] := by simp [List.getD, hk']
    rw [g]
    simp [val]

theorem at_val (t : Int) (l : List (Int × Int)) : atTo l t l.length = val t l := by rw [val_at t l _ (Nat.le_refl _), List.take_length]

theorem flip_flip (l : List (Int × Int)) : flipL (flipL l) = l := by
  unfold flipL
  rw [List.map_reverse, List.reverse_reverse, List.map_map]
  have : ((fun t : Int × Int => (-t.1, t.2)) ∘ fun t => (-t.1, t.2)) = id := by funext t; simp
  rw [this, List.map_id]

theorem flip_fine {l : List (Int × Int)} {E C : Int} (h : Fine l E C) : Fine (flipL l) E C := by
  refine ⟨canon_self ?_ ?_, fun t ht => ?_⟩
  · unfold flipL
    rw [List.pairwise_reverse, List.pairwise_map]
    exact h.1.1.imp fun h => by simp only; omega
  · intro t ht
    simp only [flipL, List.mem_reverse, List.mem_map] at ht
    obtain ⟨s, hs, rfl⟩ := ht
    exact ((h.1.2 s.1 s.2).1 hs).2
  · simp only [flipL, List.mem_reverse, List.mem_map] at ht
    obtain ⟨s, hs, rfl⟩ := ht
    have := h.2 s hs
    exact ⟨by simp only; omega, by simp only; omega, this.2.2⟩
end Go.Proofs.YthbhllomikfbhaaDoor.Poly
