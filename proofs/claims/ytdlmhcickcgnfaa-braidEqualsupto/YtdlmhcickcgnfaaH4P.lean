/- Several texts of the proof, one behind the other. -/
import Derived.Test.YtdlmhcickcgnfaaH1P
/- The walk of ref.DiagramMay at whatever diagram; the walk of drawing.unknown. -/
namespace Go.Proofs.Ytdlmhcickcgnfaa
open Go.RowKit

end Go.Proofs.Ytdlmhcickcgnfaa
/- A diagram may be just if no arc stands twice where strands come in, nor where they go out, and none is out of range. Plain mathematics: no program is named here. -/
namespace Go.Proofs.Ytdlmhcickcgnfaa

/-- At how many of the first k sides a stands, coming in (p) or going out. -/
def sd (x : Cr) (a : Int) (p : Bool) : Nat → Nat
  | 0 => 0
  | k + 1 => sd x a p k + (if x.arc k = a ∧ x.comes k = p then 1 else 0)
def sdTo (C : List Cr) (a : Int) (p : Bool) : Nat → Nat
  | 0 => 0
  | i + 1 => sdTo C a p i + sd (C.getD i Cr.none) a p 4
theorem sd_in (x : Cr) (a : Int) (k : Nat) : sd x a true k = sideIn x a k := by
  induction k with
  | zero => rfl
  | succ k ih => simp only [sd, sideIn, ih]
theorem sd_out (x : Cr) (a : Int) (k : Nat) : sd x a false k = sideOut x a k := by
  induction k with
  | zero => rfl
  | succ k ih => simp only [sd, sideOut, ih]
theorem sdTo_in (C : List Cr) (a : Int) (i : Nat) : sdTo C a true i = inTo C a i := by
  induction i with
  | zero => rfl
  | succ i ih => simp only [sdTo, inTo, ih, sd_in]
theorem sdTo_out (C : List Cr) (a : Int) (i : Nat) : sdTo C a false i = outTo C a i := by
  induction i with
  | zero => rfl
  | succ i ih => simp only [sdTo, outTo, ih, sd_out]

/-- The sum over the numbers from 1 to m. -/
def sumA (f : Nat → Nat) : Nat → Nat
  | 0 => 0
  | m + 1 => sumA f m + f (m + 1)
theorem sumA_add (f g : Nat → Nat) (m : Nat) : sumA (fun a => f a + g a) m = sumA f m + sumA g m := by
  induction m with
  | zero => rfl
  | succ m ih => simp only [sumA, ih]; omega
theorem sumA_congr {f g : Nat → Nat} (m : Nat) (h : ∀ a, 1 ≤ a → a ≤ m → f a = g a) : sumA f m = sumA g m := by
  induction m with
  | zero => rfl
  | succ m ih => simp only [sumA]; rw [ih fun a h1 h2 => h a h1 (by omega), h (m + 1) (by omega) (Nat.le_refl _)]
theorem sumA_zero (m : Nat) : sumA (fun _ => 0) m = 0 := by
  induction m with
  | zero => rfl
  | succ m ih => simp only [sumA, ih]
theorem sumA_one (m : Nat) : sumA (fun _ => 1) m = m := by
  induction m with
  | zero => rfl
  | succ m ih => simp only [sumA, ih]
theorem sumA_at (v : Int) (m : Nat) : sumA (fun a => if v = (a : Int) then 1 else 0) m = if 1 ≤ v ∧ v ≤ m then 1 else 0 := by
  induction m with
  | zero => simp only [sumA]; rw [if_neg (by omega)]
  | succ m ih =>
    simp only [sumA, ih]
    by_cases h1 : 1 ≤ v ∧ v ≤ m
    · rw [if_pos h1, if_neg (by omega), if_pos (by omega)]
    · rw [if_neg h1]
      by_cases h2 : v = ((m + 1 : Nat) : Int)
      · rw [if_pos h2, if_pos (by omega)]
      · rw [if_neg h2, if_neg (by omega)]
theorem sumA_all {f : Nat → Nat} {m : Nat} (h1 : ∀ a, 1 ≤ a → a ≤ m → f a ≤ 1) (hs : sumA f m = m) : ∀ a, 1 ≤ a → a ≤ m → f a = 1 := by
  have hle : ∀ k, k ≤ m → sumA f k ≤ k := by
    intro k
    induction k with
    | zero => intro _; exact Nat.le_refl _
    | succ k ih =>
      intro hk
      have := ih (by omega)
      have := h1 (k + 1) (by omega) hk
      simp only [sumA]
      omega
  induction m with
  | zero => intro a h2 h3; omega
  | succ m ih =>
    have hm := hle m (by omega)
    have hl := h1 (m + 1) (by omega) (Nat.le_refl _)
    simp only [sumA] at hs
    intro a h2 h3
    by_cases e : a = m + 1
    · rw [e]; omega
    · exact ih (fun b hb1 hb2 => h1 b hb1 (by omega)) (by omega) (fun k hk => hle k (by omega)) a h2 (by omega)

/-- How many of the first k sides come in (p), or go out. -/
def cnt (x : Cr) (p : Bool) : Nat → Nat
  | 0 => 0
  | k + 1 => cnt x p k + (if x.comes k = p then 1 else 0)
theorem cnt_four (x : Cr) (p : Bool) : cnt x p 4 = 2 := by
  obtain ⟨a, b, c, d, q⟩ := x
  cases p <;> cases q <;> rfl
/-- How many of them are in range. -/
def rng (x : Cr) (p : Bool) (m : Nat) : Nat → Nat
  | 0 => 0
  | k + 1 => rng x p m k + (if x.comes k = p ∧ 1 ≤ x.arc k ∧ x.arc k ≤ m then 1 else 0)
def rngTo (C : List Cr) (p : Bool) (m : Nat) : Nat → Nat
  | 0 => 0
  | i + 1 => rngTo C p m i + rng (C.getD i Cr.none) p m 4
theorem sum_sd (x : Cr) (p : Bool) (m k : Nat) : sumA (fun a => sd x a p k) m = rng x p m k := by
  induction k with
  | zero => exact sumA_zero m
  | succ k ih =>
    simp only [sd, rng, sumA_add, ih]
    congr 1
    by_cases h : x.comes k = p
    · rw [sumA_congr m (g := fun a => if x.arc k = (a : Int) then 1 else 0) (fun a _ _ => by simp [h]), sumA_at]
      simp [h]
    · rw [sumA_congr m (g := fun _ => 0) (fun a _ _ => by simp [h]), sumA_zero, if_neg (fun e => h e.1)]
theorem sum_sdTo (C : List Cr) (p : Bool) (m i : Nat) : sumA (fun a => sdTo C a p i) m = rngTo C p m i := by
  induction i with
  | zero => exact sumA_zero m
  | succ i ih => simp only [sdTo, rngTo, sumA_add, ih, sum_sd]
theorem rng_le (x : Cr) (p : Bool) (m k : Nat) : rng x p m k ≤ cnt x p k := by
  induction k with
  | zero => exact Nat.le_refl _
  | succ k ih =>
    simp only [rng, cnt]
    by_cases h : x.comes k = p
    · rw [if_pos h]; split <;> omega
    · rw [if_neg h, if_neg (fun e => h e.1)]; omega
theorem rng_lt (x : Cr) (p : Bool) (m k j : Nat) (hj : j < k) (hc : x.comes j = p) (ho : ¬(1 ≤ x.arc j ∧ x.arc j ≤ m)) : rng x p m k < cnt x p k := by
  induction k with
  | zero => omega
  | succ k ih =>
    simp only [rng, cnt]
    by_cases e : j = k
    · subst e
      have := rng_le x p m j
      rw [if_pos hc, if_neg (fun e => ho e.2)]
      omega
    · have := ih (by omega)
      by_cases h : x.comes k = p
      · rw [if_pos h]; split <;> omega
      · rw [if_neg h, if_neg (fun e => h e.1)]; omega
theorem rng_all (x : Cr) (p : Bool) (m k : Nat) (h : ∀ j, j < k → x.comes j = p → 1 ≤ x.arc j ∧ x.arc j ≤ m) : rng x p m k = cnt x p k := by
  induction k with
  | zero => rfl
  | succ k ih =>
    simp only [rng, cnt]
    rw [ih fun j hj => h j (by omega)]
    by_cases hc : x.comes k = p
    · rw [if_pos hc, if_pos ⟨hc, h k (by omega) hc⟩]
    · rw [if_neg hc, if_neg (fun e => hc e.1)]
theorem rngTo_le (C : List Cr) (p : Bool) (m i : Nat) : rngTo C p m i ≤ 2 * i := by
  induction i with
  | zero => exact Nat.le_refl _
  | succ i ih =>
    have := rng_le (C.getD i Cr.none) p m 4
    rw [cnt_four] at this
    simp only [rngTo]
    omega
theorem rngTo_lt (C : List Cr) (p : Bool) (m n i k : Nat) (hi : i < n) (hk : k < 4) (hc : (C.getD i Cr.none).comes k = p) (ho : ¬(1 ≤ (C.getD i Cr.none).arc k ∧ (C.getD i Cr.none).arc k ≤ m)) : rngTo C p m n < 2 * n := by
  induction n with
  | zero => omega
  | succ n ih =>
    simp only [rngTo]
    by_cases e : i = n
    · subst e
      have h1 := rng_lt (C.getD i Cr.none) p m 4 k hk hc ho
      have h2 := rngTo_le C p m i
      rw [cnt_four] at h1
      omega
    · have h1 := ih (by omega)
      have h2 := rng_le (C.getD n Cr.none) p m 4
      rw [cnt_four] at h2
      omega
theorem rngTo_all (C : List Cr) (p : Bool) (m n : Nat) (h : ∀ i k, i < n → k < 4 → (C.getD i Cr.none).comes k = p → 1 ≤ (C.getD i Cr.none).arc k ∧ (C.getD i Cr.none).arc k ≤ m) : rngTo C p m n = 2 * n := by
  induction n with
  | zero => rfl
  | succ n ih =>
    simp only [rngTo]
    rw [ih fun i k hi => h i k (by omega), rng_all _ p m 4 (fun j hj hc => h n j (by omega) hj hc), cnt_four]
    omega

/-- How often a stood, coming in or going out, ahead of side k of crossing i. -/
def ahd (C : List Cr) (a : Int) (p : Bool) (i k : Nat) : Nat := sdTo C a p i + sd (C.getD i Cr.none) a p k
theorem ahd_next (C : List Cr) (a : Int) (p : Bool) (i k : Nat) : ahd C a p i (k + 1) = ahd C a p i k + (if (C.getD i Cr.none).arc k = a ∧ (C.getD i Cr.none).comes k = p then 1 else 0) := by
  simp only [ahd, sd]; omega
theorem ahd_row (C : List Cr) (a : Int) (p : Bool) (i : Nat) : ahd C a p i 4 = ahd C a p (i + 1) 0 := rfl
theorem sd_mono (x : Cr) (a : Int) (p : Bool) (j k : Nat) (h : j ≤ k) : sd x a p j ≤ sd x a p k := by
  induction k with
  | zero => obtain rfl : j = 0 := by omega
            exact Nat.le_refl _
  | succ k ih =>
    by_cases e : j = k + 1
    · subst e; exact Nat.le_refl _
    · have := ih (by omega)
      simp only [sd]
      omega
theorem sdTo_mono (C : List Cr) (a : Int) (p : Bool) (i n : Nat) (h : i ≤ n) : sdTo C a p i ≤ sdTo C a p n := by
  induction n with
  | zero => obtain rfl : i = 0 := by omega
            exact Nat.le_refl _
  | succ n ih =>
    by_cases e : i = n + 1
    · subst e; exact Nat.le_refl _
    · have := ih (by omega)
      simp only [sdTo]
      omega
theorem ahd_le (C : List Cr) (a : Int) (p : Bool) (i k n : Nat) (hi : i < n) (hk : k ≤ 4) : ahd C a p i k ≤ sdTo C a p n := by
  have h1 := sd_mono (C.getD i Cr.none) a p k 4 hk
  have h2 := sdTo_mono C a p (i + 1) n (by omega)
  simp only [sdTo] at h2
  simp only [ahd]
  omega

/-- Side k of crossing i is in order: its arc is in range, and has not stood on that side before. -/
def fit (C : List Cr) (i k : Nat) : Prop := 1 ≤ (C.getD i Cr.none).arc k ∧ (C.getD i Cr.none).arc k ≤ 2 * (C.length : Int) ∧ ahd C ((C.getD i Cr.none).arc k) ((C.getD i Cr.none).comes k) i k = 0

theorem once_sd {C : List Cr} {a : Nat} (h : onceB C a = true) (p : Bool) : sdTo C a p C.length = 1 := by
  simp only [onceB, Bool.and_eq_true, decide_eq_true_eq] at h
  cases p
  · rw [sdTo_out]; exact h.2
  · rw [sdTo_in]; exact h.1
theorem may_once {C : List Cr} {loops : Int} (h : mayD C loops = true) (a : Nat) (h1 : 1 ≤ a) (h2 : a ≤ 2 * C.length) : onceB C a = true := by
  cases ho : onceB C a with
  | true => rfl
  | false => rw [mayD_no h1 h2 ho] at h; cases h

/-- Where a side is not in order the diagram may not be. -/
theorem unfit_no {C : List Cr} {loops : Int} {i k : Nat} (hi : i < C.length) (hk : k < 4) (h : ¬fit C i k) : mayD C loops = false := by
  cases hm : mayD C loops with
  | false => rfl
  | true =>
    exfalso
    by_cases hr : 1 ≤ (C.getD i Cr.none).arc k ∧ (C.getD i Cr.none).arc k ≤ 2 * (C.length : Int)
    · obtain ⟨a, ha⟩ : ∃ a : Nat, (C.getD i Cr.none).arc k = (a : Int) := ⟨((C.getD i Cr.none).arc k).toNat, by omega⟩
      have h1 := once_sd (may_once hm a (by omega) (by omega)) ((C.getD i Cr.none).comes k)
      have h2 := ahd_le C a ((C.getD i Cr.none).comes k) i (k + 1) C.length hi (by omega)
      rw [ahd_next, if_pos ⟨ha, rfl⟩] at h2
      refine h ⟨hr.1, hr.2, ?_⟩
      rw [ha]
      omega
    · have h1 := rngTo_lt C ((C.getD i Cr.none).comes k) (2 * C.length) C.length i k hi hk rfl (by omega)
      rw [← sum_sdTo, sumA_congr (2 * C.length) (g := fun _ => 1) (fun a h2 h3 => once_sd (may_once hm a h2 h3) _), sumA_one] at h1
      omega
/-- Where all sides are in order the diagram may be. -/
theorem fit_yes {C : List Cr} {loops : Int} (hs : sizeB C loops = true) (h : ∀ i k, i < C.length → k < 4 → fit C i k) : mayD C loops = true := by
  have key : ∀ p, ∀ a : Nat, 1 ≤ a → a ≤ 2 * C.length → sdTo C a p C.length = 1 := by
    intro p
    refine sumA_all (f := fun a => sdTo C a p C.length) ?_ ?_
    · intro a h1 h2
      have hrow : ∀ i, i ≤ C.length → sdTo C a p i ≤ 1 := by
        intro i
        induction i with
        | zero => intro _; exact Nat.zero_le _
        | succ i ih =>
          intro hi
          have ih := ih (by omega)
          have hcol : ∀ k, k ≤ 4 → ahd C a p i k ≤ 1 := by
            intro k
            induction k with
            | zero => intro _; exact ih
            | succ k ihk =>
              intro hk
              have ihk := ihk (by omega)
              rw [ahd_next]
              split
              · next e =>
                have hf := (h i k (by omega) (by omega)).2.2
                rw [e.1, e.2] at hf
                omega
              · omega
          have := hcol 4 (Nat.le_refl _)
          exact this
      exact hrow C.length (Nat.le_refl _)
    · rw [sum_sdTo]
      exact rngTo_all C p _ C.length fun i k hi hk _ => by
        have := h i k hi hk
        exact ⟨this.1, by have := this.2.1; omega⟩
  refine mayD_yes hs fun a h1 h2 => ?_
  simp only [onceB, Bool.and_eq_true, decide_eq_true_eq]
  exact ⟨by rw [← sdTo_in]; exact key true a h1 h2, by rw [← sdTo_out]; exact key false a h1 h2⟩
end Go.Proofs.Ytdlmhcickcgnfaa
