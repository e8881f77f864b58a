/- The minors of a table by sets of columns, and their bounds. Plain mathematics: no program is named here. -/
import Derived.Test.YthbhllomikfbhaaDoorPD9
namespace Go.Proofs.YthbhllomikfbhaaDoor.Poly

/-- Row k of the table, as columns. -/
def rowAt (T : List (List (List (Int × Int)))) (k : Nat) (c : Nat) : List (Int × Int) := (T.getD k []).getD c []
/-- The first k rows, from the last to the first. -/
def lastRows (T : List (List (List (Int × Int)))) : Nat → List (Nat → List (Int × Int))
  | 0 => []
  | k + 1 => rowAt T k :: lastRows T k
/-- The minor of the first rows at the columns of the set s. -/
def minorF (T : List (List (List (Int × Int)))) (s : Nat) : Int → Int := detE (lastRows T (onesTo s 6)) (colsOf s)

def bd : Nat → Nat
  | 0 => 1
  | k + 1 => (k + 1) * (100 * bd k)
def szd : Nat → Nat
  | 0 => 1
  | k + 1 => (k + 1) * (64 * szd k)

theorem prodL_abs (l : List (Int × Int)) (g : Int → Int) (H : Nat) (hg : ∀ x, (g x).natAbs ≤ H) (y : Int) (k : Nat) (hk : k ≤ l.length) :
    ((prodL (l.take k) g y).natAbs : Int) ≤ sizeTo l k * (H : Int) := by
  induction k with
  | zero => simp [sizeTo, prodL]
  | succ k ih =>
    have ih := ih (by omega)
    have hk' : k < l.length := by omega
    rw [List.take_succ_eq_append_getElem hk', prodL_append, sizeTo]
    have g0 : l.getD k (0, 0) = l[k] := by simp [List.getD, hk']
    rw [g0, Int.add_mul]
    have e : prodL [l[k]] g y = l[k].2 * g (y - l[k].1) := by simp [prodL]
    rw [e]
    have e1 : ((l[k].2 * g (y - l[k].1)).natAbs : Int) ≤ absI l[k].2 * (H : Int) := by
      have h : (l[k].2 * g (y - l[k].1)).natAbs ≤ l[k].2.natAbs * H := by
        rw [Int.natAbs_mul]
        exact Nat.mul_le_mul (Nat.le_refl _) (hg _)
      have ha : absI l[k].2 = (l[k].2.natAbs : Int) := by unfold absI; split <;> omega
      rw [ha, ← Int.natCast_mul]
      exact Int.ofNat_le.2 h
    have e2 := Int.natAbs_add_le (prodL (l.take k) g y) (l[k].2 * g (y - l[k].1))
    omega

theorem prodL_100 (l : List (Int × Int)) (hl : sizeL l ≤ 100) (g : Int → Int) (H : Nat) (hg : ∀ x, (g x).natAbs ≤ H) (y : Int) : (prodL l g y).natAbs ≤ 100 * H := by
  have h := prodL_abs l g H hg y l.length (Nat.le_refl _)
  rw [List.take_length] at h
  have h2 : sizeTo l l.length * (H : Int) ≤ 100 * (H : Int) := Int.mul_le_mul_of_nonneg_right hl (by omega)
  omega

theorem sumE_abs (b : Nat → List (Int × Int)) (h : List Nat → Int → Int) (H : Nat) (ps : List (Int × Nat × List Nat)) (hp : ∀ p ∈ ps, p.1.natAbs ≤ 1 ∧ sizeL (b p.2.1) ≤ 100 ∧ ∀ x, (h p.2.2 x).natAbs ≤ H) (y : Int) :
    (sumE b h ps y).natAbs ≤ ps.length * (100 * H) := by
  induction ps with
  | nil => simp [sumE]
  | cons p ps ih =>
    have h1 := hp p (by simp)
    have h2 := ih fun q hq => hp q (by simp [hq])
    have h3 := prodL_100 (b p.2.1) h1.2.1 (h p.2.2) H h1.2.2 y
    have h4 : (p.1 * prodL (b p.2.1) (h p.2.2) y).natAbs ≤ 1 * (100 * H) := by
      rw [Int.natAbs_mul]
      exact Nat.mul_le_mul h1.1 h3
    have h5 := Int.natAbs_add_le (p.1 * prodL (b p.2.1) (h p.2.2) y) (sumE b h ps y)
    rw [sumE, List.length_cons, Nat.add_mul]
    omega

theorem prog_mem {s m : Nat} {p : Int × Nat × List Nat} (h : p ∈ progE s m) : ∃ c, c < m ∧ (s >>> c) % 2 = 1 ∧ p = (signOf s c, c, colsOf (s - 2 ^ c)) := by
  unfold progE at h
  simp only [List.mem_map, List.mem_filter, List.mem_range, beq_iff_eq] at h
  obtain ⟨c, ⟨h1, h2⟩, h3⟩ := h
  exact ⟨c, h1, h2, h3.symm⟩
theorem prog_len : ∀ s, s < 64 → ∀ m, m < 7 → (progE s m).length ≤ onesTo s 6 := by decide +kernel
theorem sign_le (s c : Nat) : (signOf s c).natAbs ≤ 1 := by unfold signOf; split <;> decide

theorem minor_zero (T : List (List (List (Int × Int)))) : minorF T 0 = oneF := rfl

/-- The minor as the loop sums it up. -/
theorem minor_prog (T : List (List (List (Int × Int)))) (n s k : Nat) (hn : n < 7) (hs : s < 2 ^ n) (hk : onesTo s 6 = k + 1) (y : Int) :
    sumE (rowAt T k) (detE (lastRows T k)) (progE s n) y = minorF T s y := by
  rw [rowE_prog _ _ n s hn hs]
  unfold minorF
  rw [hk]
  rfl
/-- A smaller minor. -/
theorem minor_less (T : List (List (List (Int × Int)))) (s k c : Nat) (hs : s < 64) (hc : c < 6) (hb : (s >>> c) % 2 = 1) (hk : onesTo s 6 = k + 1) : detE (lastRows T k) (colsOf (s - 2 ^ c)) = minorF T (s - 2 ^ c) ∧ onesTo (s - 2 ^ c) 6 = k := by
  have h := (cols_less s hs c hc hb).2
  have e : onesTo (s - 2 ^ c) 6 = k := by omega
  unfold minorF
  rw [e]
  exact ⟨rfl, rfl⟩

theorem pow_64 {n s : Nat} (hn : n < 7) (hs : s < 2 ^ n) : s < 64 := Nat.lt_of_lt_of_le hs (Nat.pow_le_pow_right (n := 2) (by decide) (show n ≤ 6 by omega))

theorem minor_abs (T : List (List (List (Int × Int)))) (n : Nat) (hn : n < 7) (hT : ∀ i c, i < n → c < n → sizeL (rowAt T i c) ≤ 100) : ∀ s, s < 2 ^ n → ∀ y, (minorF T s y).natAbs ≤ bd (onesTo s 6) := by
  intro s
  induction s using Nat.strongRecOn with
  | ind s ih =>
    intro hs y
    have h64 := pow_64 hn hs
    rcases hk : onesTo s 6 with _ | k
    · unfold minorF
      rw [hk]
      show (oneF y).natAbs ≤ 1
      unfold oneF
      split <;> decide
    · rw [← minor_prog T n s k hn hs hk]
      have ho := (ones_le n hn s hs).1
      have h := sumE_abs (rowAt T k) (detE (lastRows T k)) (bd k) (progE s n) (fun p hp => by
        obtain ⟨c, hc, hb, rfl⟩ := prog_mem hp
        have hl := cols_less s h64 c (by omega) hb
        obtain ⟨e1, e2⟩ := minor_less T s k c h64 (by omega) hb hk
        refine ⟨sign_le s c, hT k c (by omega) hc, fun x => ?_⟩
        rw [e1]
        have := ih (s - 2 ^ c) hl.1 (by omega) x
        rw [e2] at this
        exact this) y
      have hlen := prog_len s h64 n hn
      rw [hk] at hlen
      exact Nat.le_trans h (Nat.mul_le_mul_right _ hlen)

/-- What the loop has summed up behind m columns. -/
theorem part_abs (T : List (List (List (Int × Int)))) (n : Nat) (hn : n < 7) (hT : ∀ i c, i < n → c < n → sizeL (rowAt T i c) ≤ 100) (s k m : Nat) (hs : s < 2 ^ n) (hk : onesTo s 6 = k + 1) (hm : m ≤ n) (y : Int) :
    (sumE (rowAt T k) (detE (lastRows T k)) (progE s m) y).natAbs ≤ bd (k + 1) := by
  have h64 := pow_64 hn hs
  have ho := (ones_le n hn s hs).1
  have h := sumE_abs (rowAt T k) (detE (lastRows T k)) (bd k) (progE s m) (fun p hp => by
    obtain ⟨c, hc, hb, rfl⟩ := prog_mem hp
    have hl := cols_less s h64 c (by omega) hb
    obtain ⟨e1, e2⟩ := minor_less T s k c h64 (by omega) hb hk
    refine ⟨sign_le s c, hT k c (by omega) (by omega), fun x => ?_⟩
    rw [e1]
    have := minor_abs T n hn hT (s - 2 ^ c) (by omega) x
    rw [e2] at this
    exact this) y
  have hlen := prog_len s h64 m (by omega)
  rw [hk] at hlen
  exact Nat.le_trans h (Nat.mul_le_mul_right _ hlen)

theorem bd_le : ∀ k, k < 7 → bd k ≤ 1000000000000000 ∧ (k < 6 → bd k ≤ 2000000000000) := by decide +kernel
theorem szd_le : ∀ k, k < 7 → szd k ≤ 1000000000000000 ∧ (k < 6 → szd k ≤ 10000000000000) := by decide +kernel

theorem prodL_neg (l : List (Int × Int)) (g : Int → Int) (y : Int) : prodL (negM l) g y = -prodL l g y := by
  induction l with
  | nil => rfl
  | cons t l ih =>
    have e : negM (t :: l) = (t.1, -t.2) :: negM l := rfl
    rw [e]
    simp only [prodL, ih, Int.neg_mul]
    omega
theorem sizeTo_neg (l : List (Int × Int)) (k : Nat) (hk : k ≤ l.length) : sizeTo (negM l) k = sizeTo l k := by
  induction k with
  | zero => rfl
  | succ k ih =>
    have hk' : k < l.length := by omega
    rw [sizeTo, sizeTo, ih (by omega)]
    have g : (negM l).getD k (0, 0) = ((l.getD k (0, 0)).1, -(l.getD k (0, 0)).2) := by simp [negM, List.getD, hk']
    rw [g]
    simp only [absI]
    split <;> split <;> omega
theorem sizeL_neg (l : List (Int × Int)) : sizeL (negM l) = sizeL l := by
  unfold sizeL
  have e : (negM l).length = l.length := by simp [negM]
  rw [e]
  exact sizeTo_neg l l.length (Nat.le_refl _)

theorem sum_next (b : Nat → List (Int × Int)) (h : List Nat → Int → Int) (s m : Nat) (hb : (s >>> m) % 2 = 1) (y : Int) : sumE b h (progE s (m + 1)) y = sumE b h (progE s m) y + signOf s m * prodL (b m) (h (colsOf (s - 2 ^ m))) y := by
  rw [prog_next, if_pos hb, sumE_append]
  simp [sumE]
theorem sum_skip (s m : Nat) (hb : ¬(s >>> m) % 2 = 1) : progE s (m + 1) = progE s m := by
  rw [prog_next, if_neg hb]
  simp
theorem len_next (s m : Nat) (hb : (s >>> m) % 2 = 1) : (progE s (m + 1)).length = (progE s m).length + 1 := by
  rw [prog_next, if_pos hb]
  simp

theorem lastRows_eq (T : List (List (List (Int × Int)))) (k : Nat) : lastRows T k = ((List.range k).map (rowAt T)).reverse := by
  induction k with
  | zero => rfl
  | succ k ih => simp [lastRows, ih, List.range_succ]
/-- The last minor is the determinant. -/
theorem minor_full (T : List (List (List (Int × Int)))) (n : Nat) (hn : n < 7) : minorF T (2 ^ n - 1) = detF ((List.range n).map (rowAt T)) (List.range n) := by
  have h0 : 0 < 2 ^ n := Nat.pow_pos (by decide)
  have e : onesTo (2 ^ n - 1) 6 = n := by
    have := cols_len (2 ^ n - 1) (pow_64 hn (by omega))
    rw [cols_full n hn] at this
    simpa using this.symm
  unfold minorF
  rw [e, cols_full n hn, lastRows_eq, det_same n _ _ (by simp) (by simp)]
end Go.Proofs.YthbhllomikfbhaaDoor.Poly
