/- Plain mathematics of the bracket: states that tie the same, together; one crossing more; all states. -/
import Derived.Test.YtihijieciogabaaDoorBK3P
namespace Go.Proofs.YtihijieciogabaaDoor

def exS (s : Nat) : Nat → Int
  | 0 => 0
  | k + 1 => exS s k + (if s / 2 ^ k % 2 = 1 then 1 else -1)
/-- How a state ties the first k crossings. -/
def kyS (C : List Cr) (s k : Nat) : List Nat := tieP (prS (arQ C) s) (2 * k)
/-- What it is worth. -/
def wS (C : List Cr) (c0 s k : Nat) : Int → Int := shA (exS s k) (dlN (c0 + closP (prS (arQ C) s) (2 * k)) oneA)
def mS (C : List Cr) (c0 k : Nat) (T : List Nat) : Int → Int := fun y => sumS (2 ^ k) fun s => if kyS C s k = T then wS C c0 s k y else 0
/-- A crossing undone by A, by B. -/
def t4 (T : List Nat) (p q r s : Nat) : List Nat := tieT (tieT T p q) r s
def c4 (T : List Nat) (p q r s : Nat) : Nat := tieN T p q + tieN (tieT T p q) r s
def tA (C : List Cr) (k : Nat) (T : List Nat) : List Nat := t4 T (arQ C k 0) (arQ C k 1) (arQ C k 2) (arQ C k 3)
def cA (C : List Cr) (k : Nat) (T : List Nat) : Nat := c4 T (arQ C k 0) (arQ C k 1) (arQ C k 2) (arQ C k 3)
def tB (C : List Cr) (k : Nat) (T : List Nat) : List Nat := t4 T (arQ C k 1) (arQ C k 2) (arQ C k 3) (arQ C k 0)
def cB (C : List Cr) (k : Nat) (T : List Nat) : Nat := c4 T (arQ C k 1) (arQ C k 2) (arQ C k 3) (arQ C k 0)
theorem c4_le (T : List Nat) (p q r s : Nat) : c4 T p q r s ≤ 2 := by
  unfold c4 tieN; split <;> split <;> omega
theorem ex_low {k s : Nat} : ∀ j, j ≤ k → exS (2 ^ k + s) j = exS s j
  | 0, _ => rfl
  | j + 1, h => by
    show exS (2 ^ k + s) j + _ = exS s j + _
    rw [ex_low j (by omega), bit_lo (by omega : j < k)]
theorem ky_low (C : List Cr) {k s j : Nat} (h : j ≤ k) : kyS C (2 ^ k + s) j = kyS C s j := (tie_congr (2 * j) fun i hi => pr_low _ (by omega)).1
theorem clos_low (C : List Cr) {k s j : Nat} (h : j ≤ k) : closP (prS (arQ C) (2 ^ k + s)) (2 * j) = closP (prS (arQ C) s) (2 * j) := (tie_congr (2 * j) fun i hi => pr_low _ (by omega)).2.1
theorem w_low (C : List Cr) (c0 : Nat) {k s j : Nat} (h : j ≤ k) : wS C c0 (2 ^ k + s) j = wS C c0 s j := by
  unfold wS; rw [ex_low j h, clos_low C h]
theorem ky_next (C : List Cr) (s k : Nat) : kyS C s (k + 1) = if s / 2 ^ k % 2 = 1 then tA C k (kyS C s k) else tB C k (kyS C s k) := by
  unfold kyS tA tB t4
  rw [show 2 * (k + 1) = 2 * k + 1 + 1 by omega]
  show tieT (tieT (tieP _ (2 * k)) (prS _ s (2 * k)).1 (prS _ s (2 * k)).2) (prS _ s (2 * k + 1)).1 (prS _ s (2 * k + 1)).2 = _
  rw [pr_lo, pr_hi]
  by_cases h : s / 2 ^ k % 2 = 1
  · simp only [if_pos h]
  · simp only [if_neg h]
theorem clos_next (C : List Cr) (s k : Nat) : closP (prS (arQ C) s) (2 * (k + 1)) = closP (prS (arQ C) s) (2 * k) + if s / 2 ^ k % 2 = 1 then cA C k (kyS C s k) else cB C k (kyS C s k) := by
  unfold kyS cA cB c4
  rw [show 2 * (k + 1) = 2 * k + 1 + 1 by omega]
  show closP _ (2 * k) + tieN (tieP _ (2 * k)) (prS _ s (2 * k)).1 (prS _ s (2 * k)).2 + tieN (tieT (tieP _ (2 * k)) (prS _ s (2 * k)).1 (prS _ s (2 * k)).2) (prS _ s (2 * k + 1)).1 (prS _ s (2 * k + 1)).2 = _
  rw [pr_lo, pr_hi]
  by_cases h : s / 2 ^ k % 2 = 1
  · simp only [if_pos h]; omega
  · simp only [if_neg h]; omega
theorem w_next (C : List Cr) (c0 s k : Nat) : wS C c0 s (k + 1) = if s / 2 ^ k % 2 = 1 then dlN (cA C k (kyS C s k)) (shA 1 (wS C c0 s k)) else dlN (cB C k (kyS C s k)) (shA (-1) (wS C c0 s k)) := by
  unfold wS
  rw [clos_next]
  show shA (exS s k + _) _ = _
  by_cases h : s / 2 ^ k % 2 = 1
  · simp only [if_pos h]
    rw [sh_sh, dlN_sh, dlN_add, Int.add_comm 1]
    congr 2; omega
  · simp only [if_neg h]
    rw [sh_sh, dlN_sh, dlN_add, Int.add_comm (-1)]
    congr 2; omega
/-- What comes of states that ties a test lets by. -/
def undF (C : List Cr) (c0 k : Nat) (U : List Nat) (y : Int) (s : Nat) : Int :=
  (if tA C k (kyS C s k) = U then dlN (cA C k (kyS C s k)) (shA 1 (wS C c0 s k)) y else 0) + (if tB C k (kyS C s k) = U then dlN (cB C k (kyS C s k)) (shA (-1) (wS C c0 s k)) y else 0)
def undG (C : List Cr) (c0 k : Nat) (dn : List Nat → Bool) (U : List Nat) : Int → Int := fun y => sumS (2 ^ k) fun s => if dn (kyS C s k) = true then undF C c0 k U y s else 0
theorem undG_all (C : List Cr) (c0 k : Nat) (U : List Nat) {dn : List Nat → Bool} (h : ∀ s, s < 2 ^ k → dn (kyS C s k) = true) : undG C c0 k dn U = mS C c0 (k + 1) U := by
  funext y
  unfold mS undG
  rw [sumS_two]
  refine sumS_congr fun s hs => ?_
  rw [if_pos (h s hs)]
  unfold undF
  have b0 : ¬ s / 2 ^ k % 2 = 1 := by rw [bit_off hs]; decide
  have k0 : kyS C s (k + 1) = tB C k (kyS C s k) := by rw [ky_next, if_neg b0]
  have w0 : wS C c0 s (k + 1) = dlN (cB C k (kyS C s k)) (shA (-1) (wS C c0 s k)) := by rw [w_next, if_neg b0]
  have k1 : kyS C (2 ^ k + s) (k + 1) = tA C k (kyS C s k) := by rw [ky_next, if_pos (bit_hi hs), ky_low C (Nat.le_refl k)]
  have w1 : wS C c0 (2 ^ k + s) (k + 1) = dlN (cA C k (kyS C s k)) (shA 1 (wS C c0 s k)) := by rw [w_next, if_pos (bit_hi hs), ky_low C (Nat.le_refl k), w_low C c0 (Nat.le_refl k)]
  rw [k0, w0, k1, w1]
  omega
theorem dlN_if (c n : Nat) (P : Nat → Prop) [∀ s, Decidable (P s)] (F : Nat → Int → Int) : dlN c (fun y => sumS n fun s => if P s then F s y else 0) = fun y => sumS n fun s => if P s then dlN c (F s) y else 0 := by
  have e : (fun y => sumS n fun s => if P s then F s y else 0) = fun y => sumS n fun s => (if P s then F s else fun _ => 0) y := by
    funext y; refine sumS_congr fun s _ => ?_; split <;> rfl
  have z : ∀ c, dlN c (fun _ => 0) = fun _ => 0 := by
    intro c
    induction c with
    | zero => rfl
    | succ c ih => show dlA (dlN c _) = _; rw [ih]; rfl
  rw [e, dlN_sum]
  funext y
  refine sumS_congr fun s _ => ?_
  by_cases h : P s
  · rw [if_pos h, if_pos h]
  · rw [if_neg h, if_neg h, z]
theorem undG_step (C : List Cr) (c0 k : Nat) (U T : List Nat) {dn dn' : List Nat → Bool} (h0 : dn T = false) (h : ∀ s, dn' (kyS C s k) = true ↔ dn (kyS C s k) = true ∨ kyS C s k = T) (y : Int) :
    undG C c0 k dn' U y = undG C c0 k dn U y + (if tA C k T = U then dlN (cA C k T) (shA 1 (mS C c0 k T)) y else 0) + (if tB C k T = U then dlN (cB C k T) (shA (-1) (mS C c0 k T)) y else 0) := by
  unfold undG
  rw [sumS_more (F := undF C c0 k U y) (P := fun s => dn (kyS C s k)) (Q := fun s => decide (kyS C s k = T)) (R := fun s => dn' (kyS C s k)) (fun s _ => by rw [h s]; simp) (fun s _ e => by have := of_decide_eq_true e.2; rw [this, h0] at e; simp at e)]
  rw [Int.add_assoc]
  congr 1
  have hs : ∀ e, shA e (mS C c0 k T) = fun y => sumS (2 ^ k) fun s => if kyS C s k = T then shA e (wS C c0 s k) y else 0 := fun e => rfl
  rw [hs, hs, dlN_if, dlN_if]
  by_cases h1 : tA C k T = U <;> by_cases h2 : tB C k T = U
  · rw [if_pos h1, if_pos h2, ← sumS_add]
    refine sumS_congr fun s _ => ?_
    by_cases e : kyS C s k = T
    · unfold undF; rw [e]; simp [h1, h2]
    · simp [e]
  · rw [if_pos h1, if_neg h2, Int.add_zero]
    refine sumS_congr fun s _ => ?_
    by_cases e : kyS C s k = T
    · unfold undF; rw [e]; simp [h1, h2]
    · simp [e]
  · rw [if_neg h1, if_pos h2, Int.zero_add]
    refine sumS_congr fun s _ => ?_
    by_cases e : kyS C s k = T
    · unfold undF; rw [e]; simp [h1, h2]
    · simp [e]
  · rw [if_neg h1, if_neg h2]
    rw [show (0 : Int) + 0 = sumS (2 ^ k) (fun _ => 0) from (sumS_zero _).symm]
    refine sumS_congr fun s _ => ?_
    by_cases e : kyS C s k = T
    · unfold undF; rw [e]; simp [h1, h2]
    · simp [e]
theorem undG_none (C : List Cr) (c0 k : Nat) (U : List Nat) {dn : List Nat → Bool} (h : ∀ s, s < 2 ^ k → dn (kyS C s k) = false) (y : Int) : undG C c0 k dn U y = 0 := by
  unfold undG
  rw [sumS_congr (g := fun _ => 0) fun s hs => by rw [h s hs]; rfl, sumS_zero]
/-- All of them, as far as a test lets them by. -/
def allG (C : List Cr) (c0 k : Nat) (dn : List Nat → Bool) : Int → Int := fun y => sumS (2 ^ k) fun s => if dn (kyS C s k) = true then wS C c0 s k y else 0
def allS (C : List Cr) (c0 k : Nat) : Int → Int := fun y => sumS (2 ^ k) fun s => wS C c0 s k y
theorem allG_all (C : List Cr) (c0 k : Nat) {dn : List Nat → Bool} (h : ∀ s, s < 2 ^ k → dn (kyS C s k) = true) : allG C c0 k dn = allS C c0 k := by
  funext y; exact sumS_congr fun s hs => by rw [if_pos (h s hs)]
theorem allG_none (C : List Cr) (c0 k : Nat) {dn : List Nat → Bool} (h : ∀ s, s < 2 ^ k → dn (kyS C s k) = false) (y : Int) : allG C c0 k dn y = 0 := by
  unfold allG
  rw [sumS_congr (g := fun _ => 0) fun s hs => by rw [h s hs]; rfl, sumS_zero]
theorem allG_step (C : List Cr) (c0 k : Nat) (T : List Nat) {dn dn' : List Nat → Bool} (h0 : dn T = false) (h : ∀ s, dn' (kyS C s k) = true ↔ dn (kyS C s k) = true ∨ kyS C s k = T) (y : Int) : allG C c0 k dn' y = allG C c0 k dn y + mS C c0 k T y := by
  unfold allG mS
  rw [sumS_more (F := fun s => wS C c0 s k y) (P := fun s => dn (kyS C s k)) (Q := fun s => decide (kyS C s k = T)) (R := fun s => dn' (kyS C s k)) (fun s _ => by rw [h s]; simp) (fun s _ e => by have := of_decide_eq_true e.2; rw [this, h0] at e; simp at e)]
  congr 1
  exact sumS_congr fun s _ => by simp
/-- Bounds. -/
theorem clos_le (C : List Cr) (s : Nat) : ∀ k, closP (prS (arQ C) s) (2 * k) ≤ 2 * k
  | 0 => Nat.le_refl _
  | k + 1 => by
    have := clos_le C s k
    have a := c4_le (kyS C s k) (arQ C k 0) (arQ C k 1) (arQ C k 2) (arQ C k 3)
    have b := c4_le (kyS C s k) (arQ C k 1) (arQ C k 2) (arQ C k 3) (arQ C k 0)
    rw [clos_next]; unfold cA cB; split <;> omega
theorem w_bd (C : List Cr) (c0 s k : Nat) (y : Int) : (wS C c0 s k y).natAbs ≤ 2 ^ (c0 + 2 * k) := by
  have h := dlN_bd one_bd (c0 + closP (prS (arQ C) s) (2 * k)) (y - exS s k)
  rw [Nat.mul_one] at h
  exact Nat.le_trans h (Nat.pow_le_pow_right (by omega) (by have := clos_le C s k; omega))
theorem ex_bd (s : Nat) : ∀ k : Nat, -(k : Int) ≤ exS s k ∧ exS s k ≤ k
  | 0 => ⟨Int.le_refl _, Int.le_refl _⟩
  | k + 1 => by
    have := ex_bd s k
    show -((k + 1 : Nat) : Int) ≤ exS s k + _ ∧ exS s k + _ ≤ ((k + 1 : Nat) : Int)
    split <;> omega
theorem w_in (C : List Cr) (c0 s k : Nat) : InA (wS C c0 s k) (2 * c0 + 5 * k) := by
  intro y hy
  have h := InA.one.dlN (c0 + closP (prS (arQ C) s) (2 * k)) _ hy
  have a := ex_bd s k
  have b := clos_le C s k
  omega
theorem m_bd (C : List Cr) (c0 k : Nat) (T : List Nat) (y : Int) : (mS C c0 k T y).natAbs ≤ 2 ^ (c0 + 3 * k) := by
  refine Nat.le_trans (sumS_bd (H := 2 ^ (c0 + 2 * k)) fun s _ => ?_) ?_
  · by_cases e : kyS C s k = T
    · rw [if_pos e]; exact w_bd C c0 s k y
    · rw [if_neg e]; exact Nat.zero_le _
  · rw [← Nat.pow_add]; exact Nat.pow_le_pow_right (by omega) (by omega)
theorem sum_in {n K : Nat} {F : Nat → Int → Int} (h : ∀ s, s < n → InA (F s) K) : InA (fun y => sumS n fun s => F s y) K := by
  intro y hy
  apply Classical.byContradiction
  intro hn
  refine hy ?_
  show sumS n (fun s => F s y) = 0
  rw [sumS_congr (g := fun _ => 0) fun s hs => Classical.byContradiction fun e => hn (h s hs y e), sumS_zero]
theorem if_in {K : Nat} {F : Int → Int} {P : Prop} [Decidable P] (h : InA F K) : InA (fun y => if P then F y else 0) K := by
  intro y hy
  by_cases e : P
  · exact h y (by simpa [e] using hy)
  · simp [e] at hy
theorem m_in (C : List Cr) (c0 k : Nat) (T : List Nat) : InA (mS C c0 k T) (2 * c0 + 5 * k) := sum_in fun s _ => if_in (w_in C c0 s k)
theorem dlw_bd (C : List Cr) (c0 s k c : Nat) (e : Int) (hc : c ≤ 2) (y : Int) : (dlN c (shA e (wS C c0 s k)) y).natAbs ≤ 2 ^ (c0 + 2 * k + 2) := by
  have h := dlN_bd (f := shA e (wS C c0 s k)) (H := 2 ^ (c0 + 2 * k)) (fun y => w_bd C c0 s k (y - e)) c y
  rw [← Nat.pow_add] at h
  exact Nat.le_trans h (Nat.pow_le_pow_right (by omega) (by omega))
theorem undG_bd (C : List Cr) (c0 k : Nat) (dn : List Nat → Bool) (U : List Nat) (y : Int) : (undG C c0 k dn U y).natAbs ≤ 2 ^ (c0 + 3 * k + 3) := by
  refine Nat.le_trans (sumS_bd (H := 2 ^ (c0 + 2 * k + 3)) fun s _ => ?_) ?_
  · have a := dlw_bd C c0 s k (cA C k (kyS C s k)) 1 (c4_le _ _ _ _ _) y
    have b := dlw_bd C c0 s k (cB C k (kyS C s k)) (-1) (c4_le _ _ _ _ _) y
    have e : 2 ^ (c0 + 2 * k + 3) = 2 ^ (c0 + 2 * k + 2) + 2 ^ (c0 + 2 * k + 2) := by rw [Nat.pow_succ]; omega
    unfold undF
    split
    · split <;> split <;> omega
    · exact Nat.zero_le _
  · rw [← Nat.pow_add]; exact Nat.pow_le_pow_right (by omega) (by omega)
theorem dlw_in (C : List Cr) (c0 s k c : Nat) (e : Int) (hc : c ≤ 2) (he : e = 1 ∨ e = -1) : InA (dlN c (shA e (wS C c0 s k))) (2 * c0 + 5 * (k + 1)) := by
  intro y hy
  have := ((w_in C c0 s k).sh he).dlN c y hy
  omega
theorem add_in {K : Nat} {F G : Int → Int} (h : InA F K) (h2 : InA G K) : InA (fun y => F y + G y) K := by
  intro y hy
  by_cases e : F y = 0
  · exact h2 y (fun e2 => hy (by show F y + G y = 0; omega))
  · exact h y e
theorem undG_in (C : List Cr) (c0 k : Nat) (dn : List Nat → Bool) (U : List Nat) : InA (undG C c0 k dn U) (2 * c0 + 5 * (k + 1)) :=
  sum_in fun s _ => if_in (add_in (if_in (dlw_in C c0 s k _ 1 (c4_le _ _ _ _ _) (Or.inl rfl))) (if_in (dlw_in C c0 s k _ (-1) (c4_le _ _ _ _ _) (Or.inr rfl))))
theorem allG_bd (C : List Cr) (c0 k : Nat) (dn : List Nat → Bool) (y : Int) : (allG C c0 k dn y).natAbs ≤ 2 ^ (c0 + 3 * k) := by
  refine Nat.le_trans (sumS_bd (H := 2 ^ (c0 + 2 * k)) fun s _ => ?_) ?_
  · split
    · exact w_bd C c0 s k y
    · exact Nat.zero_le _
  · rw [← Nat.pow_add]; exact Nat.pow_le_pow_right (by omega) (by omega)
theorem allG_in (C : List Cr) (c0 k : Nat) (dn : List Nat → Bool) : InA (allG C c0 k dn) (2 * c0 + 5 * k) := sum_in fun s _ => if_in (w_in C c0 s k)
/-- The bracket as the document tells it: states, and rings by labels. -/
def rgS (C : List Cr) (loops s : Nat) : Nat := 2 * C.length + loops - joinP (prS (arN C) s) (2 * C.length)
def brS (C : List Cr) (loops : Nat) : Int → Int := fun y => sumS (2 ^ C.length) fun s => shA (exS s C.length) (dlN (rgS C loops s - 1) oneA) y
theorem br_same {C : List Cr} {l : Int} {loops : Nat} (hm : mayD C l = true) (_hl : l = loops) (h12 : C.length ≤ 12) : allS C (if C.length = 0 then loops - 1 else loops) C.length = brS C loops := by
  funext y
  refine sumS_congr fun s _ => ?_
  unfold wS rgS
  by_cases h0 : C.length = 0
  · rw [if_pos h0, h0]
    have e1 : loops - 1 + closP (prS (arQ C) s) (2 * 0) = loops - 1 := rfl
    have e2 : 2 * 0 + loops - joinP (prS (arN C) s) (2 * 0) - 1 = loops - 1 := by
      have : joinP (prS (arN C) s) (2 * 0) = 0 := rfl
      rw [this]; omega
    rw [e1, e2]
  · rw [if_neg h0]
    have h := rings_cut hm h12 (by omega) s
    congr 2; congr 1; omega
end Go.Proofs.YtihijieciogabaaDoor
