/- Goeritz's table: a sum of squares with signs, and how great what is reckoned of it becomes; plain mathematics. -/
import Derived.Test.YtlcogbcpmneknaaSYe
import Derived.Test.YtlcogbcpmneknaaSG7P
namespace Go.Proofs.Ytlcogbcpmneknaa

theorem goS_is (T : Nat → Nat → Int) (i j : Nat) (v : Int) (a b : Nat) : goS T i j v a b = T a b + v * (dlU (i, j) a * dlU (i, j) b) := by
  have e : ∀ x : Nat, dlU (i, j) x = (if x = i then 1 else 0) - (if x = j then 1 else 0) := fun _ => rfl
  unfold goS
  by_cases h : i = j
  · rw [if_pos h, e a, h]; simp
  · rw [if_neg h, e a, e b]
    unfold goD goC goB goA up1
    have h' : ¬ j = i := Ne.symm h
    by_cases a1 : a = i <;> by_cases a2 : a = j <;> by_cases b1 : b = i <;> by_cases b2 : b = j <;> (try (exfalso; omega)) <;> simp [a1, a2, b1, b2, h, h'] <;> omega
/-- The faces of a crossing, by their places, the first face left out. -/
def goU (C : List Cr) (s : Nat → Nat) (sh c x : Nat) : Int := dlU (cnS s sh (woM C s c sh).2.1, cnS s sh (woM C s c sh).2.2) (x + 1)
def goW (C : List Cr) (s : Nat → Nat) (sh c : Nat) : Int := (woM C s c sh).1
theorem goT_tU (C : List Cr) (s : Nat → Nat) (sh : Nat) : ∀ m i j, goT C s sh m (i + 1) (j + 1) = tU (goW C s sh) (goU C s sh) m i j
  | 0, _, _ => rfl
  | m + 1, i, j => by
    show goS (goT C s sh m) _ _ _ (i + 1) (j + 1) = tU _ _ m i j + _
    rw [goS_is, goT_tU C s sh m i j]
    rfl
theorem goU_gd (C : List Cr) (s : Nat → Nat) (sh m : Nat) : Gd m 0 (goU C s sh) := fun S I _ hI => by
  have e := dZ_map (· + 1) ((S.map fun c => (cnS s sh (woM C s c sh).2.1, cnS s sh (woM C s c sh).2.2)).map dlU) I
  have e2 : S.map (goU C s sh) = ((S.map fun c => (cnS s sh (woM C s c sh).2.1, cnS s sh (woM C s c sh).2.2)).map dlU).map fun r c => r (c + 1) := by
    rw [List.map_map, List.map_map]; rfl
  rw [e2, ← e]
  exact tu_one _ _ (List.pairwise_map.2 (hI.imp fun hab q => hab (by omega)))
theorem goW_one (C : List Cr) (s : Nat → Nat) (sh c : Nat) : goW C s sh c = 1 ∨ goW C s sh c = -1 := woM_one C s c sh
theorem dl_sum (i j n : Nat) : ((List.range n).map fun x => (dlU (i, j) (x + 1)).natAbs).sum ≤ 2 := by
  have key : ((List.range n).map fun x => (dlU (i, j) (x + 1)).natAbs).sum ≤ (if i ≤ n then 1 else 0) + if j ≤ n then 1 else 0 := by
    induction n with
    | zero => exact Nat.zero_le _
    | succ n ih =>
      rw [List.range_succ, List.map_append, List.sum_append]
      simp only [List.map_cons, List.map_nil, List.sum_cons, List.sum_nil]
      have e : (dlU (i, j) (n + 1)).natAbs ≤ (if i = n + 1 then 1 else 0) + if j = n + 1 then 1 else 0 := by
        show ((if n + 1 = i then (1 : Int) else 0) - (if n + 1 = j then 1 else 0)).natAbs ≤ _
        by_cases h1 : n + 1 = i <;> by_cases h2 : n + 1 = j
        · rw [if_pos h1, if_pos h2]; exact Nat.zero_le _
        · rw [if_pos h1, if_neg h2, if_pos h1.symm]; omega
        · rw [if_neg h1, if_pos h2, if_pos h2.symm]; omega
        · rw [if_neg h1, if_neg h2]; exact Nat.zero_le _
      have st : ∀ y : Nat, (if y ≤ n + 1 then 1 else 0) = (if y ≤ n then 1 else 0) + if y = n + 1 then 1 else 0 := fun y => by
        by_cases q : y ≤ n
        · rw [if_pos q, if_pos (by omega), if_neg (by omega)]
        · by_cases r : y = n + 1
          · rw [if_neg q, if_pos r, if_pos (by omega)]
          · rw [if_neg q, if_neg r, if_neg (by omega)]
      have s1 := st i
      have s2 := st j
      omega
  refine Nat.le_trans key ?_
  split <;> split <;> omega
/-- How many crossings a face has. -/
def dgU (U : Nat → Nat → Int) : Nat → Nat → Nat
  | 0, _ => 0
  | m + 1, i => dgU U m i + (U m i).natAbs
theorem sum_addN {α : Type} (f g : α → Nat) : ∀ l : List α, (l.map fun x => f x + g x).sum = (l.map f).sum + (l.map g).sum
  | [] => rfl
  | x :: l => by rw [List.map_cons, List.sum_cons, List.map_cons, List.sum_cons, List.map_cons, List.sum_cons, sum_addN f g l]; omega
theorem sum_leN {α : Type} (f g : α → Nat) : ∀ l : List α, (∀ x, f x ≤ g x) → (l.map f).sum ≤ (l.map g).sum
  | [], _ => Nat.le_refl _
  | x :: l, h => by
    have := sum_leN f g l h
    have := h x
    rw [List.map_cons, List.sum_cons, List.map_cons, List.sum_cons]; omega
theorem sum_mulN {α : Type} (k : Nat) (f : α → Nat) : ∀ l : List α, (l.map fun x => k * f x).sum = k * (l.map f).sum
  | [] => rfl
  | x :: l => by rw [List.map_cons, List.sum_cons, List.map_cons, List.sum_cons, sum_mulN k f l, Nat.mul_add]
theorem row_le {w : Nat → Int} {U : Nat → Nat → Int} {n : Nat} (hw : ∀ c, w c = 1 ∨ w c = -1) (hU : ∀ c, ((List.range n).map fun x => (U c x).natAbs).sum ≤ 2) (i : Nat) : ∀ m, ((List.range n).map fun x => (tU w U m i x).natAbs).sum ≤ 2 * dgU U m i
  | 0 => by
    have : ∀ l : List Nat, (l.map fun x => (tU w U 0 i x).natAbs).sum = 0 := fun l => by
      induction l with
      | nil => rfl
      | cons x l ih => rw [List.map_cons, List.sum_cons, ih]; rfl
    rw [this]; exact Nat.zero_le _
  | m + 1 => by
    have ih := row_le hw hU i m
    have e : ∀ x, (tU w U (m + 1) i x).natAbs ≤ (tU w U m i x).natAbs + (U m i).natAbs * (U m x).natAbs := fun x => by
      show (tU w U m i x + w m * (U m i * U m x)).natAbs ≤ _
      have e1 : (w m * (U m i * U m x)).natAbs = (U m i).natAbs * (U m x).natAbs := by
        rw [Int.natAbs_mul, Int.natAbs_mul]
        rcases hw m with q | q <;> rw [q] <;> exact Nat.one_mul _
      omega
    refine Nat.le_trans (sum_leN _ _ _ e) ?_
    rw [sum_addN, sum_mulN]
    have := Nat.mul_le_mul_left (U m i).natAbs (hU m)
    show _ ≤ 2 * (dgU U m i + (U m i).natAbs)
    omega
theorem dg_sum {U : Nat → Nat → Int} {n : Nat} (hU : ∀ c, ((List.range n).map fun x => (U c x).natAbs).sum ≤ 2) : ∀ m, ((List.range n).map fun i => dgU U m i).sum ≤ 2 * m
  | 0 => by
    have : ∀ l : List Nat, (l.map fun i => dgU U 0 i).sum = 0 := fun l => by
      induction l with
      | nil => rfl
      | cons x l ih => rw [List.map_cons, List.sum_cons, ih]; rfl
    rw [this]; exact Nat.zero_le _
  | m + 1 => by
    have ih := dg_sum hU m
    have h := hU m
    show ((List.range n).map fun i => dgU U m i + (U m i).natAbs).sum ≤ _
    have e := sum_addN (fun i => dgU U m i) (fun i => (U m i).natAbs) (List.range n)
    omega
theorem three_le (d : Nat) : 1 + 2 * d ≤ 3 ^ d := by
  induction d with
  | zero => exact Nat.le_refl _
  | succ d ih => rw [Nat.pow_succ]; omega
theorem fold_pow {α : Type} (f : α → Nat) : ∀ l : List α, (l.map fun x => 3 ^ f x).foldr (· * ·) 1 = 3 ^ (l.map f).sum
  | [] => rfl
  | x :: l => by
    rw [List.map_cons, List.map_cons, List.sum_cons, Nat.pow_add, ← fold_pow f l]; rfl
theorem bd_small {w : Nat → Int} {U : Nat → Nat → Int} {n m : Nat} (hw : ∀ c, w c = 1 ∨ w c = -1) (hU : ∀ c, ((List.range n).map fun x => (U c x).natAbs).sum ≤ 2) (hm : m ≤ 16) (hn : n ≤ 100) : n * bdC n (tU w U m) ≤ 9223372036854775807 := by
  have h1 : bdC n (tU w U m) ≤ 3 ^ (2 * m) := by
    refine Nat.le_trans (fold_mono _ (fun i => 3 ^ dgU U m i) _ fun i _ => ?_) ?_
    · exact Nat.le_trans (Nat.add_le_add_left (row_le hw hU i m) 1) (three_le _)
    · rw [fold_pow]
      exact Nat.pow_le_pow_right (by omega) (dg_sum hU m)
  have h2 : 3 ^ (2 * m) ≤ 3 ^ 32 := Nat.pow_le_pow_right (by omega) (by omega)
  have h3 : (3 : Nat) ^ 32 = 1853020188851841 := by decide
  have := Nat.mul_le_mul hn (Nat.le_trans h1 h2)
  omega
/-- The determinant, by squares: as the program has it and as elimination leaves it. -/
theorem dn_range (n : Nat) : (List.range n).Perm (dn n) := (List.perm_ext_iff_of_nodup List.nodup_range (dn_nodup n)).2 fun x => by rw [List.mem_range, dn_mem]
theorem sq_abs {a b : Int} (h : a.natAbs = b.natAbs) : a * a = b * b := by
  rcases Int.natAbs_eq_natAbs_iff.1 h with q | q <;> rw [q]
  rw [Int.neg_mul_neg]
theorem wS_neg (w : Nat → Int) : ∀ S : List Nat, wS (fun c => -w c) S = sgZ S.length * wS w S
  | [] => rfl
  | c :: S => by
    show -w c * wS (fun c => -w c) S = -sgZ S.length * (w c * wS w S)
    rw [wS_neg w S]; grind
theorem det_abs (w : Nat → Int) (U : Nat → Nat → Int) (m n : Nat) : (dZ ((List.range n).map fun i c => -tU w U m i c) (List.range n)).natAbs = (ld (tU w U m) n).natAbs := by
  have e1 : (List.range n).map (fun i c => -tU w U m i c) = (List.range n).map (tU (fun c => -w c) U m) := List.map_congr_left fun i _ => funext fun c => by
    unfold tU
    have := si_mul m (-1) fun k => w k * (U k i * U k c)
    rw [show -(si m fun k => w k * (U k i * U k c)) = -1 * si m fun k => w k * (U k i * U k c) by omega, ← this]
    exact si_congr fun k _ => by grind
  rw [e1, cauchy, List.length_range]
  unfold ld
  rw [cauchy, dn_len]
  have e2 : (sS m n fun S => wS (fun c => -w c) S * (dZ (S.map U) (List.range n) * dZ (S.map U) (List.range n))) = sgZ n * sS m n fun S => wS w S * (dZ (S.map U) (dn n) * dZ (S.map U) (dn n)) := by
    rw [← sS_mul]
    refine sS_ext _ _ _ _ fun S hS _ => ?_
    rw [wS_neg, hS, sq_abs (dZ_perm (S.map U) (dn_range n)), Int.mul_assoc]
  rw [e2, abs_sg]
theorem Elm.det_is {n m0 k t : Nat} {w : Nat → Int} {U0 M U : Nat → Nat → Int} {b sg : Int} {π : Nat → Rat} {Y X : Nat → Nat → Rat} (h : Elm n m0 w U0 k t M b sg U π Y X) : ld (tU w U m0) n = ld (tU w U0 m0) n := by
  unfold ld
  rw [cauchy, cauchy, dn_len]
  exact sS_ext _ _ _ _ fun S _ _ => by rw [sq_abs (h.det S)]
/-- WHAT ELIMINATION ENDS WITH IS WHAT THE PROGRAM TELLS. -/
theorem Elm.ends {n m0 k t : Nat} {w : Nat → Int} {U0 M U : Nat → Nat → Int} {b sg : Int} {π : Nat → Rat} {Y X : Nat → Nat → Rat} (h : Elm n m0 w U0 k t M b sg U π Y X) (hw : ∀ c, w c = 1 ∨ w c = -1) (hU : ∀ c, ((List.range n).map fun x => (U0 c x).natAbs).sum ≤ 2) (hm : m0 ≤ 16) (hn : n ≤ 100) (hz : ∀ i j, k ≤ i → i < n → k ≤ j → j < n → M i j = 0) :
    sg = sgV (sqC (tU w U0 m0) n) (n + 1) ∧ (sqC (tU w U0 m0) n n).natAbs = (if k = n then b else 0).natAbs := by
  obtain ⟨π', c1, c2, c3⟩ := h.done hz
  obtain ⟨s1, s2, s3⟩ := sig_is (n := n) (A := tU w U0 m0) (fun i j _ _ => si_congr fun c _ => by rw [Int.mul_comm (U0 c i)]) (bd_small hw hU hm hn) c1
  refine ⟨by rw [s1, c2], ?_⟩
  by_cases q : k = n
  · rw [if_pos q, s2, det_abs, ← h.det_is, h.lead, q]
  · rw [if_neg q]
    have e : sqC (tU w U0 m0) n n = 0 := Classical.byContradiction fun hc => by
      have e1 : sgQ (sqC (tU w U0 m0) n) (n + 1) = if sqC (tU w U0 m0) n n = 0 then sgQ (sqC (tU w U0 m0) n) n else (_, n, _) := rfl
      rw [e1, if_neg hc] at s3
      have s4 : n = _ := s3
      rw [c3] at s4
      exact q s4.symm
    rw [e]
end Go.Proofs.Ytlcogbcpmneknaa
