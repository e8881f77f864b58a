/- Descartes: how often the signs of the coefficients change, where the roots are known; plain mathematics. -/
import Derived.Test.YtlcogbcpmneknaaSY0
namespace Go.Proofs.Ytlcogbcpmneknaa

/-- How many signs have changed, the last power that is there, its sign: of the first i. -/
def scn (f : Nat → Int) : Nat → Nat × Nat × Int
  | 0 => (0, 0, 1)
  | i + 1 => if f i = 0 then scn f i else ((scn f i).1 + (if f i = (scn f i).2.2 then 0 else 1), i, f i)
def altS (f : Nat → Int) (k : Nat) : Int := if k % 2 = 0 then f k else -f k
def Tri (f : Nat → Int) : Prop := ∀ k, f k = 1 ∨ f k = -1 ∨ f k = 0
theorem scn_tri {f : Nat → Int} (h : Tri f) : ∀ i, (scn f i).2.2 = 1 ∨ (scn f i).2.2 = -1
  | 0 => Or.inl rfl
  | i + 1 => by
    have := scn_tri h i
    have := h i
    unfold scn
    split
    · assumption
    · simp only; omega
/-- One root above nought more: one change more at least. -/
theorem scn_step {β β' : Nat → Int} (h0 : β 0 = 1) (h0' : β' 0 = 1) (hr : Tri β) (hr' : Tri β')
    (h1 : ∀ k u, (u = 1 ∨ u = -1) → (β (k + 1) = 0 ∨ β (k + 1) = u) → (β k = 0 ∨ β k = -u) → (β (k + 1) ≠ 0 ∨ β k ≠ 0) → β' (k + 1) = u) :
    ∀ k, (scn β (k + 1)).1 ≤ (scn β' (k + 1)).1 ∧ (β k = 0 ∨ β k = (scn β (k + 1)).2.2) ∧ ((scn β' (k + 1)).1 = (scn β (k + 1)).1 → (scn β' (k + 1)).2.2 = (scn β (k + 1)).2.2 ∧ β k = (scn β (k + 1)).2.2)
  | 0 => by simp [scn, h0, h0']
  | k + 1 => by
    obtain ⟨i1, i2, i3⟩ := scn_step h0 h0' hr hr' h1 k
    have t1 := scn_tri hr (k + 1)
    have t2 := scn_tri hr' (k + 1)
    have e1 : scn β (k + 1 + 1) = if β (k + 1) = 0 then scn β (k + 1) else ((scn β (k + 1)).1 + (if β (k + 1) = (scn β (k + 1)).2.2 then 0 else 1), k + 1, β (k + 1)) := rfl
    have e2 : scn β' (k + 1 + 1) = if β' (k + 1) = 0 then scn β' (k + 1) else ((scn β' (k + 1)).1 + (if β' (k + 1) = (scn β' (k + 1)).2.2 then 0 else 1), k + 1, β' (k + 1)) := rfl
    generalize scn β (k + 1) = s at *
    generalize scn β' (k + 1) = s' at *
    obtain ⟨v, l, t⟩ := s
    obtain ⟨v', l', t'⟩ := s'
    simp only at *
    have r1 := hr (k + 1)
    have r2 := hr' (k + 1)
    have r3 := hr k
    rw [e1, e2]
    by_cases hz : β (k + 1) = 0
    · rw [if_pos hz]
      by_cases hk : β k = 0
      · -- strict ahead, strict behind
        have hs : v < v' := by
          rcases Nat.lt_or_ge v v' with q | q
          · exact q
          · have := (i3 (by omega)).2
            omega
        by_cases hz' : β' (k + 1) = 0
        · rw [if_pos hz']; simp only; exact ⟨by omega, Or.inl hz, fun q => by omega⟩
        · rw [if_neg hz']; simp only; exact ⟨by split <;> omega, Or.inl hz, fun q => by exfalso; omega⟩
      · have hb : β' (k + 1) = -β k := h1 k (-β k) (by omega) (Or.inl hz) (by omega) (Or.inr hk)
        rw [if_neg (by omega)]
        simp only
        have ht : β k = t := by omega
        by_cases hv : v' = v
        · have := (i3 hv).1
          rw [if_neg (by omega)]
          exact ⟨by omega, Or.inl hz, fun q => by omega⟩
        · exact ⟨by split <;> omega, Or.inl hz, fun q => by exfalso; omega⟩
    · rw [if_neg hz]
      simp only
      by_cases hc : β (k + 1) = t
      · rw [if_pos hc]
        by_cases hz' : β' (k + 1) = 0
        · rw [if_pos hz']; simp only; exact ⟨by omega, Or.inr trivial, fun q => ⟨by have := i3 (by omega); omega, trivial⟩⟩
        · rw [if_neg hz']
          simp only
          refine ⟨by split <;> omega, Or.inr trivial, fun q => ?_⟩
          split at q
          · have := i3 (by omega); exact ⟨by omega, trivial⟩
          · omega
      · rw [if_neg hc]
        have hb : β' (k + 1) = β (k + 1) := h1 k (β (k + 1)) (by omega) (Or.inr rfl) (by omega) (Or.inl hz)
        rw [if_neg (by omega)]
        simp only
        refine ⟨?_, Or.inr trivial, fun _ => ⟨hb, trivial⟩⟩
        by_cases hv : v' = v
        · have := (i3 hv).1
          rw [if_neg (by omega)]; omega
        · split <;> omega
theorem scn_more {β β' : Nat → Int} (h0 : β 0 = 1) (h0' : β' 0 = 1) (hr : Tri β) (hr' : Tri β')
    (h1 : ∀ k u, (u = 1 ∨ u = -1) → (β (k + 1) = 0 ∨ β (k + 1) = u) → (β k = 0 ∨ β k = -u) → (β (k + 1) ≠ 0 ∨ β k ≠ 0) → β' (k + 1) = u) (m : Nat) (he : β (m + 1) = 0) :
    (scn β (m + 1)).1 + 1 ≤ (scn β' (m + 2)).1 := by
  obtain ⟨i1, i2, i3⟩ := scn_step h0 h0' hr hr' h1 (m + 1)
  have e1 : scn β (m + 1 + 1) = scn β (m + 1) := by show (if β (m + 1) = 0 then _ else _) = _; rw [if_pos he]
  rw [e1] at i1 i2 i3
  have t1 := scn_tri hr (m + 1)
  rcases Nat.lt_or_ge (scn β (m + 1)).1 (scn β' (m + 2)).1 with q | q
  · exact q
  · have := (i3 (by show (scn β' (m + 2)).1 = _; have : (scn β (m + 1)).1 ≤ (scn β' (m + 2)).1 := i1; omega)).2
    omega
theorem alt_tri {f : Nat → Int} (h : Tri f) : Tri (altS f) := fun k => by
  have := h k
  unfold altS
  split <;> omega
theorem scn_last (f : Nat → Int) : ∀ i, (scn f i).2.1 ≤ i - 1 ∧ ((scn f i).2.1 = 0 ∨ f (scn f i).2.1 ≠ 0)
  | 0 => ⟨Nat.le_refl _, Or.inl rfl⟩
  | i + 1 => by
    have h := scn_last f i
    unfold scn
    split
    · exact ⟨by omega, h.2⟩
    · rename_i q
      exact ⟨by simp only; omega, Or.inr (by simpa using q)⟩
/-- Both together change no oftener than there are powers. -/
theorem scn_both {f : Nat → Int} (h : Tri f) (h0 : f 0 = 1) : ∀ i, (scn f (i + 1)).1 + (scn (altS f) (i + 1)).1 ≤ (scn f (i + 1)).2.1 ∧ (scn (altS f) (i + 1)).2.1 = (scn f (i + 1)).2.1 ∧ (scn (altS f) (i + 1)).2.2 = if (scn f (i + 1)).2.1 % 2 = 0 then (scn f (i + 1)).2.2 else -(scn f (i + 1)).2.2
  | 0 => by simp [scn, altS, h0]
  | i + 1 => by
    obtain ⟨i1, i2, i3⟩ := scn_both h h0 i
    have l1 := (scn_last f (i + 1)).1
    have t1 := scn_tri h (i + 1)
    have r1 := h (i + 1)
    have ea : altS f (i + 1) = if (i + 1) % 2 = 0 then f (i + 1) else -f (i + 1) := rfl
    have e1 : scn f (i + 1 + 1) = if f (i + 1) = 0 then scn f (i + 1) else ((scn f (i + 1)).1 + (if f (i + 1) = (scn f (i + 1)).2.2 then 0 else 1), i + 1, f (i + 1)) := rfl
    have e2 : scn (altS f) (i + 1 + 1) = if altS f (i + 1) = 0 then scn (altS f) (i + 1) else ((scn (altS f) (i + 1)).1 + (if altS f (i + 1) = (scn (altS f) (i + 1)).2.2 then 0 else 1), i + 1, altS f (i + 1)) := rfl
    rw [e1, e2]
    clear e1 e2
    generalize altS f (i + 1) = y at *
    generalize f (i + 1) = x at *
    generalize scn f (i + 1) = s at *
    generalize scn (altS f) (i + 1) = s' at *
    obtain ⟨v, l, t⟩ := s
    obtain ⟨v', l', t'⟩ := s'
    simp only at *
    subst i2
    by_cases hz : x = 0
    · rw [if_pos hz, if_pos (by rw [ea, hz]; split <;> rfl)]
      exact ⟨i1, rfl, i3⟩
    · have hy : y ≠ 0 := by rw [ea]; split <;> omega
      rw [if_neg hz, if_neg hy]
      simp only
      refine ⟨?_, trivial, ea⟩
      by_cases p1 : (i + 1) % 2 = 0 <;> by_cases p2 : l' % 2 = 0 <;> simp only [p1, p2, if_true, if_false] at ea i3 <;> (repeat' split) <;> omega
/-- The coefficients of the product over roots. -/
def bL : List (Nat → Rat) → Nat → Nat → Rat
  | [], k, _ => if k = 0 then 1 else 0
  | _ :: _, 0, _ => 1
  | d :: L, k + 1, j => bL L (k + 1) j - d j * bL L k j
theorem bL_zero : ∀ (L : List (Nat → Rat)) (j : Nat), bL L 0 j = 1
  | [], _ => rfl
  | _ :: _, _ => rfl
theorem bL_over : ∀ (L : List (Nat → Rat)) (k j : Nat), L.length < k → bL L k j = 0
  | [], k, j, h => by show (if k = 0 then (1 : Rat) else 0) = 0; rw [if_neg (by simp at h; omega)]
  | _ :: _, 0, j, h => by simp at h
  | d :: L, k + 1, j, h => by
    show bL L (k + 1) j - d j * bL L k j = 0
    simp at h
    rw [bL_over L (k + 1) j (by omega), bL_over L k j (by omega)]
    grind
theorem bL_cau : ∀ (L : List (Nat → Rat)), (∀ u ∈ L, Cau u) → ∀ k, Cau (bL L k)
  | [], _, k => by
    have : bL [] k = fun _ => if k = 0 then (1 : Rat) else 0 := rfl
    rw [this]; exact cau_const _
  | _ :: _, _, 0 => cau_const 1
  | d :: L, hd, k + 1 => by
    have hL := bL_cau L fun u hu => hd u (List.mem_cons_of_mem _ hu)
    have h := cau_add (hL (k + 1)) (cau_neg (cau_mul (hd d List.mem_cons_self) (hL k)))
    have : bL (d :: L) (k + 1) = fun j => bL L (k + 1) j + -(d j * bL L k j) := funext fun j => by show bL L (k + 1) j - d j * bL L k j = _; grind
    rw [this]; exact h
theorem bL_perm {L M : List (Nat → Rat)} (h : L.Perm M) : ∀ k j, bL L k j = bL M k j := by
  induction h with
  | nil => exact fun _ _ => rfl
  | cons d _ ih =>
    intro k j
    cases k with
    | zero => rfl
    | succ k => show bL _ (k + 1) j - d j * bL _ k j = bL _ (k + 1) j - d j * bL _ k j; rw [ih, ih]
  | swap d e L =>
    intro k j
    cases k with
    | zero => rfl
    | succ k =>
      cases k with
      | zero =>
        show bL L 1 j - d j * bL L 0 j - e j * 1 = bL L 1 j - e j * bL L 0 j - d j * 1
        rw [bL_zero]; grind
      | succ k =>
        show bL L (k + 2) j - d j * bL L (k + 1) j - e j * (bL L (k + 1) j - d j * bL L k j) = bL L (k + 2) j - e j * bL L (k + 1) j - d j * (bL L (k + 1) j - e j * bL L k j)
        grind
  | trans _ _ i1 i2 => exact fun k j => (i1 k j).trans (i2 k j)
/-- A settling sequence's sign. -/
noncomputable def sgS (u : Nat → Rat) : Int := Classical.epsilon (Sgn u)
theorem sgS_is {u : Nat → Rat} (h : Cau u) : Sgn u (sgS u) := Classical.epsilon_spec (sgn_ex h)
theorem sgn_tri {u : Nat → Rat} {t : Int} (h : Sgn u t) : t = 1 ∨ t = -1 ∨ t = 0 := by
  rcases h with ⟨q, -⟩ | ⟨q, -⟩ | ⟨q, -⟩ <;> omega
noncomputable def sL (L : List (Nat → Rat)) (k : Nat) : Int := sgS (bL L k)
theorem sL_is {L : List (Nat → Rat)} (hd : ∀ u ∈ L, Cau u) (k : Nat) : Sgn (bL L k) (sL L k) := sgS_is (bL_cau L hd k)
theorem sL_tri {L : List (Nat → Rat)} (hd : ∀ u ∈ L, Cau u) : Tri (sL L) := fun k => sgn_tri (sL_is hd k)
theorem sL_zero {L : List (Nat → Rat)} (hd : ∀ u ∈ L, Cau u) : sL L 0 = 1 :=
  sgn_one (sgn_congr (sL_is hd 0) fun j => bL_zero L j) (sgn_const 1)
theorem sL_over {L : List (Nat → Rat)} (hd : ∀ u ∈ L, Cau u) {k : Nat} (h : L.length < k) : sL L k = 0 :=
  sgn_one (sgn_congr (sL_is hd k) fun j => bL_over L k j h) (sgn_const 0)
theorem sgn_one' {u : Nat → Rat} (h : Sgn u 1) : PosS u := by
  rcases h with ⟨-, q⟩ | ⟨q, -⟩ | ⟨q, -⟩
  · exact q
  · exact absurd q (by decide)
  · exact absurd q (by decide)
theorem sgn_mone {u : Nat → Rat} (h : Sgn u (-1)) : NegS u := by
  rcases h with ⟨q, -⟩ | ⟨-, q⟩ | ⟨q, -⟩
  · exact absurd q (by decide)
  · exact q
  · exact absurd q (by decide)
theorem sgn_nul {u : Nat → Rat} (h : Sgn u 0) : Nul u := by
  rcases h with ⟨q, -⟩ | ⟨q, -⟩ | ⟨-, q⟩
  · exact absurd q (by decide)
  · exact absurd q (by decide)
  · exact q
theorem tri_sg {u : Nat → Rat} (h : Cau u) : sgS u = 1 ∨ sgS u = -1 ∨ sgS u = 0 := sgn_tri (sgS_is h)
theorem sL_cons {d : Nat → Rat} {L : List (Nat → Rat)} (hd : ∀ u ∈ d :: L, Cau u) (k : Nat) (v : Int) (h2 : Sgn (fun j => -(d j * bL L k j)) v) (h : sL L (k + 1) = v ∨ sL L (k + 1) = 0 ∨ v = 0) : sL (d :: L) (k + 1) = if sL L (k + 1) = 0 then v else sL L (k + 1) :=
  sgn_one (sL_is hd (k + 1)) (sgn_congr (sgn_add (sL_is (fun u hu => hd u (List.mem_cons_of_mem _ hu)) (k + 1)) h2 h) fun j => by show bL L (k + 1) j + -(d j * bL L k j) = bL L (k + 1) j - d j * bL L k j; grind)
/-- Positive roots ahead: so many changes at least. -/
theorem sL_pos : ∀ (P N : List (Nat → Rat)), (∀ u ∈ P, Cau u ∧ sgS u = 1) → (∀ u ∈ N, Cau u) → P.length ≤ (scn (sL (P ++ N)) ((P ++ N).length + 1)).1
  | [], _, _, _ => Nat.zero_le _
  | d :: P, N, hP, hN => by
    have ih := sL_pos P N (fun u hu => hP u (List.mem_cons_of_mem _ hu)) hN
    have hA : ∀ u ∈ d :: (P ++ N), Cau u := fun u hu => by
      rcases List.mem_cons.1 hu with rfl | hu
      · exact (hP _ List.mem_cons_self).1
      · rcases List.mem_append.1 hu with hu | hu
        · exact (hP u (List.mem_cons_of_mem _ hu)).1
        · exact hN u hu
    have hB : ∀ u ∈ P ++ N, Cau u := fun u hu => hA u (List.mem_cons_of_mem _ hu)
    obtain ⟨c1, c2⟩ := hP d List.mem_cons_self
    have hp := sgn_one' (by have := sgS_is c1; rw [c2] at this; exact this)
    show P.length + 1 ≤ (scn (sL (d :: (P ++ N))) ((P ++ N).length + 1 + 1)).1
    have key := scn_more (sL_zero hB) (sL_zero hA) (sL_tri hB) (sL_tri hA) (fun k u hu h1 h2 h3 => by
      rw [sL_cons hA k _ (sgn_neg (sgn_mulpos (sL_is hB k) hp (cau_bdd c1))) (by omega)]
      split <;> omega) (P ++ N).length (sL_over hB (by omega))
    exact Nat.le_trans (Nat.succ_le_succ ih) key
theorem alt_zero {f : Nat → Int} (h : f 0 = 1) : altS f 0 = 1 := h
theorem sL_neg : ∀ (P N : List (Nat → Rat)), (∀ u ∈ P, Cau u ∧ sgS u = -1) → (∀ u ∈ N, Cau u) → P.length ≤ (scn (altS (sL (P ++ N))) ((P ++ N).length + 1)).1
  | [], _, _, _ => Nat.zero_le _
  | d :: P, N, hP, hN => by
    have ih := sL_neg P N (fun u hu => hP u (List.mem_cons_of_mem _ hu)) hN
    have hA : ∀ u ∈ d :: (P ++ N), Cau u := fun u hu => by
      rcases List.mem_cons.1 hu with rfl | hu
      · exact (hP _ List.mem_cons_self).1
      · rcases List.mem_append.1 hu with hu | hu
        · exact (hP u (List.mem_cons_of_mem _ hu)).1
        · exact hN u hu
    have hB : ∀ u ∈ P ++ N, Cau u := fun u hu => hA u (List.mem_cons_of_mem _ hu)
    obtain ⟨c1, c2⟩ := hP d List.mem_cons_self
    have hp := sgn_mone (by have := sgS_is c1; rw [c2] at this; exact this)
    show P.length + 1 ≤ (scn (altS (sL (d :: (P ++ N)))) ((P ++ N).length + 1 + 1)).1
    have key := scn_more (alt_zero (sL_zero hB)) (alt_zero (sL_zero hA)) (alt_tri (sL_tri hB)) (alt_tri (sL_tri hA)) (fun k u hu h1 h2 h3 => by
      have e := sL_cons hA k _ (sgn_congr (sgn_mulpos (sL_is hB k) hp (cau_bdd (cau_neg c1))) fun j => by grind)
      unfold altS at h1 h2 h3 ⊢
      by_cases p : k % 2 = 0
      · rw [if_neg (by omega)] at h1 h3 ⊢
        rw [if_pos p] at h2 h3
        rw [e (by omega)]
        split <;> omega
      · rw [if_pos (by omega)] at h1 h3 ⊢
        rw [if_neg p] at h2 h3
        rw [e (by omega)]
        split <;> omega) (P ++ N).length (by unfold altS; rw [sL_over hB (by omega)]; split <;> rfl)
    exact Nat.le_trans (Nat.succ_le_succ ih) key
/-- Coefficients beyond the roots that are not nought are nought. -/
theorem bL_top : ∀ (L : List (Nat → Rat)), (∀ u ∈ L, Cau u) → ∀ k, L.countP (fun u => decide (sgS u ≠ 0)) < k → Nul (bL L k)
  | [], _, k, h => nul_congr nul_zero fun j => (bL_over [] k j (by simp at h ⊢; omega)).symm
  | _ :: _, _, 0, h => by omega
  | d :: L, hd, k + 1, h => by
    have hL : ∀ u ∈ L, Cau u := fun u hu => hd u (List.mem_cons_of_mem _ hu)
    have c1 := hd d List.mem_cons_self
    rw [List.countP_cons] at h
    have n1 := bL_top L hL (k + 1) (by omega)
    have n2 : Nul fun j => bL L k j * d j := by
      by_cases q : sgS d = 0
      · have h0 := sgn_nul (by have := sgS_is c1; rw [q] at this; exact this)
        exact nul_congr (nul_mul h0 (cau_bdd (bL_cau L hL k))) fun j => by grind
      · rw [if_pos (by simpa using q)] at h
        exact nul_mul (bL_top L hL k (by omega)) (cau_bdd c1)
    exact nul_congr (nul_sub n1 n2) fun j => by show bL L (k + 1) j - bL L k j * d j = bL L (k + 1) j - d j * bL L k j; grind
/-- DESCARTES, exactly. -/
theorem descartes (L : List (Nat → Rat)) (hL : ∀ u ∈ L, Cau u) : (scn (sL L) (L.length + 1)).1 = L.countP (fun u => decide (sgS u = 1)) ∧ (scn (sL L) (L.length + 1)).2.1 = L.countP (fun u => decide (sgS u = 1)) + L.countP (fun u => decide (sgS u = -1)) := by
  have hx : ∀ {M : List (Nat → Rat)}, L.Perm M → sL L = sL M ∧ L.length = M.length := fun hp => ⟨funext fun k => by unfold sL; rw [funext (bL_perm hp k)], hp.length_eq⟩
  have f1 := hx (List.filter_append_perm (fun u => decide (sgS u = 1)) L).symm
  have f2 := hx (List.filter_append_perm (fun u => decide (sgS u = -1)) L).symm
  have v1 := sL_pos (L.filter fun u => decide (sgS u = 1)) (L.filter fun u => !decide (sgS u = 1)) (fun u hu => ⟨hL u (List.mem_filter.1 hu).1, of_decide_eq_true (List.mem_filter.1 hu).2⟩) (fun u hu => hL u (List.mem_filter.1 hu).1)
  have v2 := sL_neg (L.filter fun u => decide (sgS u = -1)) (L.filter fun u => !decide (sgS u = -1)) (fun u hu => ⟨hL u (List.mem_filter.1 hu).1, of_decide_eq_true (List.mem_filter.1 hu).2⟩) (fun u hu => hL u (List.mem_filter.1 hu).1)
  rw [← f1.1, ← f1.2, ← List.countP_eq_length_filter] at v1
  rw [← f2.1, ← f2.2, ← List.countP_eq_length_filter] at v2
  have v3 := (scn_both (sL_tri hL) (sL_zero hL) L.length).1
  have v4 := scn_last (sL L) (L.length + 1)
  have v5 : (scn (sL L) (L.length + 1)).2.1 ≤ L.countP (fun u => decide (sgS u ≠ 0)) := by
    rcases v4.2 with q | q
    · omega
    · rcases Nat.lt_or_ge (L.countP (fun u => decide (sgS u ≠ 0))) (scn (sL L) (L.length + 1)).2.1 with r | r
      · exact absurd (sgn_one (sL_is hL _) (Or.inr (Or.inr ⟨rfl, bL_top L hL _ r⟩))) q
      · exact r
  have v6 : ∀ M : List (Nat → Rat), (∀ u ∈ M, Cau u) → M.countP (fun u => decide (sgS u ≠ 0)) = M.countP (fun u => decide (sgS u = 1)) + M.countP (fun u => decide (sgS u = -1)) := fun M => by
    induction M with
    | nil => intro _; rfl
    | cons d M ih =>
      intro h
      have := ih fun u hu => h u (List.mem_cons_of_mem _ hu)
      rw [List.countP_cons, List.countP_cons, List.countP_cons, this]
      rcases tri_sg (h d List.mem_cons_self) with q | q | q <;> simp [q] <;> omega
  have := v6 L hL
  omega
end Go.Proofs.Ytlcogbcpmneknaa
