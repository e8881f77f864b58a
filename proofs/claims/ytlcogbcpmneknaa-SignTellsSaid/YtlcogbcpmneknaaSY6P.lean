/- Several texts of the proof, one behind the other. -/
import Derived.Test.YtlcogbcpmneknaaSY4P
/- SYLVESTER: as many signs on the diagonal where it settles as in any form by squares; plain mathematics. -/
namespace Go.Proofs.Ytlcogbcpmneknaa

theorem sum_sq {n : Nat} (c : Nat → Rat) : ∃ B : Rat, 0 ≤ B ∧ ∀ y : Nat → Rat, (sm n fun a => c a * y a) * (sm n fun a => c a * y a) ≤ B * sm n fun a => y a * y a := by
  induction n with
  | zero => exact ⟨0, by decide, fun y => by show (0 : Rat) * 0 ≤ 0 * 0; grind⟩
  | succ n ih =>
    obtain ⟨B, hB, h⟩ := ih
    have hc := sq_nonneg (c n)
    refine ⟨2 * B + 2 * (c n * c n), by grind, fun y => ?_⟩
    show ((sm n fun a => c a * y a) + c n * y n) * ((sm n fun a => c a * y a) + c n * y n) ≤ _ * ((sm n fun a => y a * y a) + y n * y n)
    have h1 := h y
    have h2 := sq_nonneg ((sm n fun a => c a * y a) - c n * y n)
    have h3 : 0 ≤ sm n fun a => y a * y a := sm_nonneg fun _ _ => sq_nonneg _
    have h4 := Rat.mul_nonneg hB (sq_nonneg (y n))
    have h5 := Rat.mul_nonneg hc h3
    generalize (sm n fun a => c a * y a) = s at *
    generalize (sm n fun a => y a * y a) = S at *
    grind
theorem back_bd {n : Nat} (X : Nat → Nat → Rat) : ∃ B : Rat, 0 < B ∧ ∀ y : Nat → Rat, (sm n fun i => (sm n fun a => X i a * y a) * (sm n fun a => X i a * y a)) ≤ B * sm n fun a => y a * y a := by
  have key : ∀ m, ∃ B : Rat, 0 < B ∧ ∀ y : Nat → Rat, (sm m fun i => (sm n fun a => X i a * y a) * (sm n fun a => X i a * y a)) ≤ B * sm n fun a => y a * y a := fun m => by
    induction m with
    | zero => exact ⟨1, by decide, fun y => by have h3 : 0 ≤ sm n fun a => y a * y a := sm_nonneg fun _ _ => sq_nonneg _
                                               show (0 : Rat) ≤ _
                                               grind⟩
    | succ m ih =>
      obtain ⟨B, hB, h⟩ := ih
      obtain ⟨D, hD, h'⟩ := sum_sq (n := n) (X m)
      refine ⟨B + D, by grind, fun y => ?_⟩
      have := h y
      have := h' y
      show (sm m fun i => (sm n fun a => X i a * y a) * (sm n fun a => X i a * y a)) + _ ≤ _
      grind
  exact key n
theorem least_pos {n : Nat} (π : Nat → Rat) : ∃ m : Rat, 0 < m ∧ ∀ a, a < n → 0 < π a → m ≤ π a := by
  induction n with
  | zero => exact ⟨1, by decide, fun a ha => by omega⟩
  | succ n ih =>
    obtain ⟨m, hm, h⟩ := ih
    rcases Classical.em (0 < π n ∧ π n < m) with q | q
    · refine ⟨π n, q.1, fun a ha hp => ?_⟩
      rcases Nat.lt_or_ge a n with r | r
      · have := h a r hp; grind
      · rw [show a = n by omega]; grind
    · refine ⟨m, hm, fun a ha hp => ?_⟩
      rcases Nat.lt_or_ge a n with r | r
      · exact h a r hp
      · rw [show a = n by omega] at hp ⊢; grind
theorem frac_pos {a b : Rat} (ha : 0 < a) (hb : 0 < b) : 0 < a / b := by rw [Rat.div_def]; exact Rat.mul_pos ha (Rat.inv_pos.2 hb)
/-- Equations on what a table makes of a frame's numbers. -/
theorem ap_vw (n : Nat) (Y Q : Nat → Nat → Rat) (z : Nat → Rat) (a : Nat) : ap n Y (vw n Q z) a = sm n fun l => (sm n fun i => Y a i * Q l i) * z l := by
  unfold ap vw
  have e1 : (fun i => Y a i * sm n fun l => Q l i * z l) = fun i => sm n fun l => Y a i * Q l i * z l := funext fun i => by rw [← sm_mul]; exact sm_congr fun l _ => by grind
  rw [e1, sm_swap n n fun i l => Y a i * Q l i * z l]
  exact sm_congr fun l _ => (sm_dist n _ _).symm
theorem count_not {n : Nat} (p : Nat → Bool) : (List.range n).countP p + (List.range n).countP (fun a => !p a) = n := by
  have := List.length_eq_countP_add_countP p (l := List.range n)
  rw [List.length_range] at this
  have e : (fun a => decide ¬p a = true) = fun a => !p a := funext fun a => by cases p a <;> rfl
  rw [e] at this
  exact this.symm
/-- A vector on which chosen numbers of both kinds are nought. -/
theorem vec_ex {n : Nat} (Y Q : Nat → Nat → Rat) (p q : Nat → Bool) (h : (List.range n).countP p + (List.range n).countP q < n) : ∃ z : Nat → Rat, (∃ i, i < n ∧ z i ≠ 0) ∧ (∀ i, i < n → p i = true → z i = 0) ∧ ∀ a, a < n → q a = true → ap n Y (vw n Q z) a = 0 := by
  obtain ⟨z, hz, hE⟩ := few_eqs n (((List.range n).filter p).map (fun i k => if k = i then (1 : Rat) else 0) ++ ((List.range n).filter q).map (fun a l => sm n fun i => Y a i * Q l i)) (by
    rw [List.length_append, List.length_map, List.length_map, ← List.countP_eq_length_filter, ← List.countP_eq_length_filter]; exact h)
  refine ⟨z, hz, fun i hi hp => ?_, fun a ha hq => ?_⟩
  · have := hE _ (List.mem_append_left _ (List.mem_map_of_mem (f := fun i k => if k = i then (1 : Rat) else 0) (List.mem_filter.2 ⟨List.mem_range.2 hi, hp⟩)))
    rw [sm_one hi fun k _ hk => by rw [if_neg hk]; grind, if_pos rfl] at this
    grind
  · rw [ap_vw]
    exact hE _ (List.mem_append_right _ (List.mem_map_of_mem (f := fun a l => sm n fun i => Y a i * Q l i) (List.mem_filter.2 ⟨List.mem_range.2 ha, hq⟩)))
section
variable {n : Nat} {M : Nat → Nat → Rat} {π : Nat → Rat} {Y X : Nat → Nat → Rat} {A : Nat → Nat → Nat → Rat} (hC : Cong n M π Y X) (hO : ∀ j, Ort n M (A j)) (hd : ∀ i, i < n → Cau fun j => A j i i) (ho : ∀ i k, i < n → k < n → i ≠ k → Nul fun j => A j i k)
include hC hO hd ho
theorem in_low : (List.range n).countP (fun a => decide (0 < π a)) ≤ (List.range n).countP (fun i => decide (sgS (fun j => A j i i) = 1)) := by
  refine Classical.byContradiction fun hc => ?_
  obtain ⟨μ, hμ, hμ1⟩ := least_pos (n := n) π
  obtain ⟨B, hB, hB1⟩ := back_bd (n := n) X
  obtain ⟨e, he⟩ : ∃ e, μ / (2 * B * (n + 1)) = e := ⟨_, rfl⟩
  have hn0 : (0 : Rat) ≤ (n : Rat) := Rat.natCast_nonneg
  have hden : 0 < 2 * B * ((n : Rat) + 1) := Rat.mul_pos (by grind) (by grind)
  have he0 : 0 < e := by rw [← he]; exact frac_pos hμ hden
  have he1 : e * (2 * B * (n + 1)) = μ := by
    rw [← he]
    have : 2 * B * ((n : Rat) + 1) ≠ 0 := by grind
    grind
  obtain ⟨J, hJ⟩ := ev_all (n := n) (P := fun i j => sgS (fun j => A j i i) ≠ 1 → A j i i ≤ e) fun i hi => by
    have hs := sgS_is (hd i hi)
    rcases tri_sg (hd i hi) with q | q | q
    · exact ⟨0, fun j _ h => absurd q h⟩
    · rw [q] at hs
      obtain ⟨f, hf, J, hJ⟩ := sgn_mone hs
      exact ⟨J, fun j hj _ => by have := hJ j hj; grind⟩
    · rw [q] at hs
      obtain ⟨J, hJ⟩ := sgn_nul hs e he0
      exact ⟨J, fun j hj _ => by have := hJ j hj; grind⟩
  obtain ⟨K, hK⟩ := ev_all (n := n) (P := fun i j => ∀ k, k < n → i ≠ k → -e ≤ A j i k ∧ A j i k ≤ e) fun i hi => by
    obtain ⟨K, hK⟩ := ev_all (n := n) (P := fun k j => i ≠ k → -e ≤ A j i k ∧ A j i k ≤ e) fun k hk => by
      by_cases q : i = k
      · exact ⟨0, fun _ _ h => absurd q h⟩
      · obtain ⟨J, hJ⟩ := ho i k hi hk q e he0
        exact ⟨J, fun j hj _ => by have := hJ j hj; grind⟩
    exact ⟨K, fun j hj k hk => hK k hk j hj⟩
  obtain ⟨j, hj1, hj2⟩ : ∃ j, J ≤ j ∧ K ≤ j := ⟨max J K, by omega, by omega⟩
  obtain ⟨Q, hQ1, hQ2⟩ := hO j
  have hcn := count_not (n := n) fun a => decide (0 < π a)
  obtain ⟨z, ⟨i0, hi0, hz0⟩, hz1, hz2⟩ := vec_ex (n := n) Y Q (fun i => decide (sgS (fun j => A j i i) = 1)) (fun a => !decide (0 < π a)) (by omega)
  have hz := nq_pos hi0 hz0
  have f1 := hC.form (vw n Q z)
  rw [qf_vw hQ1] at f1
  -- from below
  have f2 : μ * (sm n fun a => ap n Y (vw n Q z) a * ap n Y (vw n Q z) a) ≤ qf n (A j) z z := by
    rw [f1, ← sm_mul]
    refine sm_le fun a ha => ?_
    rcases Classical.em (0 < π a) with r | r
    · exact Rat.mul_le_mul_of_nonneg_right (hμ1 a ha r) (sq_nonneg _)
    · rw [hz2 a ha (by simpa using r)]; grind
  have f3 := hB1 (ap n Y (vw n Q z))
  have f4 : nq n (vw n Q z) = sm n fun i => (sm n fun a => X i a * ap n Y (vw n Q z) a) * (sm n fun a => X i a * ap n Y (vw n Q z) a) := sm_congr fun i hi => by rw [← hC.back (vw n Q z) i hi]
  rw [← f4, nq_vw hQ2] at f3
  -- from above
  have g1 := (qf_near (n := n) (A := A j) (e := e) (fun i k hi hk hik => hK i hi j hj2 k hk hik) (Rat.le_of_lt he0) z).2
  have g2 : (sm n fun i => A j i i * (z i * z i)) ≤ e * nq n z := by
    unfold nq
    rw [← sm_mul]
    refine sm_le fun i hi => ?_
    by_cases q : sgS (fun j => A j i i) = 1
    · rw [hz1 i hi (by simpa using q)]; grind
    · exact Rat.mul_le_mul_of_nonneg_right (hJ i hi j hj1 q) (sq_nonneg _)
  have g3 : qf n (A j) z z ≤ e * (n + 1) * nq n z := by grind
  generalize (sm n fun a => ap n Y (vw n Q z) a * ap n Y (vw n Q z) a) = S at *
  have h1 := Rat.mul_le_mul_of_nonneg_left f3 (Rat.le_of_lt hμ)
  have h2 := Rat.mul_le_mul_of_nonneg_left (Rat.le_trans f2 g3) (Rat.le_of_lt hB)
  have h3 : B * (e * (n + 1) * nq n z) = μ / 2 * nq n z := by
    have : 2 * (B * (e * (n + 1) * nq n z)) = e * (2 * B * (n + 1)) * nq n z := by clear he; grind
    rw [he1] at this
    clear he he1
    grind
  rw [h3] at h2
  have h4 := Rat.mul_pos hμ hz
  clear he he1 h3 hcn
  grind
theorem in_high : (List.range n).countP (fun i => decide (sgS (fun j => A j i i) = 1)) ≤ (List.range n).countP (fun a => decide (0 < π a)) := by
  refine Classical.byContradiction fun hc => ?_
  have hn0 : (0 : Rat) ≤ (n : Rat) := Rat.natCast_nonneg
  -- how far from nought the positive ones keep
  obtain ⟨δ, hδ, J, hJ⟩ : ∃ δ : Rat, 0 < δ ∧ ∃ J, ∀ i, i < n → sgS (fun j => A j i i) = 1 → ∀ j, J ≤ j → δ ≤ A j i i := by
    have key : ∀ m, m ≤ n → ∃ δ : Rat, 0 < δ ∧ ∃ J, ∀ i, i < m → sgS (fun j => A j i i) = 1 → ∀ j, J ≤ j → δ ≤ A j i i := fun m => by
      induction m with
      | zero => exact fun _ => ⟨1, by decide, 0, fun i hi => by omega⟩
      | succ m ih =>
        intro hm
        obtain ⟨δ, hδ, J, hJ⟩ := ih (by omega)
        by_cases q : sgS (fun j => A j m m) = 1
        · have hs := sgS_is (hd m (by omega))
          rw [q] at hs
          obtain ⟨f, hf, K, hK⟩ := sgn_one' hs
          obtain ⟨g, hg, hg1, hg2⟩ : ∃ g : Rat, 0 < g ∧ g ≤ δ ∧ g ≤ f := by
            rcases Classical.em (δ ≤ f) with r | r
            · exact ⟨δ, hδ, Rat.le_refl, r⟩
            · exact ⟨f, hf, by grind, Rat.le_refl⟩
          refine ⟨g, hg, max J K, fun i hi hi1 j hj => ?_⟩
          rcases Nat.lt_or_ge i m with r | r
          · have := hJ i r hi1 j (by omega); grind
          · rw [show i = m by omega]; have := hK j (by omega); grind
        · refine ⟨δ, hδ, J, fun i hi hi1 j hj => ?_⟩
          rcases Nat.lt_or_ge i m with r | r
          · exact hJ i r hi1 j hj
          · rw [show i = m by omega] at hi1; exact absurd hi1 q
    exact key n (Nat.le_refl _)
  obtain ⟨e, he⟩ : ∃ e, δ / (2 * ((n : Rat) + 1)) = e := ⟨_, rfl⟩
  have he0 : 0 < e := by rw [← he]; exact frac_pos hδ (by grind)
  have he1 : e * (2 * ((n : Rat) + 1)) = δ := by
    rw [← he]
    have : 2 * ((n : Rat) + 1) ≠ 0 := by grind
    grind
  obtain ⟨K, hK⟩ := ev_all (n := n) (P := fun i j => ∀ k, k < n → i ≠ k → -e ≤ A j i k ∧ A j i k ≤ e) fun i hi => by
    obtain ⟨K, hK⟩ := ev_all (n := n) (P := fun k j => i ≠ k → -e ≤ A j i k ∧ A j i k ≤ e) fun k hk => by
      by_cases q : i = k
      · exact ⟨0, fun _ _ h => absurd q h⟩
      · obtain ⟨J, hJ⟩ := ho i k hi hk q e he0
        exact ⟨J, fun j hj _ => by have := hJ j hj; grind⟩
    exact ⟨K, fun j hj k hk => hK k hk j hj⟩
  obtain ⟨j, hj1, hj2⟩ : ∃ j, J ≤ j ∧ K ≤ j := ⟨max J K, by omega, by omega⟩
  obtain ⟨Q, hQ1, hQ2⟩ := hO j
  have hcn := count_not (n := n) fun i => decide (sgS (fun j => A j i i) = 1)
  obtain ⟨z, ⟨i0, hi0, hz0⟩, hz1, hz2⟩ := vec_ex (n := n) Y Q (fun i => !decide (sgS (fun j => A j i i) = 1)) (fun a => decide (0 < π a)) (by omega)
  have hz := nq_pos hi0 hz0
  have f1 := hC.form (vw n Q z)
  rw [qf_vw hQ1] at f1
  have f2 : qf n (A j) z z ≤ 0 := by
    rw [f1, ← sm_zero n]
    refine sm_le fun a ha => ?_
    rcases Classical.em (0 < π a) with r | r
    · rw [hz2 a ha (by simpa using r)]; grind
    · have := Rat.mul_nonneg (show 0 ≤ -π a by grind) (sq_nonneg (ap n Y (vw n Q z) a)); grind
  have g1 := (qf_near (n := n) (A := A j) (e := e) (fun i k hi hk hik => hK i hi j hj2 k hk hik) (Rat.le_of_lt he0) z).1
  have g2 : δ * nq n z ≤ sm n fun i => A j i i * (z i * z i) := by
    unfold nq
    rw [← sm_mul]
    refine sm_le fun i hi => ?_
    by_cases q : sgS (fun j => A j i i) = 1
    · exact Rat.mul_le_mul_of_nonneg_right (hJ i hi q j hj1) (sq_nonneg _)
    · rw [hz1 i hi (by simpa using q)]; grind
  have h1 := Rat.mul_pos he0 hz
  have h2 : δ * nq n z = e * (2 * ((n : Rat) + 1)) * nq n z := by rw [he1]
  have h3 := Rat.mul_nonneg hn0 (Rat.le_of_lt h1)
  clear he he1 hcn
  grind
end
end Go.Proofs.Ytlcogbcpmneknaa
/- THE SIGNS OF A FORM BY SQUARES ARE TOLD BY THE CHARACTERISTIC COEFFICIENTS; plain mathematics. -/
namespace Go.Proofs.Ytlcogbcpmneknaa

def sgR (c : Rat) : Int := if 0 < c then 1 else if c < 0 then -1 else 0
theorem count_dg (A : Nat → Nat → Nat → Rat) (t : Int) : ∀ n, (dgL A n).countP (fun u => decide (sgS u = t)) = (List.range n).countP fun i => decide (sgS (fun j => A j i i) = t)
  | 0 => rfl
  | n + 1 => by
    rw [List.range_succ, List.countP_append, List.countP_singleton]
    show List.countP _ ((fun j => A j n n) :: dgL A n) = _
    rw [List.countP_cons, count_dg A t n]
theorem sgS_neg {u : Nat → Rat} (h : Cau u) : sgS (fun j => -u j) = -sgS u := sgn_one (sgS_is (cau_neg h)) (sgn_neg (sgS_is h))
theorem sm_neg (n : Nat) (f : Nat → Rat) : (sm n fun i => -f i) = -sm n f := by
  have := sm_mul n (-1) f
  rw [show -sm n f = -1 * sm n f by grind, ← this]
  exact sm_congr fun i _ => by grind
theorem qf_neg (n : Nat) (M : Nat → Nat → Rat) (x y : Nat → Rat) : qf n (fun i j => -M i j) x y = -qf n M x y := by
  unfold qf
  rw [← sm_neg]
  refine sm_congr fun i _ => ?_
  rw [← sm_neg]
  exact sm_congr fun j _ => by grind
theorem cong_neg {n : Nat} {M : Nat → Nat → Rat} {π : Nat → Rat} {Y X : Nat → Nat → Rat} (h : Cong n M π Y X) : Cong n (fun i j => -M i j) (fun a => -π a) Y X :=
  ⟨fun x => by rw [qf_neg, h.form, ← sm_neg]; exact sm_congr fun a _ => by grind, h.back⟩
theorem ort_neg {n : Nat} {M A : Nat → Nat → Rat} (h : Ort n M A) : Ort n (fun i j => -M i j) (fun i j => -A i j) := by
  obtain ⟨Q, h1, h2⟩ := h
  refine ⟨Q, fun i j hi hj => ?_, h2⟩
  show -A i j = _
  rw [h1 i j hi hj, ← sm_neg]
  refine sm_congr fun a _ => ?_
  rw [← sm_neg]
  exact sm_congr fun b _ => by grind
/-- THE SIGNS. -/
theorem signs_told {n : Nat} {M : Nat → Nat → Rat} {π : Nat → Rat} {Y X : Nat → Nat → Rat} (hS : Sy n M) (hC : Cong n M π Y X) {f : Nat → Rat} (h0 : f 0 = 1) (hf : Nwt f fun m => tr n (pw n M m)) :
    (scn (fun k => sgR (f k)) (n + 1)).1 = (List.range n).countP (fun a => decide (0 < π a)) ∧ (scn (fun k => sgR (f k)) (n + 1)).2.1 = (List.range n).countP (fun a => decide (0 < π a)) + (List.range n).countP (fun a => decide (π a < 0)) := by
  rcases Nat.eq_zero_or_pos n with hn | hn
  · subst hn
    have e : (scn (fun k => sgR (f k)) 1).1 = 0 ∧ (scn (fun k => sgR (f k)) 1).2.1 = 0 := by
      have : sgR (f 0) = 1 := by rw [h0]; rfl
      simp [scn, this]
    exact e
  · obtain ⟨A, hA, hd, ho⟩ := settles hn hS
    have hL : ∀ u ∈ dgL A n, Cau u := fun u hu => by
      obtain ⟨i, hi, rfl⟩ := dgL_mem hu
      exact hd i hi
    have hP : ∀ m, Nul fun j => psL (dgL A n) m j - tr n (pw n M m) := fun m => nul_congr (nul_neg (tr_near hd ho m)) fun j => by
      rw [psL_dg, (hA j).2.2 m]; grind
    have hB : ∀ m, Bdd fun j => psL (dgL A n) m j := fun m => by
      have := bdd_add (cau_bdd (nul_cau (hP m))) (bdd_const (tr n (pw n M m)))
      rw [show (fun j => psL (dgL A n) m j) = fun j => psL (dgL A n) m j - tr n (pw n M m) + tr n (pw n M m) from funext fun j => by grind]
      exact this
    have hs : ∀ k, sL (dgL A n) k = sgR (f k) := fun k => sgn_one (sgn_near (sL_is hL k) (nul_congr (nul_neg (nwt_near hf h0 hP hB k)) fun j => by show -(bL (dgL A n) k j - f k) = f k - bL (dgL A n) k j; grind)) (sgn_const (f k))
    have D := descartes (dgL A n) hL
    rw [funext hs, dgL_len, count_dg, count_dg] at D
    have p1 := in_low hC (fun j => (hA j).2.1) hd ho
    have p2 := in_high hC (fun j => (hA j).2.1) hd ho
    have hd' : ∀ i, i < n → Cau fun j => -A j i i := fun i hi => cau_neg (hd i hi)
    have ho' : ∀ i k, i < n → k < n → i ≠ k → Nul fun j => -A j i k := fun i k hi hk hik => nul_neg (ho i k hi hk hik)
    have q1 := in_low (A := fun j i k => -A j i k) (cong_neg hC) (fun j => ort_neg (hA j).2.1) hd' ho'
    have q2 := in_high (A := fun j i k => -A j i k) (cong_neg hC) (fun j => ort_neg (hA j).2.1) hd' ho'
    have e1 : (List.range n).countP (fun a => decide (0 < -π a)) = (List.range n).countP fun a => decide (π a < 0) := List.countP_congr fun a _ => by
      rw [decide_eq_true_iff, decide_eq_true_iff]; constructor <;> intro _ <;> grind
    have e2 : (List.range n).countP (fun i => decide (sgS (fun j => -A j i i) = 1)) = (List.range n).countP fun i => decide (sgS (fun j => A j i i) = -1) := List.countP_congr fun i hi => by
      rw [decide_eq_true_iff, decide_eq_true_iff, sgS_neg (hd i (List.mem_range.1 hi))]; omega
    rw [e1, e2] at q1 q2
    omega
end Go.Proofs.Ytlcogbcpmneknaa
