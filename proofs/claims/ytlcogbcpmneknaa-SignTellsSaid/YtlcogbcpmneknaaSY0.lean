/- Sequences of fractions that settle, and their signs; plain mathematics. -/
namespace Go.Proofs.Ytlcogbcpmneknaa

/-- From some place on above a number above nought. -/
def PosS (u : Nat → Rat) : Prop := ∃ e : Rat, 0 < e ∧ ∃ J : Nat, ∀ j, J ≤ j → e < u j
def NegS (u : Nat → Rat) : Prop := PosS fun j => -u j
def Nul (u : Nat → Rat) : Prop := ∀ e : Rat, 0 < e → ∃ J : Nat, ∀ j, J ≤ j → -e < u j ∧ u j < e
def Cau (u : Nat → Rat) : Prop := ∀ e : Rat, 0 < e → ∃ J : Nat, ∀ i j, J ≤ i → J ≤ j → u i - u j < e
def Bdd (u : Nat → Rat) : Prop := ∃ B : Rat, 0 < B ∧ ∀ j, -B ≤ u j ∧ u j ≤ B
theorem half_pos {e : Rat} (h : 0 < e) : 0 < e / 2 := by grind
theorem cau_three {u : Nat → Rat} (h : Cau u) : PosS u ∨ NegS u ∨ Nul u := by
  rcases Classical.em (Nul u) with q | q
  · exact Or.inr (Or.inr q)
  · unfold Nul at q
    obtain ⟨e, q⟩ := Classical.not_forall.1 q
    obtain ⟨he, q⟩ := Classical.not_imp.1 q
    obtain ⟨J, hJ⟩ := h (e / 2) (half_pos he)
    have q2 := fun hh => q ⟨J, hh⟩
    obtain ⟨j, q3⟩ := Classical.not_forall.1 q2
    obtain ⟨hj, q4⟩ := Classical.not_imp.1 q3
    rcases Classical.em (e ≤ u j) with r | r
    · refine Or.inl ⟨e / 4, by grind, J, fun i hi => ?_⟩
      have := hJ j i hj hi
      grind
    · refine Or.inr (Or.inl ⟨e / 4, by grind, J, fun i hi => ?_⟩)
      have := hJ i j hi hj
      grind
theorem nul_add {u v : Nat → Rat} (hu : Nul u) (hv : Nul v) : Nul fun j => u j + v j := fun e he => by
  obtain ⟨J, h1⟩ := hu (e / 2) (half_pos he)
  obtain ⟨K, h2⟩ := hv (e / 2) (half_pos he)
  refine ⟨max J K, fun j hj => ?_⟩
  have := h1 j (by omega)
  have := h2 j (by omega)
  grind
theorem nul_neg {u : Nat → Rat} (hu : Nul u) : Nul fun j => -u j := fun e he => by
  obtain ⟨J, h1⟩ := hu e he
  exact ⟨J, fun j hj => by have := h1 j hj; grind⟩
theorem nul_sub {u v : Nat → Rat} (hu : Nul u) (hv : Nul v) : Nul fun j => u j - v j := fun e he => by
  obtain ⟨J, h⟩ := nul_add hu (nul_neg hv) e he
  exact ⟨J, fun j hj => by have := h j hj; grind⟩
theorem mul_bd {a b A B : Rat} (h1 : -A ≤ a) (h2 : a ≤ A) (h3 : -B ≤ b) (h4 : b ≤ B) : -(A * B) ≤ a * b ∧ a * b ≤ A * B := by
  have hA : 0 ≤ A := by grind
  have hB : 0 ≤ B := by grind
  have e1 : 0 ≤ (A - a) * (B - b) := Rat.mul_nonneg (by grind) (by grind)
  have e2 : 0 ≤ (A + a) * (B + b) := Rat.mul_nonneg (by grind) (by grind)
  have e3 : 0 ≤ (A - a) * (B + b) := Rat.mul_nonneg (by grind) (by grind)
  have e4 : 0 ≤ (A + a) * (B - b) := Rat.mul_nonneg (by grind) (by grind)
  constructor <;> grind
theorem nul_mul {u v : Nat → Rat} (hu : Nul u) (hv : Bdd v) : Nul fun j => u j * v j := fun e he => by
  obtain ⟨B, hB, h2⟩ := hv
  obtain ⟨J, h1⟩ := hu (e / (2 * B)) (by
    rw [Rat.div_def]
    exact Rat.mul_pos he (Rat.inv_pos.2 (by grind)))
  refine ⟨J, fun j hj => ?_⟩
  have q1 := h1 j hj
  have q2 := h2 j
  have e1 : e / (2 * B) * B = e / 2 := by
    have : B ≠ 0 := by grind
    grind
  have := mul_bd (a := u j) (b := v j) (A := e / (2 * B)) (B := B) (by grind) (by grind) q2.1 q2.2
  rw [e1] at this
  grind
theorem nul_zero : Nul fun _ => 0 := fun e he => ⟨0, fun _ _ => ⟨by grind, he⟩⟩
theorem nul_congr {u v : Nat → Rat} (h : Nul u) (e : ∀ j, u j = v j) : Nul v := by rw [← funext e]; exact h
theorem cau_add {u v : Nat → Rat} (hu : Cau u) (hv : Cau v) : Cau fun j => u j + v j := fun e he => by
  obtain ⟨J, h1⟩ := hu (e / 2) (half_pos he)
  obtain ⟨K, h2⟩ := hv (e / 2) (half_pos he)
  refine ⟨max J K, fun i j hi hj => ?_⟩
  have := h1 i j (by omega) (by omega)
  have := h2 i j (by omega) (by omega)
  grind
theorem cau_neg {u : Nat → Rat} (hu : Cau u) : Cau fun j => -u j := fun e he => by
  obtain ⟨J, h1⟩ := hu e he
  exact ⟨J, fun i j hi hj => by have := h1 j i hj hi; grind⟩
theorem cau_const (c : Rat) : Cau fun _ => c := fun e he => ⟨0, fun _ _ _ _ => by grind⟩
theorem cau_bdd {u : Nat → Rat} (h : Cau u) : Bdd u := by
  obtain ⟨J, hJ⟩ := h 1 (by decide)
  have key : ∀ k, ∃ B : Rat, 0 < B ∧ ∀ j, j < k → -B ≤ u j ∧ u j ≤ B := fun k => by
    induction k with
    | zero => exact ⟨1, by decide, fun j hj => absurd hj (Nat.not_lt_zero _)⟩
    | succ k ih =>
      obtain ⟨B, hB, h1⟩ := ih
      rcases Classical.em (0 ≤ u k) with q | q
      · refine ⟨B + u k, by grind, fun j hj => ?_⟩
        rcases Nat.lt_or_ge j k with r | r
        · have := h1 j r; grind
        · rw [show j = k by omega]; grind
      · refine ⟨B - u k, by grind, fun j hj => ?_⟩
        rcases Nat.lt_or_ge j k with r | r
        · have := h1 j r; grind
        · rw [show j = k by omega]; grind
  obtain ⟨B, hB, h1⟩ := key (J + 1)
  refine ⟨B + 1, by grind, fun j => ?_⟩
  have h0 := h1 J (by omega)
  rcases Nat.lt_or_ge j J with q | q
  · have := h1 j (by omega); grind
  · have := hJ j J q (Nat.le_refl _)
    have := hJ J j (Nat.le_refl _) q
    grind
theorem cau_mul {u v : Nat → Rat} (hu : Cau u) (hv : Cau v) : Cau fun j => u j * v j := fun e he => by
  obtain ⟨A, hA, a1⟩ := cau_bdd hu
  obtain ⟨B, hB, b1⟩ := cau_bdd hv
  obtain ⟨J, h1⟩ := hu (e / (2 * B) / 2) (half_pos (by rw [Rat.div_def]; exact Rat.mul_pos he (Rat.inv_pos.2 (by grind))))
  obtain ⟨K, h2⟩ := hv (e / (2 * A) / 2) (half_pos (by rw [Rat.div_def]; exact Rat.mul_pos he (Rat.inv_pos.2 (by grind))))
  refine ⟨max J K, fun i j hi hj => ?_⟩
  have p1 := h1 i j (by omega) (by omega)
  have p2 := h1 j i (by omega) (by omega)
  have p3 := h2 i j (by omega) (by omega)
  have p4 := h2 j i (by omega) (by omega)
  have q1 := mul_bd (a := u i - u j) (b := v i) (A := e / (2 * B) / 2) (B := B) (by grind) (by grind) (b1 i).1 (b1 i).2
  have q2 := mul_bd (a := v i - v j) (b := u j) (A := e / (2 * A) / 2) (B := A) (by grind) (by grind) (a1 j).1 (a1 j).2
  have e1 : e / (2 * B) / 2 * B = e / 4 := by
    have : B ≠ 0 := by grind
    grind
  have e2 : e / (2 * A) / 2 * A = e / 4 := by
    have : A ≠ 0 := by grind
    grind
  rw [e1] at q1
  rw [e2] at q2
  grind
theorem nul_cau {u : Nat → Rat} (h : Nul u) : Cau u := fun e he => by
  obtain ⟨J, h1⟩ := h (e / 2) (half_pos he)
  exact ⟨J, fun i j hi hj => by have := h1 i hi; have := h1 j hj; grind⟩
/-- A sequence's sign. -/
def Sgn (u : Nat → Rat) (t : Int) : Prop := (t = 1 ∧ PosS u) ∨ (t = -1 ∧ NegS u) ∨ (t = 0 ∧ Nul u)
theorem sgn_ex {u : Nat → Rat} (h : Cau u) : ∃ t, Sgn u t := by
  rcases cau_three h with q | q | q
  · exact ⟨1, Or.inl ⟨rfl, q⟩⟩
  · exact ⟨-1, Or.inr (Or.inl ⟨rfl, q⟩)⟩
  · exact ⟨0, Or.inr (Or.inr ⟨rfl, q⟩)⟩
theorem pos_neg {u : Nat → Rat} (h : PosS u) (h' : NegS u) : False := by
  obtain ⟨e, he, J, h1⟩ := h
  obtain ⟨f, hf, K, h2⟩ := h'
  have := h1 (max J K) (by omega)
  have := h2 (max J K) (by omega)
  grind
theorem pos_nul {u : Nat → Rat} (h : PosS u) (h' : Nul u) : False := by
  obtain ⟨e, he, J, h1⟩ := h
  obtain ⟨K, h2⟩ := h' e he
  have := h1 (max J K) (by omega)
  have := h2 (max J K) (by omega)
  grind
theorem sgn_one {u : Nat → Rat} {s t : Int} (h : Sgn u s) (h' : Sgn u t) : s = t := by
  rcases h with ⟨rfl, q⟩ | ⟨rfl, q⟩ | ⟨rfl, q⟩ <;> rcases h' with ⟨rfl, r⟩ | ⟨rfl, r⟩ | ⟨rfl, r⟩ <;> first | rfl | exact (pos_neg q r).elim | exact (pos_neg r q).elim | exact (pos_nul q r).elim | exact (pos_nul r q).elim | exact (pos_nul q (nul_neg r)).elim | exact (pos_nul r (nul_neg q)).elim
theorem pos_add {u v : Nat → Rat} (h : PosS u) (h' : PosS v ∨ Nul v) : PosS fun j => u j + v j := by
  obtain ⟨e, he, J, h1⟩ := h
  rcases h' with ⟨f, hf, K, h2⟩ | h2
  · exact ⟨e + f, by grind, max J K, fun j hj => by have := h1 j (by omega); have := h2 j (by omega); grind⟩
  · obtain ⟨K, h2⟩ := h2 (e / 2) (half_pos he)
    exact ⟨e / 2, half_pos he, max J K, fun j hj => by have := h1 j (by omega); have := h2 j (by omega); grind⟩
theorem pos_mul {u v : Nat → Rat} (h : PosS u) (h' : PosS v) : PosS fun j => u j * v j := by
  obtain ⟨e, he, J, h1⟩ := h
  obtain ⟨f, hf, K, h2⟩ := h'
  refine ⟨e * f, Rat.mul_pos he hf, max J K, fun j hj => ?_⟩
  have p1 := h1 j (by omega)
  have p2 := h2 j (by omega)
  have e1 : 0 < (u j - e) * v j := Rat.mul_pos (by grind) (by grind)
  have e2 : 0 < e * (v j - f) := Rat.mul_pos he (by grind)
  grind
theorem pos_congr {u v : Nat → Rat} (h : PosS u) (e : ∀ j, u j = v j) : PosS v := by rw [← funext e]; exact h
theorem sgn_neg {u : Nat → Rat} {t : Int} (h : Sgn u t) : Sgn (fun j => -u j) (-t) := by
  rcases h with ⟨rfl, q⟩ | ⟨rfl, q⟩ | ⟨rfl, q⟩
  · exact Or.inr (Or.inl ⟨rfl, pos_congr q fun j => by grind⟩)
  · exact Or.inl ⟨by decide, q⟩
  · exact Or.inr (Or.inr ⟨by decide, nul_neg q⟩)
theorem sgn_congr {u v : Nat → Rat} {t : Int} (h : Sgn u t) (e : ∀ j, u j = v j) : Sgn v t := by rw [← funext e]; exact h
theorem sgn_mulpos {u d : Nat → Rat} {t : Int} (h : Sgn u t) (hd : PosS d) (hb : Bdd d) : Sgn (fun j => d j * u j) t := by
  rcases h with ⟨rfl, q⟩ | ⟨rfl, q⟩ | ⟨rfl, q⟩
  · exact Or.inl ⟨rfl, pos_mul hd q⟩
  · exact Or.inr (Or.inl ⟨rfl, pos_congr (pos_mul hd q) fun j => by grind⟩)
  · exact Or.inr (Or.inr ⟨rfl, nul_congr (nul_mul q hb) fun j => by grind⟩)
/-- Signs that do not meet their like against them add up. -/
theorem sgn_add {u v : Nat → Rat} {s t : Int} (h : Sgn u s) (h' : Sgn v t) (hst : s = t ∨ s = 0 ∨ t = 0) : Sgn (fun j => u j + v j) (if s = 0 then t else s) := by
  rcases h with ⟨rfl, q⟩ | ⟨rfl, q⟩ | ⟨rfl, q⟩ <;> rcases h' with ⟨rfl, r⟩ | ⟨rfl, r⟩ | ⟨rfl, r⟩
  · exact Or.inl ⟨rfl, pos_add q (Or.inl r)⟩
  · exact absurd hst (by decide)
  · exact Or.inl ⟨rfl, pos_add q (Or.inr r)⟩
  · exact absurd hst (by decide)
  · exact Or.inr (Or.inl ⟨rfl, pos_congr (pos_add q (Or.inl r)) fun j => by grind⟩)
  · exact Or.inr (Or.inl ⟨rfl, pos_congr (pos_add q (Or.inr (nul_neg r))) fun j => by grind⟩)
  · exact Or.inl ⟨rfl, pos_congr (pos_add r (Or.inr q)) fun j => by grind⟩
  · exact Or.inr (Or.inl ⟨rfl, pos_congr (pos_add r (Or.inr (nul_neg q))) fun j => by grind⟩)
  · exact Or.inr (Or.inr ⟨rfl, nul_add q r⟩)
theorem sgn_const (c : Rat) : Sgn (fun _ => c) (if 0 < c then 1 else if c < 0 then -1 else 0) := by
  rcases Classical.em (0 < c) with h | h
  · rw [if_pos h]; exact Or.inl ⟨rfl, c / 2, half_pos h, 0, fun _ _ => by grind⟩
  · rw [if_neg h]
    rcases Classical.em (c < 0) with h2 | h2
    · rw [if_pos h2]; exact Or.inr (Or.inl ⟨rfl, -c / 2, by grind, 0, fun _ _ => by grind⟩)
    · rw [if_neg h2, show c = 0 by grind]; exact Or.inr (Or.inr ⟨rfl, nul_zero⟩)
/-- What differs by what comes to nought has the same sign. -/
theorem sgn_near {u v : Nat → Rat} {t : Int} (h : Sgn u t) (hn : Nul fun j => v j - u j) : Sgn v t := by
  have h1 := sgn_add h (Or.inr (Or.inr ⟨rfl, hn⟩) : Sgn (fun j => v j - u j) 0) (Or.inr (Or.inr rfl))
  have h2 : (if t = 0 then (0 : Int) else t) = t := by split <;> omega
  rw [h2] at h1
  exact sgn_congr h1 fun j => by grind
end Go.Proofs.Ytlcogbcpmneknaa
