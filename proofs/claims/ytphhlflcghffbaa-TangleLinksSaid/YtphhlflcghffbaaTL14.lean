/- The walk of tangle.Link. -/
import Derived.Test.YtphhlflcghffbaaTL13
import Derived.Test.YtphhlflcghffbaaTL7
import Derived.Test.YtphhlflcghffbaaTL4
namespace Go.Proofs.Ytphhlflcghffbaa
open Go.RowKit Go.Maps

/-- Each end of D is tied to another one. -/
structure Invo (D : Nat → Prop) (T : Nat → Nat) : Prop where
  sp : ∀ x, D x → D (T x)
  inv : ∀ x, D x → T (T x) = x
  ne : ∀ x, D x → T x ≠ x
theorem leadF_invo {D : Nat → Prop} {T : Nat → Nat} {e i o : Nat} (h : Invo D T) (he : D e) (hi : ¬ D i) (ho : ¬ D o) (hio : i ≠ o) : Invo (fun x => x = i ∨ x = o ∨ D x) (leadF T e i o) := by
  have hTe := h.sp e he
  have n1 : T e ≠ e := h.ne e he
  have n2 : e ≠ i := fun h0 => hi (h0 ▸ he)
  have n3 : e ≠ o := fun h0 => ho (h0 ▸ he)
  have n4 : T e ≠ i := fun h0 => hi (h0 ▸ hTe)
  have n5 : T e ≠ o := fun h0 => ho (h0 ▸ hTe)
  have v : ∀ x, leadF T e i o x = if x = o then e else if x = e then o else if x = i then T e else if x = T e then i else T x := fun x => rfl
  have vo : leadF T e i o o = e := by rw [v, if_pos rfl]
  have ve : leadF T e i o e = o := by rw [v, if_neg n3, if_pos rfl]
  have vi : leadF T e i o i = T e := by rw [v, if_neg hio, if_neg (Ne.symm n2), if_pos rfl]
  have vt : leadF T e i o (T e) = i := by rw [v, if_neg n5, if_neg n1, if_neg n4, if_pos rfl]
  have vx : ∀ x, D x → x ≠ e → x ≠ T e → leadF T e i o x = T x := fun x hx h1 h2 => by
    have h3 : x ≠ i := fun h0 => hi (h0 ▸ hx)
    have h4 : x ≠ o := fun h0 => ho (h0 ▸ hx)
    rw [v, if_neg h4, if_neg h1, if_neg h3, if_neg h2]
  have key : ∀ x, (x = i ∨ x = o ∨ D x) → (x = i ∨ x = o ∨ x = e ∨ x = T e ∨ (D x ∧ x ≠ e ∧ x ≠ T e)) := fun x hx => by
    rcases hx with h1 | h1 | h1
    · exact Or.inl h1
    · exact Or.inr (Or.inl h1)
    · by_cases h2 : x = e
      · exact Or.inr (Or.inr (Or.inl h2))
      · by_cases h3 : x = T e
        · exact Or.inr (Or.inr (Or.inr (Or.inl h3)))
        · exact Or.inr (Or.inr (Or.inr (Or.inr ⟨h1, h2, h3⟩)))
  refine ⟨fun x hx => ?_, fun x hx => ?_, fun x hx => ?_⟩
  · rcases key x hx with rfl | rfl | rfl | rfl | ⟨h1, h2, h3⟩
    · rw [vi]; exact Or.inr (Or.inr hTe)
    · rw [vo]; exact Or.inr (Or.inr he)
    · rw [ve]; exact Or.inr (Or.inl rfl)
    · rw [vt]; exact Or.inl rfl
    · rw [vx x h1 h2 h3]; exact Or.inr (Or.inr (h.sp x h1))
  · rcases key x hx with rfl | rfl | rfl | rfl | ⟨h1, h2, h3⟩
    · rw [vi, vt]
    · rw [vo, ve]
    · rw [ve, vo]
    · rw [vt, vi]
    · rw [vx x h1 h2 h3, vx (T x) (h.sp x h1) (fun h0 => h3 (by rw [← h.inv x h1, h0])) (fun h0 => h2 (by rw [← h.inv x h1, h0, h.inv e he])), h.inv x h1]
  · rcases key x hx with rfl | rfl | rfl | rfl | ⟨h1, h2, h3⟩
    · rw [vi]; exact n4
    · rw [vo]; exact n3
    · rw [ve]; exact Ne.symm n3
    · rw [vt]; exact Ne.symm n4
    · rw [vx x h1 h2 h3]; exact h.ne x h1
theorem Invo.congr {D D' : Nat → Prop} {T : Nat → Nat} (h : Invo D T) (hD : ∀ x, D x ↔ D' x) : Invo D' T :=
  ⟨fun x hx => (hD _).1 (h.sp x ((hD x).2 hx)), fun x hx => h.inv x ((hD x).2 hx), fun x hx => h.ne x ((hD x).2 hx)⟩
theorem cor_ge (n : Nat) (up : Bool) (c : Nat) : 4 * n + 4 ≤ cor n up c := by unfold cor; omega
theorem cor_ne (n : Nat) (up : Bool) : cor n up 0 ≠ cor n up 1 ∧ cor n up 0 ≠ cor n up 2 ∧ cor n up 0 ≠ cor n up 3 ∧ cor n up 1 ≠ cor n up 2 ∧ cor n up 1 ≠ cor n up 3 ∧ cor n up 2 ≠ cor n up 3 := by
  cases up <;> simp [cor, sdOf]
theorem stepT_invo {T : Nat → Nat} {n : Nat} (h : Invo (Dom n) T) (right up : Bool) : Invo (Dom (n + 1)) (stepT T n right up) := by
  obtain ⟨m1, m2, m3, m4, m5, m6⟩ := cor_ne n up
  have g0 := cor_ge n up 0
  have g1 := cor_ge n up 1
  have g2 := cor_ge n up 2
  have g3 := cor_ge n up 3
  have c0 := cor_lt n up 0
  have c1 := cor_lt n up 1
  have c2 := cor_lt n up 2
  have c3 := cor_lt n up 3
  have all := cor_all n up
  have nd : ∀ c, ¬ Dom n (cor n up c) := fun c hc => by have := cor_ge n up c; unfold Dom at hc; omega
  unfold stepT
  split
  · have h1 := leadF_invo h (e := 1) (by unfold Dom; omega) (nd 0) (nd 1) m1
    have h2 := leadF_invo h1 (e := 3) (i := cor n up 2) (o := cor n up 3) (Or.inr (Or.inr (by unfold Dom; omega))) (fun h0 => h0.elim (Ne.symm m2) (fun h0 => h0.elim (Ne.symm m4) (nd 2))) (fun h0 => h0.elim (Ne.symm m3) (fun h0 => h0.elim (Ne.symm m5) (nd 3))) m6
    refine h2.congr fun x => ?_
    unfold Dom
    constructor
    · intro hx; omega
    · intro hx
      rcases Nat.lt_or_ge x (4 * n + 4) with h3 | h3
      · omega
      · have := all x h3 hx; omega
  · have h1 := leadF_invo h (e := 2) (by unfold Dom; omega) (nd 0) (nd 2) m2
    have h2 := leadF_invo h1 (e := 3) (i := cor n up 1) (o := cor n up 3) (Or.inr (Or.inr (by unfold Dom; omega))) (fun h0 => h0.elim (Ne.symm m1) (fun h0 => h0.elim m4 (nd 1))) (fun h0 => h0.elim (Ne.symm m3) (fun h0 => h0.elim (Ne.symm m6) (nd 3))) m5
    refine h2.congr fun x => ?_
    unfold Dom
    constructor
    · intro hx; omega
    · intro hx
      rcases Nat.lt_or_ge x (4 * n + 4) with h3 | h3
      · omega
      · have := all x h3 hx; omega
theorem twR_invo {T : Nat → Nat} {n : Nat} (h : Invo (Dom n) T) (right up : Bool) (j : Nat) : Invo (Dom (n + j)) (twR T n right up j) := by
  induction j with
  | zero => exact h
  | succ j ih => exact stepT_invo ih right up
theorem tie0_invo : Invo (Dom 0) tie0 := by
  have key : ∀ x, Dom 0 x → x = 0 ∨ x = 1 ∨ x = 2 ∨ x = 3 := fun x hx => by unfold Dom at hx; omega
  refine ⟨fun x hx => tie0_bd x hx, fun x hx => ?_, fun x hx => ?_⟩ <;>
  · rcases key x hx with rfl | rfl | rfl | rfl <;> decide
theorem twL_invo (l : List Int) (i : Nat) : Invo (Dom (szTo l i)) (twL l i) := by
  induction i with
  | zero => exact tie0_invo
  | succ i ih => exact twR_invo ih _ _ _
/-- Two ends of the tangle are tied to one another. -/
def jn (T : Nat → Nat) (a b : Nat) : Nat → Nat := if T a = b then T else tieF T (T a) (T b)
theorem jn_invo {D : Nat → Prop} {T : Nat → Nat} {a b : Nat} (h : Invo D T) (ha : D a) (hb : D b) (hab : a ≠ b) : Invo (fun x => D x ∧ x ≠ a ∧ x ≠ b) (jn T a b) := by
  unfold jn
  by_cases e : T a = b
  · rw [if_pos e]
    have e2 : T b = a := by rw [← e, h.inv a ha]
    refine ⟨fun x ⟨h1, h2, h3⟩ => ⟨h.sp x h1, fun h0 => h3 ?_, fun h0 => h2 ?_⟩, fun x hx => h.inv x hx.1, fun x hx => h.ne x hx.1⟩
    · rw [← h.inv x h1, h0, e]
    · rw [← h.inv x h1, h0, e2]
  · rw [if_neg e]
    have e2 : T b ≠ a := fun h0 => e (by rw [← h0, h.inv b hb])
    have v : ∀ x, tieF T (T a) (T b) x = if x = T b then T a else if x = T a then T b else T x := fun x => rfl
    have n1 : T a ≠ T b := fun h0 => hab (by rw [← h.inv a ha, h0, h.inv b hb])
    refine ⟨fun x ⟨h1, h2, h3⟩ => ?_, fun x ⟨h1, h2, h3⟩ => ?_, fun x ⟨h1, h2, h3⟩ => ?_⟩
    · rw [v]
      split
      · exact ⟨h.sp a ha, h.ne a ha, e⟩
      · split
        · exact ⟨h.sp b hb, e2, h.ne b hb⟩
        · rename_i q1 q2
          exact ⟨h.sp x h1, fun h0 => q2 (by rw [← h0, h.inv x h1]), fun h0 => q1 (by rw [← h0, h.inv x h1])⟩
    · rw [v x]
      by_cases q1 : x = T b
      · rw [if_pos q1, v, if_neg n1, if_pos rfl, q1]
      · rw [if_neg q1]
        by_cases q2 : x = T a
        · rw [if_pos q2, v, if_pos rfl, q2]
        · rw [if_neg q2, v, if_neg (fun h0 => h3 (by rw [← h.inv x h1, h0, h.inv b hb])), if_neg (fun h0 => h2 (by rw [← h.inv x h1, h0, h.inv a ha])), h.inv x h1]
    · rw [v x]
      by_cases q1 : x = T b
      · rw [if_pos q1, q1]; exact n1
      · rw [if_neg q1]
        by_cases q2 : x = T a
        · rw [if_pos q2, q2]; exact Ne.symm n1
        · rw [if_neg q2]; exact h.ne x h1
/-- The ties of the link. -/
def lkU (l : List Int) : Nat → Nat := jn (jn (twL l l.length) 0 1) 2 3
/-- How many loops come of it. -/
def lkO (l : List Int) : Nat := (if twL l l.length 0 = 1 then 1 else 0) + (if jn (twL l l.length) 0 1 2 = 3 then 1 else 0)
theorem lkU_ties (l : List Int) : Ties (szTo l l.length) (lkU l) := by
  have h0 := twL_invo l l.length
  have h1 := jn_invo h0 (a := 0) (b := 1) (by unfold Dom; omega) (by unfold Dom; omega) (by decide)
  have h2 := jn_invo h1 (a := 2) (b := 3) ⟨by unfold Dom; omega, by decide, by decide⟩ ⟨by unfold Dom; omega, by decide, by decide⟩ (by decide)
  have h3 := h2.congr (D' := Sp (szTo l l.length)) fun x => by
    unfold Dom Sp
    constructor
    · intro hx; omega
    · intro hx; exact ⟨⟨by omega, by omega, by omega⟩, by omega, by omega⟩
  exact ⟨h3.sp, h3.inv, h3.ne⟩
end Go.Proofs.Ytphhlflcghffbaa
