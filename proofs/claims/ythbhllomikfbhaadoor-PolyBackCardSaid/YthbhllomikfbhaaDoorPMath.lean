/- Plain mathematics of polynomials as lists of pairs (exponent, coefficient): which may be handed in. No program is named here. -/
namespace Go.Proofs.YthbhllomikfbhaaDoor.Poly

/-- Place i of the list holds a term that may stand there. -/
def okB (l : List (Int × Int)) (i : Nat) : Bool :=
  decide (-1000 ≤ (l.getD i (0, 0)).1) && decide ((l.getD i (0, 0)).1 ≤ 1000) && decide (-1000000 ≤ (l.getD i (0, 0)).2) && decide ((l.getD i (0, 0)).2 ≤ 1000000) &&
  !decide ((l.getD i (0, 0)).2 = 0) && (decide (i = 0) || decide ((l.getD (i - 1) (0, 0)).1 < (l.getD i (0, 0)).1))

/-- The polynomial may be handed in. -/
def mayB (l : List (Int × Int)) : Bool := decide (l.length ≤ 64) && (List.range l.length).all (okB l)

theorem okB_iff (l : List (Int × Int)) (i : Nat) : okB l i = true ↔ -1000 ≤ (l.getD i (0, 0)).1 ∧ (l.getD i (0, 0)).1 ≤ 1000 ∧ -1000000 ≤ (l.getD i (0, 0)).2 ∧ (l.getD i (0, 0)).2 ≤ 1000000 ∧ (l.getD i (0, 0)).2 ≠ 0 ∧ (0 < i → (l.getD (i - 1) (0, 0)).1 < (l.getD i (0, 0)).1) := by
  unfold okB
  simp only [Bool.and_eq_true, decide_eq_true_eq, Bool.or_eq_true, Bool.not_eq_true', decide_eq_false_iff_not]
  constructor
  · rintro ⟨⟨⟨⟨⟨a, b⟩, c⟩, d⟩, e⟩, f⟩
    exact ⟨a, b, c, d, e, fun h => by rcases f with f | f; omega; exact f⟩
  · rintro ⟨a, b, c, d, e, f⟩
    refine ⟨⟨⟨⟨⟨a, b⟩, c⟩, d⟩, e⟩, ?_⟩
    by_cases h : i = 0
    · exact Or.inl h
    · exact Or.inr (f (by omega))

theorem may_iff (l : List (Int × Int)) : mayB l = true ↔ l.length ≤ 64 ∧ ∀ i, i < l.length → okB l i = true := by
  unfold mayB
  simp [List.all_eq_true]

theorem may_no (l : List (Int × Int)) (i : Nat) (hi : i < l.length) (h : okB l i = false) : mayB l = false := by
  cases hm : mayB l with
  | false => rfl
  | true => have := ((may_iff l).1 hm).2 i hi; rw [h] at this; cases this

theorem may_long (l : List (Int × Int)) (h : 64 < l.length) : mayB l = false := by
  cases hm : mayB l with
  | false => rfl
  | true => have := ((may_iff l).1 hm).1; omega

theorem may_yes (l : List (Int × Int)) (hl : l.length ≤ 64) (h : ∀ i, i < l.length → okB l i = true) : mayB l = true := (may_iff l).2 ⟨hl, h⟩

theorem okB_no1 {l : List (Int × Int)} {i : Nat} {e : Int} (he : (l.getD i (0, 0)).1 = e) (h : e < -1000) : okB l i = false := by
  cases hm : okB l i with
  | false => rfl
  | true => have := (okB_iff l i).1 hm; omega
theorem okB_no2 {l : List (Int × Int)} {i : Nat} {e : Int} (he : (l.getD i (0, 0)).1 = e) (h : 1000 < e) : okB l i = false := by
  cases hm : okB l i with
  | false => rfl
  | true => have := (okB_iff l i).1 hm; omega
theorem okB_no3 {l : List (Int × Int)} {i : Nat} {c : Int} (hc : (l.getD i (0, 0)).2 = c) (h : c < -1000000) : okB l i = false := by
  cases hm : okB l i with
  | false => rfl
  | true => have := (okB_iff l i).1 hm; omega
theorem okB_no4 {l : List (Int × Int)} {i : Nat} {c : Int} (hc : (l.getD i (0, 0)).2 = c) (h : 1000000 < c) : okB l i = false := by
  cases hm : okB l i with
  | false => rfl
  | true => have := (okB_iff l i).1 hm; omega
theorem okB_no5 {l : List (Int × Int)} {i : Nat} {c : Int} (hc : (l.getD i (0, 0)).2 = c) (h : c = 0) : okB l i = false := by
  cases hm : okB l i with
  | false => rfl
  | true => have := (okB_iff l i).1 hm; omega
theorem okB_no6 {l : List (Int × Int)} {i : Nat} {e p : Int} (he : (l.getD i (0, 0)).1 = e) (hp : (l.getD (i - 1) (0, 0)).1 = p) (h0 : 0 < i) (h : e ≤ p) : okB l i = false := by
  cases hm : okB l i with
  | false => rfl
  | true => have := (okB_iff l i).1 hm; have := this.2.2.2.2.2 h0; omega
theorem okB_yes {l : List (Int × Int)} {i : Nat} {e c : Int} (he : (l.getD i (0, 0)).1 = e) (hc : (l.getD i (0, 0)).2 = c) (a : ¬ e < -1000) (b : ¬ 1000 < e) (d : ¬ c < -1000000) (f : ¬ 1000000 < c) (g : ¬ c = 0)
    (hp : 0 < i → (l.getD (i - 1) (0, 0)).1 < e) : okB l i = true :=
  (okB_iff l i).2 ⟨by omega, by omega, by omega, by omega, by omega, fun h => by have := hp h; omega⟩
end Go.Proofs.YthbhllomikfbhaaDoor.Poly
