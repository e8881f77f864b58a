/- Polynomials in form, as lists: exponents rise, no coefficient is 0; such a list is told by its coefficients. Plain mathematics: no program is named here. -/
namespace Go.Proofs.YthbhllomikfbhaaDoor.Poly

/-- The list l is in form, and f tells its coefficients. -/
def Canon (l : List (Int × Int)) (f : Int → Int) : Prop := l.Pairwise (fun a b => a.1 < b.1) ∧ ∀ x c, (x, c) ∈ l ↔ (f x = c ∧ c ≠ 0)

theorem canon_unique : ∀ {l m : List (Int × Int)} {f : Int → Int}, Canon l f → Canon m f → l = m := by
  intro l
  induction l with
  | nil =>
    intro m f h1 h2
    cases m with
    | nil => rfl
    | cons b m =>
      have := (h1.2 b.1 b.2).2 ((h2.2 b.1 b.2).1 (by simp))
      cases this
  | cons a l ih =>
    intro m f h1 h2
    cases m with
    | nil =>
      have := (h2.2 a.1 a.2).2 ((h1.2 a.1 a.2).1 (by simp))
      cases this
    | cons b m =>
      have ha : a ∈ b :: m := (h2.2 a.1 a.2).2 ((h1.2 a.1 a.2).1 (by simp))
      have hb : b ∈ a :: l := (h1.2 b.1 b.2).2 ((h2.2 b.1 b.2).1 (by simp))
      have s1 := List.pairwise_cons.1 h1.1
      have s2 := List.pairwise_cons.1 h2.1
      have hab : a = b := by
        rcases List.mem_cons.1 ha with h | h
        · exact h
        · rcases List.mem_cons.1 hb with h' | h'
          · exact h'.symm
          · have q1 := s1.1 b h'
            have q2 := s2.1 a h
            omega
      subst hab
      congr 1
      -- the tails: both in form for f struck at a's exponent
      refine ih (f := fun x => if x = a.1 then 0 else f x) ⟨s1.2, fun x c => ?_⟩ ⟨s2.2, fun x c => ?_⟩
      · have h := h1.2 x c
        by_cases hx : x = a.1
        · subst hx
          simp only [if_true]
          constructor
          · intro hm
            have := s1.1 _ hm
            simp at this
          · rintro ⟨rfl, hc⟩
            exact absurd rfl hc
        · simp only [if_neg hx]
          rw [← h]
          constructor
          · intro hm
            exact List.mem_cons_of_mem _ hm
          · intro hm
            rcases List.mem_cons.1 hm with h' | h'
            · exact absurd (by rw [← h']) hx
            · exact h'
      · have h := h2.2 x c
        by_cases hx : x = a.1
        · subst hx
          simp only [if_true]
          constructor
          · intro hm
            have := s2.1 _ hm
            simp at this
          · rintro ⟨rfl, hc⟩
            exact absurd rfl hc
        · simp only [if_neg hx]
          rw [← h]
          constructor
          · intro hm
            exact List.mem_cons_of_mem _ hm
          · intro hm
            rcases List.mem_cons.1 hm with h' | h'
            · exact absurd (by rw [← h']) hx
            · exact h'

theorem canon_congr {l : List (Int × Int)} {f g : Int → Int} (h : Canon l f) (e : ∀ x, f x = g x) : Canon l g := ⟨h.1, fun x c => by rw [h.2, e]⟩

/-- A list with one place for each exponent, sorted level or rising, is strictly rising. -/
theorem rising_of {l acc : List (Int × Int)} (hp : l.Perm acc) (hs : l.Pairwise (fun a b => a.1 ≤ b.1)) (hn : acc.Pairwise (fun a b => a.1 ≠ b.1)) : l.Pairwise (fun a b => a.1 < b.1) := by
  have hn' : l.Pairwise (fun a b => a.1 ≠ b.1) := (hp.pairwise_iff (fun {a b} h => Ne.symm h)).2 hn
  have := hs.and hn'
  exact this.imp fun ⟨h1, h2⟩ => by omega

/-- The coefficient of x in a list of terms that need not be in form. -/
def coefL : List (Int × Int) → Int → Int
  | [], _ => 0
  | t :: ts, x => (if t.1 = x then t.2 else 0) + coefL ts x

theorem coefL_append (a b : List (Int × Int)) (x : Int) : coefL (a ++ b) x = coefL a x + coefL b x := by
  induction a with
  | nil => simp [coefL]
  | cons t a ih => simp only [List.cons_append, coefL, ih]; omega

theorem coefL_take (ts : List (Int × Int)) (k : Nat) (hk : k < ts.length) (x : Int) : coefL (ts.take (k + 1)) x = coefL (ts.take k) x + (if (ts.getD k (0, 0)).1 = x then (ts.getD k (0, 0)).2 else 0) := by
  rw [List.take_succ_eq_append_getElem hk, coefL_append]
  have g : ts.getD k (0, 0) = ts[k] := by simp [List.getD, hk]
  rw [g]
  simp [coefL]

theorem coefL_le (ts : List (Int × Int)) (M x : Int) (h : ∀ t ∈ ts, -M ≤ t.2 ∧ t.2 ≤ M) (hM : 0 ≤ M) : -(M * ts.length) ≤ coefL ts x ∧ coefL ts x ≤ M * ts.length := by
  induction ts with
  | nil => simp [coefL]
  | cons t ts ih =>
    have h1 := ih fun t ht => h t (List.mem_cons_of_mem _ ht)
    have h2 := h t (by simp)
    simp only [coefL, List.length_cons]
    have e : M * ((ts.length + 1 : Nat) : Int) = M * ts.length + M := by rw [Int.natCast_add, Int.mul_add]; simp
    rw [e]
    split <;> omega

theorem coefL_zero (ts : List (Int × Int)) (x : Int) (h : ∀ t ∈ ts, t.1 ≠ x) : coefL ts x = 0 := by
  induction ts with
  | nil => rfl
  | cons t ts ih =>
    simp only [coefL]
    rw [if_neg (h t (by simp)), ih fun t ht => h t (List.mem_cons_of_mem _ ht)]
    rfl

theorem coefL_mem {ts : List (Int × Int)} (hn : ts.Pairwise (fun a b => a.1 ≠ b.1)) (hz : ∀ t ∈ ts, t.2 ≠ 0) (x c : Int) : (x, c) ∈ ts ↔ (coefL ts x = c ∧ c ≠ 0) := by
  induction ts with
  | nil =>
    simp only [List.not_mem_nil, false_iff, coefL]
    rintro ⟨rfl, h⟩
    exact h rfl
  | cons t ts ih =>
    have hp := List.pairwise_cons.1 hn
    have ih := ih hp.2 fun t ht => hz t (List.mem_cons_of_mem _ ht)
    simp only [coefL, List.mem_cons]
    by_cases hx : t.1 = x
    · subst hx
      have h0 := coefL_zero ts t.1 fun s hs => (hp.1 s hs).symm
      rw [if_pos rfl, h0, Int.add_zero]
      constructor
      · rintro (h | h)
        · have hc : c = t.2 := congrArg Prod.snd h
          rw [hc]; exact ⟨rfl, hz t (by simp)⟩
        · exact absurd rfl (hp.1 (t.1, c) h)
      · rintro ⟨rfl, _⟩
        exact Or.inl rfl
    · rw [if_neg hx, Int.zero_add, ← ih]
      constructor
      · rintro (h | h)
        · exact absurd (by rw [← h]) hx
        · exact h
      · exact Or.inr

/-- A list in form is told by its coefficients. -/
theorem canon_self {l : List (Int × Int)} (hs : l.Pairwise (fun a b => a.1 < b.1)) (hz : ∀ t ∈ l, t.2 ≠ 0) : Canon l (coefL l) :=
  ⟨hs, fun x c => coefL_mem (hs.imp fun h => by omega) hz x c⟩

/-- Two lists with the same terms, one place for each exponent. -/
theorem coefL_perm {a b : List (Int × Int)} (h : a.Perm b) (x : Int) : coefL a x = coefL b x := by
  induction h with
  | nil => rfl
  | cons t _ ih => simp only [coefL, ih]
  | swap s t l => simp only [coefL]; omega
  | trans _ _ ih1 ih2 => rw [ih1, ih2]
end Go.Proofs.YthbhllomikfbhaaDoor.Poly
