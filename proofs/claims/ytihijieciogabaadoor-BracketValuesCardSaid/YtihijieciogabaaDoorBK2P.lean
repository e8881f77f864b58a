/- Several texts of the proof, one behind the other. -/
import Derived.Test.YtihijieciogabaaDoorBK1
/- Rows of pairs: strands tied, labels joined; one arc cut. -/
namespace Go.Proofs.YtihijieciogabaaDoor

def labP (P : Nat → Nat × Nat) : Nat → Nat → Nat
  | 0 => fun v => v
  | i + 1 => lab (labP P i) (P i).1 (P i).2
def joinP (P : Nat → Nat × Nat) : Nat → Nat
  | 0 => 0
  | i + 1 => joinP P i + (if labP P i (P i).1 = labP P i (P i).2 then 0 else 1)
def tieP (P : Nat → Nat × Nat) : Nat → List Nat
  | 0 => List.range 26
  | i + 1 => tieT (tieP P i) (P i).1 (P i).2
def closP (P : Nat → Nat × Nat) : Nat → Nat
  | 0 => 0
  | i + 1 => closP P i + tieN (tieP P i) (P i).1 (P i).2
def dgP (P : Nat → Nat × Nat) : Nat → Nat → Nat
  | 0 => fun _ => 0
  | i + 1 => dgm (dgP P i) (P i).1 (P i).2
theorem dgP_mono (P : Nat → Nat × Nat) (v : Nat) {i m : Nat} (h : i ≤ m) : dgP P i v ≤ dgP P m v := by
  induction h with
  | refl => exact Nat.le_refl _
  | step _ ih => refine Nat.le_trans ih ?_; show dgP P _ v ≤ dgm (dgP P _) _ _ v; unfold dgm; omega
theorem tied_first : Tied (List.range 26) (fun _ => 0) (fun v => v) := by
  have hg : ∀ v, v < 26 → (List.range 26).getD v 0 = v := by
    intro v hv; rw [List.getD_eq_getElem?_getD, List.getElem?_range hv]; rfl
  refine ⟨by simp, fun v => ?_, fun v hv _ => hg v hv, fun v _ _ h => by simp at h, fun v _ _ h => by simp at h, fun u v _ _ _ _ _ _ e => Or.inl e, rfl⟩
  by_cases hv : v < 26
  · rw [hg v hv]; exact hv
  · rw [List.getD_eq_getElem?_getD, List.getElem?_eq_none (by simp; omega)]; decide
theorem tied_all {P : Nat → Nat × Nat} {m : Nat} (hr : ∀ i, i < m → 1 ≤ (P i).1 ∧ (P i).1 < 26 ∧ 1 ≤ (P i).2 ∧ (P i).2 < 26) (hd : ∀ v, dgP P m v ≤ 2) :
    ∀ i, i ≤ m → Tied (tieP P i) (dgP P i) (labP P i) ∧ closP P i + joinP P i = i := by
  intro i hi
  induction i with
  | zero => exact ⟨tied_first, rfl⟩
  | succ i ih =>
    obtain ⟨h1, h2⟩ := ih (by omega)
    obtain ⟨r1, r2, r3, r4⟩ := hr i (by omega)
    have dx := Nat.le_trans (dgP_mono P (P i).1 hi) (hd (P i).1)
    have dy := Nat.le_trans (dgP_mono P (P i).2 hi) (hd (P i).2)
    have dx' : dgP P i (P i).1 + 1 + (if (P i).2 = (P i).1 then 1 else 0) ≤ 2 := by
      have : dgP P (i + 1) (P i).1 = dgP P i (P i).1 + (if (P i).1 = (P i).1 then 1 else 0) + (if (P i).2 = (P i).1 then 1 else 0) := rfl
      rw [if_pos rfl] at this; omega
    have dy' : dgP P i (P i).2 ≤ 1 := by
      have : dgP P (i + 1) (P i).2 = dgP P i (P i).2 + (if (P i).1 = (P i).2 then 1 else 0) + (if (P i).2 = (P i).2 then 1 else 0) := rfl
      rw [if_pos rfl] at this; omega
    have dx'' : dgP P i (P i).1 + (if (P i).1 = (P i).2 then 1 else 0) ≤ 1 := by
      by_cases e : (P i).1 = (P i).2
      · rw [if_pos e]; rw [if_pos e.symm] at dx'; omega
      · rw [if_neg e]; omega
    refine ⟨h1.tie r1 r2 r3 r4 dx'' dy', ?_⟩
    have hi2 := tie_iff h1 r1 r2 r3 r4 dx'' dy'
    show closP P i + tieN (tieP P i) (P i).1 (P i).2 + (joinP P i + if labP P i (P i).1 = labP P i (P i).2 then 0 else 1) = i + 1
    unfold tieN
    by_cases e : (tieP P i).getD (P i).1 0 = (P i).2
    · rw [if_pos e, if_pos (hi2.1 e)]; omega
    · rw [if_neg e, if_neg (fun e' => e (hi2.2 e'))]; omega
/-- 25 stands for A where it was cut. -/
def sg (A v : Nat) : Nat := if v = 25 then A else v
theorem lab_swap (W : Nat → Nat) (x y c A u v : Nat) : (lab (lab W x y) c A u = lab (lab W x y) c A v) ↔ (lab (lab W c A) x y u = lab (lab W c A) x y v) := by
  simp only [lab_iff]
  grind
theorem join_step (W : Nat → Nat) (x y c A : Nat) (q : Prop) [Decidable q] (hq : q ↔ (W x = W y ∨ (W x = W c ∧ W A = W y) ∨ (W x = W A ∧ W c = W y))) :
    (if W c = W A then 1 else 0) + (if W x = W y then 0 else 1) = (if q then 0 else 1) + (if lab W x y c = lab W x y A then 1 else 0) := by
  have k := lab_iff W x y c A
  by_cases c1 : W x = W y
  · have hq1 : q := hq.2 (Or.inl c1)
    rw [if_pos c1, if_pos hq1]
    by_cases c2 : W c = W A
    · rw [if_pos c2, if_pos (k.2 (Or.inl c2))]
    · rw [if_neg c2, if_neg (fun e => by have := k.1 e; omega)]
  · rw [if_neg c1]
    by_cases c2 : W c = W A
    · rw [if_pos c2, if_pos (k.2 (Or.inl c2)), if_neg (fun e => by have := hq.1 e; omega)]
    · rw [if_neg c2]
      by_cases c3 : q
      · have := hq.1 c3
        rw [if_pos c3, if_pos (k.2 (by omega))]
      · have h3 : ¬ lab W x y c = lab W x y A := fun e => c3 (hq.2 (by have := k.1 e; omega))
        rw [if_neg c3, if_neg h3]
theorem cut_join {P Q : Nat → Nat × Nat} {m A : Nat} (hA : A ≠ 25) (h : ∀ i, i < m → (P i).1 = sg A (Q i).1 ∧ (P i).2 = sg A (Q i).2) :
    ∀ i, i ≤ m → (∀ u v, labP P i (sg A u) = labP P i (sg A v) ↔ lab (labP Q i) 25 A u = lab (labP Q i) 25 A v) ∧ joinP Q i = joinP P i + (if labP Q i 25 = labP Q i A then 1 else 0) := by
  intro i hi
  induction i with
  | zero =>
    refine ⟨fun u v => ?_, ?_⟩
    · rw [lab_iff]
      show sg A u = sg A v ↔ u = v ∨ (u = 25 ∧ A = v) ∨ (u = A ∧ 25 = v)
      unfold sg
      by_cases e1 : u = 25 <;> by_cases e2 : v = 25
      · rw [if_pos e1, if_pos e2]; omega
      · rw [if_pos e1, if_neg e2]; omega
      · rw [if_neg e1, if_pos e2]; omega
      · rw [if_neg e1, if_neg e2]; omega
    · show 0 = 0 + (if 25 = A then 1 else 0)
      rw [if_neg (Ne.symm hA)]
  | succ i ih =>
    obtain ⟨h1, h2⟩ := ih (by omega)
    obtain ⟨e1, e2⟩ := h i (by omega)
    have hL : ∀ u v, labP P i (sg A u) = labP P i (sg A v) ↔ lab (labP Q i) 25 A u = lab (labP Q i) 25 A v := h1
    refine ⟨fun u v => ?_, ?_⟩
    · show lab (labP P i) (P i).1 (P i).2 (sg A u) = lab (labP P i) (P i).1 (P i).2 (sg A v) ↔ lab (lab (labP Q i) (Q i).1 (Q i).2) 25 A u = lab (lab (labP Q i) (Q i).1 (Q i).2) 25 A v
      rw [lab_swap, lab_iff, lab_iff (lab (labP Q i) 25 A), e1, e2, hL, hL, hL, hL, hL]
    · show joinP Q i + (if labP Q i (Q i).1 = labP Q i (Q i).2 then 0 else 1) = joinP P i + (if labP P i (P i).1 = labP P i (P i).2 then 0 else 1) + (if lab (labP Q i) (Q i).1 (Q i).2 25 = lab (labP Q i) (Q i).1 (Q i).2 A then 1 else 0)
      have k1 := hL (Q i).1 (Q i).2
      rw [← e1, ← e2, lab_iff] at k1
      have k2 := join_step (labP Q i) (Q i).1 (Q i).2 25 A (labP P i (P i).1 = labP P i (P i).2) k1
      omega
end Go.Proofs.YtihijieciogabaaDoor
/- Polynomials in form, as lists: exponents rise, no coefficient is 0; such a list is told by its coefficients. Plain mathematics: no program is named here. -/
namespace Go.Proofs.YtihijieciogabaaDoor.Poly

/-- The list l is in form, and f tells its coefficients. -/
def Canon (l : List (Int × Int)) (f : Int → Int) : Prop := l.Pairwise (fun a b => a.1 < b.1) ∧ ∀ x c, (x, c) ∈ l ↔ (f x = c ∧ c ≠ 0)

theorem canon_unique : ∀ {l m : List (Int × Int)} {f : Int → Int}, Canon l f → Canon m f → l = m := by
  intro l
  induction l with
  | nil =>
    intro m f h1 h2
    cases m with
    | nil => rfl
    | cons b m =>
      have := (h1.2 b.1 b.2).2 ((h2.2 b.1 b.2).1 (by simp))
      cases this
  | cons a l ih =>
    intro m f h1 h2
    cases m with
    | nil =>
      have := (h2.2 a.1 a.2).2 ((h1.2 a.1 a.2).1 (by simp))
      cases this
    | cons b m =>
      have ha : a ∈ b :: m := (h2.2 a.1 a.2).2 ((h1.2 a.1 a.2).1 (by simp))
      have hb : b ∈ a :: l := (h1.2 b.1 b.2).2 ((h2.2 b.1 b.2).1 (by simp))
      have s1 := List.pairwise_cons.1 h1.1
      have s2 := List.pairwise_cons.1 h2.1
      have hab : a = b := by
        rcases List.mem_cons.1 ha with h | h
        · exact h
        · rcases List.mem_cons.1 hb with h' | h'
          · exact h'.symm
          · have q1 := s1.1 b h'
            have q2 := s2.1 a h
            omega
      subst hab
      congr 1
      -- the tails: both in form for f struck at a's exponent
      refine ih (f := fun x => if x = a.1 then 0 else f x) ⟨s1.2, fun x c => ?_⟩ ⟨s2.2, fun x c => ?_⟩
      · have h := h1.2 x c
        by_cases hx : x = a.1
        · subst hx
          simp only [if_true]
          constructor
          · intro hm
            have := s1.1 _ hm
            simp at this
          · rintro ⟨rfl, hc⟩
            exact absurd rfl hc
        · simp only [if_neg hx]
          rw [← h]
          constructor
          · intro hm
            exact List.mem_cons_of_mem _ hm
          · intro hm
            rcases List.mem_cons.1 hm with h' | h'
            · exact absurd (by rw [← h']) hx
            · exact h'
      · have h := h2.2 x c
        by_cases hx : x = a.1
        · subst hx
          simp only [if_true]
          constructor
          · intro hm
            have := s2.1 _ hm
            simp at this
          · rintro ⟨rfl, hc⟩
            exact absurd rfl hc
        · simp only [if_neg hx]
          rw [← h]
          constructor
          · intro hm
            exact List.mem_cons_of_mem _ hm
          · intro hm
            rcases List.mem_cons.1 hm with h' | h'
            · exact absurd (by rw [← h']) hx
            · exact h'

theorem canon_congr {l : List (Int × Int)} {f g : Int → Int} (h : Canon l f) (e : ∀ x, f x = g x) : Canon l g := ⟨h.1, fun x c => by rw [h.2, e]⟩

/-- A list with one place for each exponent, sorted level or rising, is strictly rising. -/
theorem rising_of {l acc : List (Int × Int)} (hp : l.Perm acc) (hs : l.Pairwise (fun a b => a.1 ≤ b.1)) (hn : acc.Pairwise (fun a b => a.1 ≠ b.1)) : l.Pairwise (fun a b => a.1 < b.1) := by
  have hn' : l.Pairwise (fun a b => a.1 ≠ b.1) := (hp.pairwise_iff (fun {a b} h => Ne.symm h)).2 hn
  have := hs.and hn'
  exact this.imp fun ⟨h1, h2⟩ => by omega

/-- The coefficient of x in a list of terms that need not be in form. -/
def coefL : List (Int × Int) → Int → Int
  | [], _ => 0
  | t :: ts, x => (if t.1 = x then t.2 else 0) + coefL ts x

theorem coefL_append (a b : List (Int × Int)) (x : Int) : coefL (a ++ b) x = coefL a x + coefL b x := by
  induction a with
  | nil => simp [coefL]
  | cons t a ih => simp only [List.cons_append, coefL, ih]; omega

theorem coefL_take (ts : List (Int × Int)) (k : Nat) (hk : k < ts.length) (x : Int) : coefL (ts.take (k + 1)) x = coefL (ts.take k) x + (if (ts.getD k (0, 0)).1 = x then (ts.getD k (0, 0)).2 else 0) := by
  rw [List.take_succ_eq_append_getElem hk, coefL_append]
  have g : ts.getD k (0, 0) = ts[k] := by simp [List.getD, hk]
  rw [g]
  simp [coefL]

theorem coefL_le (ts : List (Int × Int)) (M x : Int) (h : ∀ t ∈ ts, -M ≤ t.2 ∧ t.2 ≤ M) (hM : 0 ≤ M) : -(M * ts.length) ≤ coefL ts x ∧ coefL ts x ≤ M * ts.length := by
  induction ts with
  | nil => simp [coefL]
  | cons t ts ih =>
    have h1 := ih fun t ht => h t (List.mem_cons_of_mem _ ht)
    have h2 := h t (by simp)
    simp only [coefL, List.length_cons]
    have e : M * ((ts.length + 1 : Nat) : Int) = M * ts.length + M := by rw [Int.natCast_add, Int.mul_add]; simp
    rw [e]
    split <;> omega

theorem coefL_zero (ts : List (Int × Int)) (x : Int) (h : ∀ t ∈ ts, t.1 ≠ x) : coefL ts x = 0 := by
  induction ts with
  | nil => rfl
  | cons t ts ih =>
    simp only [coefL]
    rw [if_neg (h t (by simp)), ih fun t ht => h t (List.mem_cons_of_mem _ ht)]
    rfl

theorem coefL_mem {ts : List (Int × Int)} (hn : ts.Pairwise (fun a b => a.1 ≠ b.1)) (hz : ∀ t ∈ ts, t.2 ≠ 0) (x c : Int) : (x, c) ∈ ts ↔ (coefL ts x = c ∧ c ≠ 0) := by
  induction ts with
  | nil =>
    simp only [List.not_mem_nil, false_iff, coefL]
    rintro ⟨rfl, h⟩
    exact h rfl
  | cons t ts ih =>
    have hp := List.pairwise_cons.1 hn
    have ih := ih hp.2 fun t ht => hz t (List.mem_cons_of_mem _ ht)
    simp only [coefL, List.mem_cons]
    by_cases hx : t.1 = x
    · subst hx
      have h0 := coefL_zero ts t.1 fun s hs => (hp.1 s hs).symm
      rw [if_pos rfl, h0, Int.add_zero]
      constructor
      · rintro (h | h)
        · have hc : c = t.2 := congrArg Prod.snd h
          rw [hc]; exact ⟨rfl, hz t (by simp)⟩
        · exact absurd rfl (hp.1 (t.1, c) h)
      · rintro ⟨rfl, _⟩
        exact Or.inl rfl
    · rw [if_neg hx, Int.zero_add, ← ih]
      constructor
      · rintro (h | h)
        · exact absurd (by rw [← h]) hx
        · exact h
      · exact Or.inr

/-- A list in form is told by its coefficients. -/
theorem canon_self {l : List (Int × Int)} (hs : l.Pairwise (fun a b => a.1 < b.1)) (hz : ∀ t ∈ l, t.2 ≠ 0) : Canon l (coefL l) :=
  ⟨hs, fun x c => coefL_mem (hs.imp fun h => by omega) hz x c⟩

/-- Two lists with the same terms, one place for each exponent. -/
theorem coefL_perm {a b : List (Int × Int)} (h : a.Perm b) (x : Int) : coefL a x = coefL b x := by
  induction h with
  | nil => rfl
  | cons t _ ih => simp only [coefL, ih]
  | swap s t l => simp only [coefL]; omega
  | trans _ _ ih1 ih2 => rw [ih1, ih2]
end Go.Proofs.YtihijieciogabaaDoor.Poly
