/- Determinants along the first row, their exponents and their bounds. Plain mathematics: no program is named here. -/
import Derived.Test.YthbhllomikfbhaaDoorPD10
namespace Go.Proofs.YthbhllomikfbhaaDoor.Poly

/-- A list of different numbers below n is no longer than n. -/
theorem few_nats : ∀ (n : Nat) (l : List Nat), l.Pairwise (· ≠ ·) → (∀ x ∈ l, x < n) → l.length ≤ n := by
  intro n
  induction n with
  | zero =>
    intro l _ h
    cases l with
    | nil => simp
    | cons x l => exact absurd (h x (by simp)) (by omega)
  | succ n ih =>
    intro l hp h
    have h1 := ih (l.filter fun x => x != n) (hp.sublist List.filter_sublist) (fun x hx => by
      simp only [List.mem_filter, bne_iff_ne, ne_eq] at hx
      have := h x hx.1
      omega)
    have h2 : ∀ (l : List Nat), l.Pairwise (· ≠ ·) → l.length ≤ (l.filter fun x => x != n).length + 1 := by
      intro l hp
      induction l with
      | nil => simp
      | cons x l ihl =>
        rw [List.pairwise_cons] at hp
        by_cases hx : x = n
        · have e : (l.filter fun x => x != n) = l := by
            rw [List.filter_eq_self]
            intro y hy
            have := hp.1 y hy
            simp only [bne_iff_ne, ne_eq]
            omega
          simp [hx, e]
        · have := ihl hp.2
          simp [hx]
          omega
    have := h2 l hp
    omega

theorem few_ints (K : Nat) (l : List Int) (hp : l.Pairwise (· ≠ ·)) (h : ∀ x ∈ l, -(K : Int) ≤ x ∧ x ≤ K) : l.length ≤ 2 * K + 1 := by
  have := few_nats (2 * K + 1) (l.map fun x : Int => (x + (K : Int)).toNat) (by
    rw [List.pairwise_map]
    refine List.Pairwise.imp_of_mem ?_ hp
    intro a b ha hb hab e
    have := h a ha
    have := h b hb
    omega) (fun x hx => by
    simp only [List.mem_map] at hx
    obtain ⟨y, hy, rfl⟩ := hx
    have := h y hy
    omega)
  simpa using this

/-- A polynomial in form has few terms if its exponents are small. -/
theorem canon_len {l : List (Int × Int)} {f : Int → Int} (h : Canon l f) (K : Nat) (hf : ∀ x, f x ≠ 0 → -(K : Int) ≤ x ∧ x ≤ K) : l.length ≤ 2 * K + 1 := by
  have := few_ints K (l.map Prod.fst) (by
    rw [List.pairwise_map]
    exact h.1.imp fun hab => by omega) (fun x hx => by
    simp only [List.mem_map] at hx
    obtain ⟨t, ht, rfl⟩ := hx
    have := (h.2 t.1 t.2).1 ht
    exact hf t.1 (by rw [this.1]; exact this.2))
  simpa using this

/-- The first m summands, with signs in turn. -/
def altTo (g : Nat → Int → Int) : Nat → Int → Int
  | 0, _ => 0
  | m + 1, y => altTo g m y + sgn m * g m y

theorem altTo_shift (g : Nat → Int → Int) (m : Nat) (y : Int) : altTo g (m + 1) y = g 0 y - altTo (fun j => g (j + 1)) m y := by
  induction m with
  | zero => simp [altTo, sgn]
  | succ m ih =>
    have e : altTo g (m + 1 + 1) y = altTo g (m + 1) y + sgn (m + 1) * g (m + 1) y := rfl
    have e2 : altTo (fun j => g (j + 1)) (m + 1) y = altTo (fun j => g (j + 1)) m y + sgn m * g (m + 1) y := rfl
    have e3 : sgn (m + 1) * g (m + 1) y = -(sgn m * g (m + 1) y) := by simp only [sgn, Int.neg_mul]
    rw [e, ih, e2, e3]
    omega

theorem rowF_alt (a : Nat → List (Int × Int)) (cs : List Nat) (h : List Nat → Int → Int) (y : Int) : rowF a cs h y = altTo (fun j => prodL (a (cs.getD j 0)) (h (cs.eraseIdx j))) cs.length y := by
  induction cs generalizing h with
  | nil => rfl
  | cons c cs ih =>
    rw [List.length_cons, altTo_shift]
    simp only [rowF, ih]
    rfl

theorem rowF_map (a : Nat → List (Int × Int)) (p : Nat → Nat) (cs : List Nat) (h : List Nat → Int → Int) (y : Int) : rowF a (cs.map p) h y = rowF (fun c => a (p c)) cs (fun rest => h (rest.map p)) y := by
  induction cs generalizing h with
  | nil => rfl
  | cons c cs ih => simp only [List.map_cons, rowF, ih]
theorem detF_map (rows : List (Nat → List (Int × Int))) (p : Nat → Nat) : ∀ cs, detF rows (cs.map p) = detF (rows.map fun r c => r (p c)) cs := by
  induction rows with
  | nil => intro cs; rfl
  | cons r rows ih =>
    intro cs
    funext y
    simp only [detF, List.map_cons, rowF_map]
    have e : (fun rest => detF rows (rest.map p)) = detF (rows.map fun r c => r (p c)) := funext ih
    rw [e]

/-- All but column c. -/
def skip (c i : Nat) : Nat := if i < c then i else i + 1
theorem range_skip (n c : Nat) (hc : c < n + 1) : (List.range (n + 1)).eraseIdx c = (List.range n).map (skip c) := by
  apply List.ext_getElem?
  intro i
  rw [List.getElem?_eraseIdx, List.getElem?_map]
  unfold skip
  by_cases h : i < c
  · rw [if_pos h, List.getElem?_range (by omega), List.getElem?_range (by omega)]
    simp [h]
  · rw [if_neg h]
    by_cases hi : i < n
    · rw [List.getElem?_range (by omega), List.getElem?_range (by omega)]
      simp [h]
    · rw [List.getElem?_eq_none (by simp; omega), List.getElem?_eq_none (by simp; omega)]
      rfl
theorem erase_skip {α : Type} (l : List α) (c i : Nat) (d : α) : (l.eraseIdx c).getD i d = l.getD (skip c i) d := by
  unfold skip List.getD
  rw [List.getElem?_eraseIdx]
  split <;> rfl

/-- The rows of a table, as columns. -/
def rowsOf (T : List (List (List (Int × Int)))) : List (Nat → List (Int × Int)) := T.map fun R c => R.getD c []
/-- The determinant of a table. -/
def detOf (T : List (List (List (Int × Int)))) : Int → Int := detF (rowsOf T) (List.range T.length)
/-- The table without its first row and without column c. -/
def lessOf (T : List (List (List (Int × Int)))) (c : Nat) : List (List (List (Int × Int))) := T.tail.map fun R => R.eraseIdx c

theorem detOf_less (R : List (List (Int × Int))) (T : List (List (List (Int × Int)))) (c : Nat) (hc : c < T.length + 1) : detOf (lessOf (R :: T) c) = detF (rowsOf T) ((List.range (T.length + 1)).eraseIdx c) := by
  rw [range_skip _ _ hc, detF_map]
  unfold detOf lessOf rowsOf
  simp only [List.tail_cons, List.map_map, List.length_map]
  congr 1
  apply List.map_congr_left
  intro Q _
  funext i
  simp only [Function.comp]
  exact erase_skip Q c i []

/-- Along the first row. -/
theorem detOf_cons (R : List (List (Int × Int))) (T : List (List (List (Int × Int)))) (y : Int) : detOf (R :: T) y = altTo (fun c => prodL (R.getD c []) (detOf (lessOf (R :: T) c))) (T.length + 1) y := by
  have e : detOf (R :: T) y = rowF (fun c => R.getD c []) (List.range (T.length + 1)) (detF (rowsOf T)) y := rfl
  rw [e, rowF_alt, List.length_range]
  have g : ∀ m, m ≤ T.length + 1 → altTo (fun j => prodL (R.getD ((List.range (T.length + 1)).getD j 0) []) (detF (rowsOf T) ((List.range (T.length + 1)).eraseIdx j))) m y = altTo (fun c => prodL (R.getD c []) (detOf (lessOf (R :: T) c))) m y := by
    intro m hm
    induction m with
    | zero => rfl
    | succ m ih =>
      simp only [altTo]
      rw [ih (by omega), detOf_less R T m (by omega)]
      have e2 : (List.range (T.length + 1)).getD m 0 = m := by simp [List.getD, show m < T.length + 1 by omega]
      rw [e2]
  exact g _ (Nat.le_refl _)

theorem rowsOf_range (T : List (List (List (Int × Int)))) : (List.range T.length).map (rowAt T) = rowsOf T := by
  apply List.ext_getElem?
  intro i
  unfold rowsOf rowAt
  rw [List.getElem?_map, List.getElem?_map]
  by_cases h : i < T.length
  · rw [List.getElem?_range h]
    simp [List.getD, h]
  · rw [List.getElem?_eq_none (by simp; omega), List.getElem?_eq_none (by omega)]
    rfl
theorem minor_det (T : List (List (List (Int × Int)))) (h : T.length < 7) : minorF T (2 ^ T.length - 1) = detOf T := by
  rw [minor_full T T.length h, rowsOf_range]
  rfl

/-- A square table of polynomials that may be handed in, each small. -/
def GoodT (T : List (List (List (Int × Int)))) (n : Nat) : Prop := T.length = n ∧ ∀ R ∈ T, R.length = n ∧ ∀ l ∈ R, mayB l = true ∧ sizeL l ≤ 100

theorem good_less {R : List (List (Int × Int))} {T : List (List (List (Int × Int)))} {n c : Nat} (h : GoodT (R :: T) (n + 1)) (hc : c < n + 1) : GoodT (lessOf (R :: T) c) n := by
  refine ⟨by have := h.1; simp [lessOf] at this ⊢; exact this, fun Q hQ => ?_⟩
  simp only [lessOf, List.tail_cons, List.mem_map] at hQ
  obtain ⟨Q0, hQ0, rfl⟩ := hQ
  have h0 := h.2 Q0 (by simp [hQ0])
  refine ⟨by rw [List.length_eraseIdx, if_pos (by omega)]; omega, fun l hl => h0.2 l (List.mem_of_mem_eraseIdx hl)⟩

theorem getD_mem {α : Type} (l : List α) (i : Nat) (d : α) (h : i < l.length) : l.getD i d ∈ l := by
  have e : l.getD i d = l[i] := by simp [List.getD, h]
  rw [e]
  exact List.getElem_mem h

theorem good_at {T : List (List (List (Int × Int)))} {n : Nat} (h : GoodT T n) {i c : Nat} (hi : i < n) (hc : c < n) : mayB ((T.getD i []).getD c []) = true ∧ sizeL ((T.getD i []).getD c []) ≤ 100 := by
  have h1 := h.2 _ (getD_mem T i [] (by have := h.1; omega))
  exact h1.2 _ (getD_mem _ c [] (by have := h1.1; omega))

theorem prodL_supp (l : List (Int × Int)) (g : Int → Int) (K y : Int) (hl : ∀ t ∈ l, -1000 ≤ t.1 ∧ t.1 ≤ 1000) (hg : ∀ x, g x ≠ 0 → -K ≤ x ∧ x ≤ K) (h : prodL l g y ≠ 0) : -(K + 1000) ≤ y ∧ y ≤ K + 1000 := by
  induction l with
  | nil => exact absurd rfl h
  | cons t l ih =>
    by_cases h0 : g (y - t.1) = 0
    · refine ih (fun s hs => hl s (by simp [hs])) (fun e => h ?_)
      simp [prodL, h0, e]
    · have h1 := hg _ h0
      have h2 := hl t (by simp)
      omega
theorem altTo_supp (g : Nat → Int → Int) (m : Nat) (y : Int) (h : altTo g m y ≠ 0) : ∃ j, j < m ∧ g j y ≠ 0 := by
  induction m with
  | zero => exact absurd rfl h
  | succ m ih =>
    by_cases h0 : g m y = 0
    · obtain ⟨j, hj, hg⟩ := ih (fun e => h (by simp [altTo, h0, e]))
      exact ⟨j, by omega, hg⟩
    · exact ⟨m, by omega, h0⟩

theorem may_exps {l : List (Int × Int)} (hm : mayB l = true) : ∀ t ∈ l, -1000 ≤ t.1 ∧ t.1 ≤ 1000 := fun t ht => ⟨(may_coef hm t ht).1, (may_coef hm t ht).2.1⟩

theorem det_supp : ∀ (n : Nat) (T : List (List (List (Int × Int)))), GoodT T n → ∀ y, detOf T y ≠ 0 → -(1000 * (n : Int)) ≤ y ∧ y ≤ 1000 * (n : Int) := by
  intro n
  induction n with
  | zero =>
    intro T h y hy
    have e : T = [] := List.length_eq_zero_iff.1 h.1
    subst e
    have e2 : detOf [] y = oneF y := rfl
    rw [e2] at hy
    unfold oneF at hy
    by_cases h0 : y = 0
    · omega
    · rw [if_neg h0] at hy; exact absurd rfl hy
  | succ n ih =>
    intro T h y hy
    cases T with
    | nil => have := h.1; simp at this
    | cons R T =>
      have hT : T.length = n := by have := h.1; simpa using this
      rw [detOf_cons] at hy
      obtain ⟨c, hc, hg⟩ := altTo_supp _ _ _ hy
      rw [hT] at hc
      have h1 := prodL_supp _ _ (1000 * (n : Int)) y (may_exps (good_at h (i := 0) (by omega) hc).1) (ih _ (good_less h hc)) hg
      omega

theorem ones_full (n : Nat) (hn : n < 7) : onesTo (2 ^ n - 1) 6 = n := by
  have h0 : 0 < 2 ^ n := Nat.pow_pos (by decide)
  have := cols_len (2 ^ n - 1) (pow_64 hn (by omega))
  rw [cols_full n hn] at this
  simpa using this.symm

theorem det_abs {T : List (List (List (Int × Int)))} {n : Nat} (h : GoodT T n) (hn : n < 7) (y : Int) : (detOf T y).natAbs ≤ bd n := by
  have h0 : 0 < 2 ^ n := Nat.pow_pos (by decide)
  have h1 := minor_abs T n hn (fun i c hi hc => (good_at h hi hc).2) (2 ^ n - 1) (by omega) y
  rw [ones_full n hn] at h1
  have e := minor_det T (by rw [h.1]; exact hn)
  rw [h.1] at e
  rw [← e]
  exact h1

/-- The determinant along the first row, up to column m. -/
def partOf (T : List (List (List (Int × Int)))) (m : Nat) : Int → Int := altTo (fun c => prodL ((T.getD 0 []).getD c []) (detOf (lessOf T c))) m

theorem part_all (R : List (List (Int × Int))) (T : List (List (List (Int × Int)))) (y : Int) : partOf (R :: T) (T.length + 1) y = detOf (R :: T) y := (detOf_cons R T y).symm

theorem sgn_one (m : Nat) : sgn m = 1 ∨ sgn m = -1 := by
  induction m with
  | zero => exact Or.inl rfl
  | succ m ih => simp only [sgn]; omega

theorem detPart_abs {T : List (List (List (Int × Int)))} {n : Nat} (h : GoodT T (n + 1)) (hn : n + 1 < 7) (m : Nat) (hm : m ≤ n + 1) (y : Int) : (partOf T m y).natAbs ≤ m * (100 * bd n) := by
  induction m with
  | zero => simp [partOf, altTo]
  | succ m ih =>
    have ih := ih (by omega)
    cases T with
    | nil => have := h.1; simp at this
    | cons R T =>
      have e : partOf (R :: T) (m + 1) y = partOf (R :: T) m y + sgn m * prodL (((R :: T).getD 0 []).getD m []) (detOf (lessOf (R :: T) m)) y := rfl
      have h1 := prodL_100 (((R :: T).getD 0 []).getD m []) (good_at h (i := 0) (by omega) (by omega)).2 (detOf (lessOf (R :: T) m)) (bd n) (fun x => det_abs (good_less h (by omega)) (by omega) x) y
      have h2 := Int.natAbs_add_le (partOf (R :: T) m y) (sgn m * prodL (((R :: T).getD 0 []).getD m []) (detOf (lessOf (R :: T) m)) y)
      have h3 : (sgn m * prodL (((R :: T).getD 0 []).getD m []) (detOf (lessOf (R :: T) m)) y).natAbs ≤ 100 * bd n := by
        rcases sgn_one m with e | e <;> rw [e] <;> omega
      rw [e, Nat.add_mul]
      omega

theorem detPart_supp {T : List (List (List (Int × Int)))} {n : Nat} (h : GoodT T (n + 1)) (m : Nat) (hm : m ≤ n + 1) (y : Int) (hy : partOf T m y ≠ 0) : -(1000 * ((n : Int) + 1)) ≤ y ∧ y ≤ 1000 * ((n : Int) + 1) := by
  cases T with
  | nil => have := h.1; simp at this
  | cons R T =>
    obtain ⟨c, hc, hg⟩ := altTo_supp _ _ _ hy
    have h1 := prodL_supp _ _ (1000 * (n : Int)) y (may_exps (good_at h (i := 0) (by omega) (by omega)).1) (det_supp n _ (good_less h (by omega))) hg
    omega

/-- The coefficients of a list in form. -/
theorem canon_coef {l : List (Int × Int)} {f : Int → Int} (h : Canon l f) (x : Int) : coefL l x = f x := by
  have hn : l.Pairwise (fun a b => a.1 ≠ b.1) := h.1.imp fun hab => by omega
  have hz : ∀ t ∈ l, t.2 ≠ 0 := fun t ht => ((h.2 t.1 t.2).1 ht).2
  by_cases h0 : f x = 0
  · rw [h0]
    by_cases h1 : coefL l x = 0
    · exact h1
    · have := (coefL_mem hn hz x (coefL l x)).2 ⟨rfl, h1⟩
      have := ((h.2 x (coefL l x)).1 this).1
      rw [h0] at this
      exact this.symm
  · have := (h.2 x (f x)).2 ⟨rfl, h0⟩
    exact ((coefL_mem hn hz x (f x)).1 this).1

theorem take_bd {l : List (Int × Int)} {f : Int → Int} (h : Canon l f) (M : Int) (hM : 0 ≤ M) (hf : ∀ x, -M ≤ f x ∧ f x ≤ M) (k : Nat) (x : Int) : -M ≤ coefL (l.take k) x ∧ coefL (l.take k) x ≤ M := by
  by_cases h0 : coefL (l.take k) x = 0
  · rw [h0]; omega
  · have hr : (l.take k).Pairwise (fun s t => s.1 ≠ t.1) := ((h.1.imp fun hab => by omega : l.Pairwise (fun s t => s.1 ≠ t.1))).sublist (List.take_sublist _ _)
    have h1 := (coefL_mem hr (fun t ht => ((h.2 t.1 t.2).1 (List.mem_of_mem_take ht)).2) x (coefL (l.take k) x)).2 ⟨rfl, h0⟩
    have h2 := ((h.2 _ _).1 (List.mem_of_mem_take h1)).1
    rw [← h2]
    exact hf x
theorem take_supp {l : List (Int × Int)} {f : Int → Int} (h : Canon l f) (K : Int) (hf : ∀ x, f x ≠ 0 → -K ≤ x ∧ x ≤ K) (k : Nat) (x : Int) (hx : coefL (l.take k) x ≠ 0) : -K ≤ x ∧ x ≤ K := by
  have hr : (l.take k).Pairwise (fun s t => s.1 ≠ t.1) := ((h.1.imp fun hab => by omega : l.Pairwise (fun s t => s.1 ≠ t.1))).sublist (List.take_sublist _ _)
  have h1 := (coefL_mem hr (fun t ht => ((h.2 t.1 t.2).1 (List.mem_of_mem_take ht)).2) x (coefL (l.take k) x)).2 ⟨rfl, hx⟩
  have h2 := (h.2 _ _).1 (List.mem_of_mem_take h1)
  exact hf x (by rw [h2.1]; exact h2.2)
end Go.Proofs.YthbhllomikfbhaaDoor.Poly
