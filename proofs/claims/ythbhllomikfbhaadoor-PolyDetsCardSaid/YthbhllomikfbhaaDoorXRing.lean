/- Sums and products of polynomials as lists: the laws of a ring, and their values. Plain mathematics: no program is named here. -/
import Derived.Test.YthbhllomikfbhaaDoorPPut
import Derived.Test.YthbhllomikfbhaaDoorPMath
import Derived.Test.YthbhllomikfbhaaDoorPB3
namespace Go.Proofs.YthbhllomikfbhaaDoor.Poly

/-- A list of terms, put in form. -/
def normL : List (Int × Int) → List (Int × Int)
  | [] => []
  | t :: ts => putL (normL ts) t.1 t.2

theorem canon_norm (l : List (Int × Int)) : Canon (normL l) (coefL l) := by
  induction l with
  | nil => exact canon_self List.Pairwise.nil (fun t h => by cases h)
  | cons t l ih => exact canon_congr (canon_put ih t.1 t.2) fun x => by simp only [coefL]; omega

theorem canon_coef {l : List (Int × Int)} {f : Int → Int} (h : Canon l f) (x : Int) : coefL l x = f x := by
  have hn : l.Pairwise (fun a b => a.1 ≠ b.1) := h.1.imp fun h => by omega
  have hz : ∀ t ∈ l, t.2 ≠ 0 := fun t ht => ((h.2 t.1 t.2).1 ht).2
  have hm := coefL_mem hn hz x
  by_cases h0 : f x = 0
  · rw [h0]
    by_cases h1 : coefL l x = 0
    · exact h1
    · have := (hm (coefL l x)).2 ⟨rfl, h1⟩
      have := (h.2 _ _).1 this
      omega
  · have := (h.2 x (f x)).2 ⟨rfl, h0⟩
    exact ((hm (f x)).1 this).1

theorem coef_norm (l : List (Int × Int)) (x : Int) : coefL (normL l) x = coefL l x := canon_coef (canon_norm l) x

theorem norm_eq {l m : List (Int × Int)} (h : ∀ x, coefL l x = coefL m x) : normL l = normL m := canon_unique (canon_norm l) (canon_congr (canon_norm m) fun x => (h x).symm)

/-- The terms of a product, not in form. -/
def convL : List (Int × Int) → List (Int × Int) → List (Int × Int)
  | [], _ => []
  | s :: a, b => b.map (fun u => (s.1 + u.1, s.2 * u.2)) ++ convL a b

theorem coef_shift (s : Int × Int) (b : List (Int × Int)) (y : Int) : coefL (b.map fun u => (s.1 + u.1, s.2 * u.2)) y = s.2 * coefL b (y - s.1) := by
  induction b with
  | nil => simp [coefL]
  | cons u b ih =>
    simp only [List.map_cons, coefL, ih, Int.mul_add]
    by_cases h : u.1 = y - s.1
    · rw [if_pos h, if_pos (by omega)]
    · rw [if_neg h, if_neg (by omega), Int.mul_zero]

theorem coef_conv (a b : List (Int × Int)) (y : Int) : coefL (convL a b) y = prodL a (coefL b) y := by
  induction a with
  | nil => rfl
  | cons s a ih => simp only [convL, coefL_append, coef_shift, prodL, ih]

def addL (a b : List (Int × Int)) : List (Int × Int) := normL (a ++ b)
def mulL (a b : List (Int × Int)) : List (Int × Int) := normL (convL a b)

theorem coef_add (a b : List (Int × Int)) (x : Int) : coefL (addL a b) x = coefL a x + coefL b x := by rw [addL, coef_norm, coefL_append]
theorem coef_mul (a b : List (Int × Int)) (x : Int) : coefL (mulL a b) x = prodL a (coefL b) x := by rw [mulL, coef_norm, coef_conv]

theorem add_canon {r a b : List (Int × Int)} (h : Canon r (fun x => coefL a x + coefL b x)) : r = addL a b :=
  canon_unique h (canon_congr (canon_norm _) fun x => coefL_append a b x)
theorem mul_canon {r a b : List (Int × Int)} (h : Canon r (fun x => prodL a (coefL b) x)) : r = mulL a b :=
  canon_unique h (canon_congr (canon_norm _) fun x => coef_conv a b x)

theorem prodL_congr (a : List (Int × Int)) {f g : Int → Int} (h : ∀ x, f x = g x) (y : Int) : prodL a f y = prodL a g y := by
  have : f = g := funext h
  rw [this]

theorem prodL_add (a : List (Int × Int)) (f g : Int → Int) (y : Int) : prodL a (fun x => f x + g x) y = prodL a f y + prodL a g y := by
  induction a with
  | nil => rfl
  | cons t a ih => simp only [prodL, ih, Int.mul_add]; omega

theorem prodL_zero (a : List (Int × Int)) (y : Int) : prodL a (fun _ => 0) y = 0 := by
  induction a with
  | nil => rfl
  | cons t a ih => simp only [prodL, ih, Int.mul_zero]; rfl

theorem prodL_one (a : List (Int × Int)) (e c y : Int) : prodL a (fun x => if e = x then c else 0) y = c * coefL a (y - e) := by
  induction a with
  | nil => simp [prodL, coefL]
  | cons t a ih =>
    simp only [prodL, coefL, ih, Int.mul_add]
    by_cases h : e = y - t.1
    · rw [if_pos h, if_pos (by omega), Int.mul_comm]
    · rw [if_neg h, if_neg (by omega), Int.mul_zero, Int.mul_zero]

theorem prodL_comm (a b : List (Int × Int)) (y : Int) : prodL a (coefL b) y = prodL b (coefL a) y := by
  induction a with
  | nil => exact (prodL_zero b y).symm
  | cons t a ih =>
    have h : prodL b (coefL (t :: a)) y = prodL b (fun x => if t.1 = x then t.2 else 0) y + prodL b (coefL a) y := prodL_add b _ _ y
    rw [h, prodL_one]
    simp only [prodL, ih]

theorem prodL_shift (b : List (Int × Int)) (g : Int → Int) (e c y : Int) : prodL b (fun z => c * g (z - e)) y = c * prodL b g (y - e) := by
  induction b with
  | nil => simp [prodL]
  | cons s b ih =>
    simp only [prodL, ih, Int.mul_add]
    have h : y - s.1 - e = y - e - s.1 := by omega
    rw [h, Int.mul_left_comm]

theorem prodL_swap (a b : List (Int × Int)) (g : Int → Int) (y : Int) : prodL a (prodL b g) y = prodL b (prodL a g) y := by
  induction a with
  | nil => exact (prodL_zero b y).symm
  | cons t a ih =>
    have h : prodL b (prodL (t :: a) g) y = prodL b (fun z => t.2 * g (z - t.1)) y + prodL b (prodL a g) y := prodL_add b _ _ y
    rw [h, prodL_shift]
    simp only [prodL, ih]

theorem addL_comm (a b : List (Int × Int)) : addL a b = addL b a := norm_eq fun x => by rw [coefL_append, coefL_append]; omega
theorem mulL_comm (a b : List (Int × Int)) : mulL a b = mulL b a := norm_eq fun x => by rw [coef_conv, coef_conv, prodL_comm]
theorem addL_assoc (a b c : List (Int × Int)) : addL (addL a b) c = addL a (addL b c) := norm_eq fun x => by rw [coefL_append, coefL_append, coef_add, coef_add]; omega
theorem mulL_assoc (a b c : List (Int × Int)) : mulL (mulL a b) c = mulL a (mulL b c) := norm_eq fun x => by
  rw [coef_conv, coef_conv, prodL_comm, prodL_congr c (coef_mul a b), prodL_congr a (coef_mul b c), prodL_swap c a, prodL_congr a (prodL_comm c b)]
theorem mulL_add (a b c : List (Int × Int)) : mulL a (addL b c) = addL (mulL a b) (mulL a c) := norm_eq fun x => by
  rw [coef_conv, coefL_append, coef_mul, coef_mul, prodL_congr a (coef_add b c), prodL_add]
theorem mulL_unit {a : List (Int × Int)} (h : Canon a (coefL a)) : mulL a [(0, 1)] = a := by
  refine canon_unique (canon_norm _) (canon_congr h fun x => ?_)
  rw [coef_conv, prodL_comm]
  simp [prodL]

/-- In form, exponents from -E to E, coefficients from -C to C. -/
def Fine (l : List (Int × Int)) (E C : Int) : Prop := Canon l (coefL l) ∧ ∀ t ∈ l, -E ≤ t.1 ∧ t.1 ≤ E ∧ -C ≤ t.2 ∧ t.2 ≤ C

theorem rising_len {l : List (Int × Int)} {A B : Int} (hs : l.Pairwise (fun a b => a.1 < b.1)) (h : ∀ t ∈ l, A ≤ t.1 ∧ t.1 ≤ B) : (l.length : Int) ≤ max 0 (B - A + 1) := by
  induction l generalizing A with
  | nil => simp; omega
  | cons t l ih =>
    have hp := List.pairwise_cons.1 hs
    have ht := h t (by simp)
    have := ih (A := t.1 + 1) hp.2 fun s hm => ⟨by have := hp.1 s hm; omega, (h s (List.mem_cons_of_mem _ hm)).2⟩
    simp only [List.length_cons]
    omega

theorem Fine.len {l : List (Int × Int)} {E C : Int} (h : Fine l E C) (hE : 0 ≤ E) : (l.length : Int) ≤ 2 * E + 1 := by
  have := rising_len h.1.1 fun t ht => ⟨(h.2 t ht).1, (h.2 t ht).2.1⟩
  omega

theorem fine_may {l : List (Int × Int)} {E C : Int} (h : Fine l E C) (h0 : 0 ≤ E) (hE : E ≤ 31) (hC : C ≤ 1000000) : mayB l = true := by
  have hlen := h.len h0
  refine may_yes l (by omega) fun i hi => (okB_iff l i).2 ?_
  have g : l.getD i (0, 0) = l[i] := by simp [List.getD, hi]
  have hm : l[i] ∈ l := List.getElem_mem hi
  have hb := h.2 _ hm
  have hz := ((h.1.2 l[i].1 l[i].2).1 hm).2
  rw [g]
  refine ⟨by omega, by omega, by omega, by omega, hz, fun hp => ?_⟩
  have g2 : l.getD (i - 1) (0, 0) = l[i - 1] := by simp [List.getD, show i - 1 < l.length by omega]
  rw [g2]
  exact List.pairwise_iff_getElem.1 h.1.1 (i - 1) i (by omega) hi (by omega)

theorem fine_coef {l : List (Int × Int)} {E C : Int} (h : Fine l E C) (hC : 0 ≤ C) (x : Int) : -C ≤ coefL l x ∧ coefL l x ≤ C ∧ (coefL l x ≠ 0 → -E ≤ x ∧ x ≤ E) := by
  by_cases h0 : coefL l x = 0
  · rw [h0]; exact ⟨by omega, hC, fun h => absurd rfl h⟩
  · have := h.2 _ ((h.1.2 x _).2 ⟨rfl, h0⟩)
    exact ⟨this.2.2.1, this.2.2.2, fun _ => ⟨this.1, this.2.1⟩⟩

theorem fine_norm {l : List (Int × Int)} {E C : Int} (h : ∀ x, -C ≤ coefL l x ∧ coefL l x ≤ C ∧ (coefL l x ≠ 0 → -E ≤ x ∧ x ≤ E)) : Fine (normL l) E C := by
  refine ⟨canon_congr (canon_norm l) fun x => (coef_norm l x).symm, fun t ht => ?_⟩
  have hm := ((canon_norm l).2 t.1 t.2).1 ht
  have := h t.1
  rw [hm.1] at this
  have h2 := this.2.2 hm.2
  exact ⟨h2.1, h2.2, this.1, this.2.1⟩

theorem fine_add {a b : List (Int × Int)} {E C D : Int} (ha : Fine a E C) (hb : Fine b E D) (hC : 0 ≤ C) (hD : 0 ≤ D) : Fine (addL a b) E (C + D) := by
  refine fine_norm fun x => ?_
  have h1 := fine_coef ha hC x
  have h2 := fine_coef hb hD x
  rw [coefL_append]
  refine ⟨by omega, by omega, fun h => ?_⟩
  by_cases h0 : coefL a x = 0
  · exact h2.2.2 (by omega)
  · exact h1.2.2 h0

theorem prodL_fine (a : List (Int × Int)) {g : Int → Int} {E F C D : Int} (ha : ∀ t ∈ a, -E ≤ t.1 ∧ t.1 ≤ E ∧ -C ≤ t.2 ∧ t.2 ≤ C) (hg : ∀ x, -D ≤ g x ∧ g x ≤ D ∧ (g x ≠ 0 → -F ≤ x ∧ x ≤ F)) (hC : 0 ≤ C) (hD : 0 ≤ D) (y : Int) :
    -(C * D * (a.length : Int)) ≤ prodL a g y ∧ prodL a g y ≤ C * D * (a.length : Int) ∧ (prodL a g y ≠ 0 → -(E + F) ≤ y ∧ y ≤ E + F) := by
  induction a with
  | nil => simp [prodL]
  | cons t a ih =>
    have h1 := ih fun t ht => ha t (List.mem_cons_of_mem _ ht)
    have h2 := ha t (by simp)
    have h3 := hg (y - t.1)
    have h4 : -(C * D) ≤ t.2 * g (y - t.1) ∧ t.2 * g (y - t.1) ≤ C * D := by
      have e : (t.2 * g (y - t.1)).natAbs ≤ C.natAbs * D.natAbs := by
        rw [Int.natAbs_mul]
        exact Nat.mul_le_mul (by omega) (by omega)
      have e2 : ((C.natAbs * D.natAbs : Nat) : Int) = C * D := by
        rw [Int.natCast_mul, Int.natAbs_of_nonneg hC, Int.natAbs_of_nonneg hD]
      omega
    have e5 : C * D * ((a.length + 1 : Nat) : Int) = C * D * (a.length : Int) + C * D := by rw [Int.natCast_add, Int.mul_add]; simp
    simp only [prodL, List.length_cons, e5]
    refine ⟨by omega, by omega, fun h => ?_⟩
    by_cases h0 : prodL a g y = 0
    · have hgz : g (y - t.1) ≠ 0 := fun hz => h (by rw [h0, hz, Int.mul_zero]; rfl)
      have := h3.2.2 hgz
      omega
    · exact h1.2.2 h0

theorem fine_mul {a b : List (Int × Int)} {E F C D : Int} (K : Int) (ha : Fine a E C) (hb : Fine b F D) (hC : 0 ≤ C) (hD : 0 ≤ D) (hE : 0 ≤ E) (hK : C * D * (2 * E + 1) ≤ K) : Fine (mulL a b) (E + F) K := by
  refine fine_norm fun x => ?_
  rw [coef_conv]
  have h := prodL_fine a ha.2 (fine_coef hb hD) hC hD x
  have hl := ha.len hE
  have : C * D * (a.length : Int) ≤ C * D * (2 * E + 1) := Int.mul_le_mul_of_nonneg_left hl (Int.mul_nonneg hC hD)
  exact ⟨by omega, by omega, h.2.2⟩
end Go.Proofs.YthbhllomikfbhaaDoor.Poly
