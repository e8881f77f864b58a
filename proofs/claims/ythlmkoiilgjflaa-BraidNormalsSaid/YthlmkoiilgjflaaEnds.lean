/- Where arcs begin and end; walks along strands; Dowker's numbers. Plain mathematics: no program is named here. -/
import Derived.Test.YthlmkoiilgjflaaH5P
namespace Go.Proofs.Ythlmkoiilgjflaa

/-- The spot at which a stood last, coming in (p) or going out, among the first k sides of crossing i; z, if it did not. -/
def sideEnd (x : Cr) (i : Nat) (a : Int) (p : Bool) (z : Int × Int) : Nat → Int × Int
  | 0 => z
  | k + 1 => if x.arc k = a ∧ x.comes k = p then ((i : Int), (k : Int)) else sideEnd x i a p z k
def endTo (C : List Cr) (a : Int) (p : Bool) : Nat → Int × Int
  | 0 => (-1, 0)
  | i + 1 => sideEnd (C.getD i Cr.none) i a p (endTo C a p i) 4
/-- The spot at which a stood last ahead of side k of crossing i. -/
def endAh (C : List Cr) (a : Int) (p : Bool) (i k : Nat) : Int × Int := sideEnd (C.getD i Cr.none) i a p (endTo C a p i) k
theorem endAh_next (C : List Cr) (a : Int) (p : Bool) (i k : Nat) : endAh C a p i (k + 1) = if (C.getD i Cr.none).arc k = a ∧ (C.getD i Cr.none).comes k = p then ((i : Int), (k : Int)) else endAh C a p i k := rfl
theorem endAh_row (C : List Cr) (a : Int) (p : Bool) (i : Nat) : endAh C a p i 4 = endAh C a p (i + 1) 0 := rfl

theorem sideEnd_cases (x : Cr) (i : Nat) (a : Int) (p : Bool) (z : Int × Int) (k : Nat) : (sd x a p k = 0 ∧ sideEnd x i a p z k = z) ∨ (0 < sd x a p k ∧ ∃ j, j < k ∧ x.arc j = a ∧ x.comes j = p ∧ sideEnd x i a p z k = ((i : Int), (j : Int))) := by
  induction k with
  | zero => exact Or.inl ⟨rfl, rfl⟩
  | succ k ih =>
    by_cases h : x.arc k = a ∧ x.comes k = p
    · refine Or.inr ⟨?_, k, by omega, h.1, h.2, ?_⟩
      · simp only [sd]; rw [if_pos h]; omega
      · simp only [sideEnd]; rw [if_pos h]
    · have e1 : sd x a p (k + 1) = sd x a p k := by simp only [sd]; rw [if_neg h]; rfl
      have e2 : sideEnd x i a p z (k + 1) = sideEnd x i a p z k := by simp only [sideEnd]; rw [if_neg h]
      rw [e1, e2]
      rcases ih with ih | ⟨h1, j, h2, h3⟩
      · exact Or.inl ih
      · exact Or.inr ⟨h1, j, by omega, h3⟩
theorem endTo_cases (C : List Cr) (a : Int) (p : Bool) (n : Nat) : (sdTo C a p n = 0 ∧ endTo C a p n = (-1, 0)) ∨ (0 < sdTo C a p n ∧ ∃ i j, i < n ∧ j < 4 ∧ (C.getD i Cr.none).arc j = a ∧ (C.getD i Cr.none).comes j = p ∧ endTo C a p n = ((i : Int), (j : Int))) := by
  induction n with
  | zero => exact Or.inl ⟨rfl, rfl⟩
  | succ n ih =>
    simp only [sdTo, endTo]
    rcases sideEnd_cases (C.getD n Cr.none) n a p (endTo C a p n) 4 with ⟨h1, h2⟩ | ⟨h1, j, h2, h3, h4, h5⟩
    · rw [h1, h2]
      rcases ih with ih | ⟨h1, i, j, h2, h3⟩
      · exact Or.inl ih
      · exact Or.inr ⟨h1, i, j, by omega, h3⟩
    · exact Or.inr ⟨by omega, n, j, by omega, h2, h3, h4, h5⟩
theorem endAh_cases (C : List Cr) (a : Int) (p : Bool) (i k : Nat) (hk : k ≤ 4) : (ahd C a p i k = 0 ∧ endAh C a p i k = (-1, 0)) ∨ (0 < ahd C a p i k ∧ ∃ i' j : Nat, j < 4 ∧ endAh C a p i k = ((i' : Int), (j : Int))) := by
  simp only [ahd, endAh]
  rcases sideEnd_cases (C.getD i Cr.none) i a p (endTo C a p i) k with ⟨h1, h2⟩ | ⟨h1, j, h2, h3, h4, h5⟩
  · rw [h1, h2]
    rcases endTo_cases C a p i with h | ⟨h1, i', j, h2, h3, h4, h5, h6⟩
    · exact Or.inl h
    · exact Or.inr ⟨h1, i', j, h3, h6⟩
  · exact Or.inr ⟨by omega, i, j, by omega, h5⟩
theorem endAh_free (C : List Cr) (a : Int) (p : Bool) (i k : Nat) (hk : k ≤ 4) : (endAh C a p i k).1 = -1 ↔ ahd C a p i k = 0 := by
  rcases endAh_cases C a p i k hk with ⟨h1, h2⟩ | ⟨h1, i', j, h2, h3⟩
  · rw [h1, h2]; simp
  · rw [h3]
    constructor
    · intro h
      have : (i' : Int) = -1 := h
      omega
    · intro h; omega

/-- The spots of the arcs from 0 to 2n. -/
def ends (C : List Cr) (p : Bool) (i k : Nat) : List (Int × Int) := (List.range (2 * C.length + 1)).map fun a => if a = 0 then (-1, 0) else endAh C (a : Nat) p i k
theorem ends_length (C : List Cr) (p : Bool) (i k : Nat) : (ends C p i k).length = 2 * C.length + 1 := by simp [ends]
theorem ends_at (C : List Cr) (p : Bool) (i k a : Nat) (h1 : 1 ≤ a) (h2 : a ≤ 2 * C.length) : (ends C p i k).getD a (0, 0) = endAh C a p i k := by
  unfold ends
  rw [List.getD_eq_getElem?_getD, List.getElem?_map, List.getElem?_range (by omega)]
  simp
  omega
theorem ends_start (C : List Cr) (p : Bool) : ends C p 0 0 = List.replicate (2 * C.length + 1) (-1, 0) := by
  apply List.ext_getElem
  · simp [ends]
  · intro j h1 h2
    simp only [ends, List.getElem_map, List.getElem_range, List.getElem_replicate]
    split <;> rfl
theorem ends_row (C : List Cr) (p : Bool) (i : Nat) : ends C p i 4 = ends C p (i + 1) 0 := rfl
theorem ends_keep (C : List Cr) (p : Bool) (i k : Nat) (h : (C.getD i Cr.none).comes k ≠ p) : ends C p i (k + 1) = ends C p i k := by
  unfold ends
  apply List.map_congr_left
  intro a _
  have e : endAh C (a : Nat) p i (k + 1) = endAh C (a : Nat) p i k := by rw [endAh_next, if_neg (fun e => h e.2)]
  simp only [e]
theorem ends_set (C : List Cr) (p : Bool) (i k a : Nat) (h1 : 1 ≤ a) (hc : (C.getD i Cr.none).comes k = p) (ha : (C.getD i Cr.none).arc k = (a : Int)) : (ends C p i k).set a ((i : Int), (k : Int)) = ends C p i (k + 1) := by
  apply List.ext_getElem
  · simp [ends]
  · intro j h2 h3
    rw [List.getElem_set]
    simp only [ends, List.getElem_map, List.getElem_range]
    by_cases e : a = j
    · subst e
      rw [if_pos rfl, if_neg (by omega), endAh_next, if_pos ⟨ha, hc⟩]
    · have e2 : endAh C (j : Nat) p i (k + 1) = endAh C (j : Nat) p i k := by rw [endAh_next, if_neg (fun h => e (by have := h.1; rw [ha] at this; omega))]
      rw [if_neg e, e2]

/-- Where an arc of a diagram that may be ends (p) or begins: the one side at which it stands so. -/
theorem end_may {C : List Cr} {loops : Int} (hm : mayD C loops = true) (a : Nat) (h1 : 1 ≤ a) (h2 : a ≤ 2 * C.length) (p : Bool) : ∃ i k : Nat, i < C.length ∧ k < 4 ∧ (C.getD i Cr.none).arc k = (a : Int) ∧ (C.getD i Cr.none).comes k = p ∧ endTo C a p C.length = ((i : Int), (k : Int)) := by
  have ho := once_sd (may_once hm a h1 h2) p
  rcases endTo_cases C a p C.length with ⟨h, _⟩ | ⟨_, i, j, h3, h4, h5, h6, h7⟩
  · omega
  · exact ⟨i, j, h3, h4, h5, h6, h7⟩
theorem sd_at (x : Cr) (a : Int) (p : Bool) (k n : Nat) (hk : k < n) (h : x.arc k = a ∧ x.comes k = p) : 0 < sd x a p n := by
  have := sd_mono x a p (k + 1) n (by omega)
  simp only [sd] at this
  rw [if_pos h] at this
  omega
theorem sd_two (x : Cr) (a : Int) (p : Bool) (j k n : Nat) (hj : j < k) (hk : k < n) (h : x.arc j = a ∧ x.comes j = p) (h2 : x.arc k = a ∧ x.comes k = p) : 2 ≤ sd x a p n := by
  have h3 := sd_at x a p j k hj h
  have := sd_mono x a p (k + 1) n (by omega)
  simp only [sd] at this
  rw [if_pos h2] at this
  omega
/-- It stands so nowhere else. -/
theorem end_one {C : List Cr} {loops : Int} (hm : mayD C loops = true) (a : Nat) (h1 : 1 ≤ a) (h2 : a ≤ 2 * C.length) (p : Bool) (i k : Nat) (hi : i < C.length) (hk : k < 4) (ha : (C.getD i Cr.none).arc k = (a : Int)) (hc : (C.getD i Cr.none).comes k = p) : endTo C a p C.length = ((i : Int), (k : Int)) := by
  have ho := once_sd (may_once hm a h1 h2) p
  obtain ⟨i', k', h3, h4, h5, h6, h7⟩ := end_may hm a h1 h2 p
  rw [h7]
  have row : ∀ u v s t : Nat, u < v → v < C.length → s < 4 → t < 4 → (C.getD u Cr.none).arc s = (a : Int) → (C.getD u Cr.none).comes s = p → (C.getD v Cr.none).arc t = (a : Int) → (C.getD v Cr.none).comes t = p → False := by
    intro u v s t huv hv hs ht e1 e2 e3 e4
    have g1 := sd_at (C.getD u Cr.none) a p s 4 hs ⟨e1, e2⟩
    have g2 := sd_at (C.getD v Cr.none) a p t 4 ht ⟨e3, e4⟩
    have g3 := sdTo_mono C a p (u + 1) v (by omega)
    have g4 := sdTo_mono C a p (v + 1) C.length (by omega)
    simp only [sdTo] at g3 g4
    omega
  have col : ∀ u s t : Nat, s < t → u < C.length → t < 4 → (C.getD u Cr.none).arc s = (a : Int) → (C.getD u Cr.none).comes s = p → (C.getD u Cr.none).arc t = (a : Int) → (C.getD u Cr.none).comes t = p → False := by
    intro u s t hst hu ht e1 e2 e3 e4
    have g2 := sd_two (C.getD u Cr.none) a p s t 4 hst ht ⟨e1, e2⟩ ⟨e3, e4⟩
    have g4 := sdTo_mono C a p (u + 1) C.length (by omega)
    simp only [sdTo] at g4
    omega
  rcases Nat.lt_trichotomy i i' with h | h | h
  · exact (row i i' k k' h h3 hk h4 ha hc h5 h6).elim
  · subst h
    rcases Nat.lt_trichotomy k k' with h | h | h
    · exact (col i k k' h hi h4 ha hc h5 h6).elim
    · subst h; rfl
    · exact (col i k' k h hi hk h5 h6 ha hc).elim
  · exact (row i' i k' k h hi h4 hk h5 h6 ha hc).elim
theorem may_fit {C : List Cr} {loops : Int} (hm : mayD C loops = true) (i k : Nat) (hi : i < C.length) (hk : k < 4) : fit C i k := by
  refine Classical.byContradiction fun h => ?_
  rw [unfit_no hi hk h] at hm
  cases hm
/-- The crossing to which arc a leads, and the side. -/
def toC (C : List Cr) (a : Nat) : Nat := (endTo C a true C.length).1.toNat
def toS (C : List Cr) (a : Nat) : Nat := (endTo C a true C.length).2.toNat
/-- The arc behind it. -/
def nx (C : List Cr) (a : Nat) : Nat := ((C.getD (toC C a) Cr.none).arc ((toS C a + 2) % 4)).toNat
theorem to_may {C : List Cr} {loops : Int} (hm : mayD C loops = true) (a : Nat) (h1 : 1 ≤ a) (h2 : a ≤ 2 * C.length) : endTo C a true C.length = ((toC C a : Int), (toS C a : Int)) ∧ toC C a < C.length ∧ toS C a < 4 ∧ (C.getD (toC C a) Cr.none).arc (toS C a) = (a : Int) ∧ (C.getD (toC C a) Cr.none).comes (toS C a) = true := by
  obtain ⟨i, k, h3, h4, h5, h6, h7⟩ := end_may hm a h1 h2 true
  have e1 : toC C a = i := by unfold toC; rw [h7]; simp
  have e2 : toS C a = k := by unfold toS; rw [h7]; simp
  rw [e1, e2]
  exact ⟨h7, h3, h4, h5, h6⟩
theorem nx_may {C : List Cr} {loops : Int} (hm : mayD C loops = true) (a : Nat) (h1 : 1 ≤ a) (h2 : a ≤ 2 * C.length) : (C.getD (toC C a) Cr.none).arc ((toS C a + 2) % 4) = (nx C a : Int) ∧ 1 ≤ nx C a ∧ nx C a ≤ 2 * C.length := by
  obtain ⟨h3, h4, h5, h6, h7⟩ := to_may hm a h1 h2
  have hf := may_fit hm (toC C a) ((toS C a + 2) % 4) h4 (by omega)
  have g1 := hf.1
  have g2 := hf.2.1
  unfold nx
  omega
theorem toS_over {C : List Cr} {loops : Int} (hm : mayD C loops = true) (a : Nat) (h1 : 1 ≤ a) (h2 : a ≤ 2 * C.length) : (toS C a = 0 ∧ toS C a % 2 = 0) ∨ (toS C a ≠ 0 ∧ toS C a % 2 = 1) := by
  obtain ⟨h3, h4, h5, h6, h7⟩ := to_may hm a h1 h2
  generalize toS C a = k at h5 h7
  have hk4 : k = 0 ∨ k = 1 ∨ k = 2 ∨ k = 3 := by omega
  rcases hk4 with rfl | rfl | rfl | rfl
  · exact Or.inl ⟨rfl, rfl⟩
  · exact Or.inr ⟨by omega, rfl⟩
  · simp [Cr.comes] at h7
  · exact Or.inr ⟨by omega, rfl⟩

/-- Walk on from x as long as no arc was seen: what was walked, and what is seen then. -/
def walkF (f : Nat → Nat) : Nat → List Bool → Nat → List Nat → List Nat × List Bool
  | 0, seen, _, acc => (acc, seen)
  | m + 1, seen, x, acc => if seen.getD x true = true then (acc, seen) else walkF f m (seen.set x true) (f x) (acc ++ [x])
/-- How many were not seen. -/
def unseen (l : List Bool) : Nat := l.countP (fun b => !b)
theorem unseen_set {l : List Bool} {x : Nat} (h : l.getD x true = false) : unseen (l.set x true) + 1 = unseen l := by
  induction l generalizing x with
  | nil => simp at h
  | cons b l ih =>
    cases x with
    | zero =>
      have : b = false := by simpa using h
      subst this
      simp [unseen]
    | succ x =>
      have := ih (x := x) (by simpa using h)
      simp only [unseen, List.set_cons_succ, List.countP_cons] at this ⊢
      omega
theorem unseen_pos {l : List Bool} {x : Nat} (h : l.getD x true = false) : 0 < unseen l := by have := unseen_set h; omega
theorem walkF_seen {f : Nat → Nat} {m : Nat} {seen : List Bool} {x : Nat} {acc : List Nat} (h : seen.getD x true = true) : walkF f m seen x acc = (acc, seen) := by
  cases m with
  | zero => rfl
  | succ m => simp only [walkF]; rw [if_pos h]
theorem walkF_more {f : Nat → Nat} {m : Nat} {seen : List Bool} {x : Nat} {acc : List Nat} (h : seen.getD x true = false) (hm : unseen seen ≤ m) : walkF f m seen x acc = walkF f (m - 1) (seen.set x true) (f x) (acc ++ [x]) ∧ unseen (seen.set x true) ≤ m - 1 := by
  have h2 := unseen_set h
  cases m with
  | zero => omega
  | succ m =>
    simp only [walkF]
    rw [if_neg (by rw [h]; decide)]
    exact ⟨rfl, by omega⟩
/-- The walks behind the arcs from 1 to a: they, and what is seen then. -/
def walksTo (f : Nat → Nat) (n : Nat) : Nat → List (List Nat) × List Bool
  | 0 => ([], List.replicate (n + 1) false)
  | a + 1 => let r := walksTo f n a; let s := walkF f (n + 1) r.2 (a + 1) []; (if s.1 = [] then r.1 else r.1 ++ [s.1], s.2)
def walksM (C : List Cr) : List (List Nat) := (walksTo (nx C) (2 * C.length) (2 * C.length)).1
theorem walkF_len (f : Nat → Nat) (m : Nat) (seen : List Bool) (x : Nat) (acc : List Nat) : (walkF f m seen x acc).2.length = seen.length := by
  induction m generalizing seen x acc with
  | zero => rfl
  | succ m ih =>
    simp only [walkF]
    split
    · rfl
    · rw [ih]; simp
theorem unseen_le (l : List Bool) : unseen l ≤ l.length := List.countP_le_length
theorem walksTo_len (f : Nat → Nat) (n a : Nat) : (walksTo f n a).2.length = n + 1 := by
  induction a with
  | zero => simp [walksTo]
  | succ a ih => simp only [walksTo]; rw [walkF_len, ih]
theorem walkF_mem {f : Nat → Nat} {n : Nat} (hf : ∀ a, 1 ≤ a → a ≤ n → 1 ≤ f a ∧ f a ≤ n) (m : Nat) (seen : List Bool) (x : Nat) (acc : List Nat) (h1 : 1 ≤ x) (h2 : x ≤ n) (ha : ∀ y, y ∈ acc → 1 ≤ y ∧ y ≤ n) : ∀ y, y ∈ (walkF f m seen x acc).1 → 1 ≤ y ∧ y ≤ n := by
  induction m generalizing seen x acc with
  | zero => exact ha
  | succ m ih =>
    simp only [walkF]
    split
    · exact ha
    · refine ih _ _ _ (hf x h1 h2).1 (hf x h1 h2).2 fun y hy => ?_
      rcases List.mem_append.1 hy with hy | hy
      · exact ha y hy
      · rw [List.mem_singleton.1 hy]; exact ⟨h1, h2⟩
theorem walkF_size (f : Nat → Nat) (m : Nat) (seen : List Bool) (x : Nat) (acc : List Nat) : (walkF f m seen x acc).1.length + unseen (walkF f m seen x acc).2 = acc.length + unseen seen := by
  induction m generalizing seen x acc with
  | zero => rfl
  | succ m ih =>
    simp only [walkF]
    split
    · rfl
    · next h =>
      have h' : seen.getD x true = false := by cases hb : seen.getD x true with
        | true => exact absurd hb h
        | false => rfl
      have := unseen_set h'
      rw [ih]
      simp only [List.length_append, List.length_cons, List.length_nil]
      omega
theorem walksTo_mem {f : Nat → Nat} {n : Nat} (hf : ∀ a, 1 ≤ a → a ≤ n → 1 ≤ f a ∧ f a ≤ n) (a : Nat) (ha : a ≤ n) : ∀ l, l ∈ (walksTo f n a).1 → l ≠ [] ∧ l.length ≤ n + 1 ∧ ∀ y, y ∈ l → 1 ≤ y ∧ y ≤ n := by
  induction a with
  | zero => intro l hl; simp [walksTo] at hl
  | succ a ih =>
    intro l hl
    simp only [walksTo] at hl
    split at hl
    · exact ih (by omega) l hl
    · next he =>
      rcases List.mem_append.1 hl with hl | hl
      · exact ih (by omega) l hl
      · rw [List.mem_singleton.1 hl]
        refine ⟨he, ?_, walkF_mem hf _ _ _ _ (by omega) ha fun y hy => by cases hy⟩
        have h1 := walkF_size f (n + 1) (walksTo f n a).2 (a + 1) []
        have h2 := unseen_le (walksTo f n a).2
        rw [walksTo_len] at h2
        simp only [List.length_nil] at h1
        omega
theorem walksTo_count (f : Nat → Nat) (n a : Nat) : (walksTo f n a).1.length ≤ a := by
  induction a with
  | zero => exact Nat.le_refl _
  | succ a ih =>
    simp only [walksTo]
    split
    · omega
    · simp only [List.length_append, List.length_cons, List.length_nil]; omega
theorem nx_closed {C : List Cr} {loops : Int} (hm : mayD C loops = true) : ∀ a, 1 ≤ a → a ≤ 2 * C.length → 1 ≤ nx C a ∧ nx C a ≤ 2 * C.length := fun a h1 h2 => (nx_may hm a h1 h2).2
/-- At how many of the places below m of one parity c stands. -/
def cp (x : Nat → Nat) (c r : Nat) : Nat → Nat
  | 0 => 0
  | m + 1 => cp x c r m + (if x m = c ∧ m % 2 = r then 1 else 0)
theorem cp_mono (x : Nat → Nat) (c r a b : Nat) (h : a ≤ b) : cp x c r a ≤ cp x c r b := by
  induction b with
  | zero => obtain rfl : a = 0 := by omega
            exact Nat.le_refl _
  | succ b ih =>
    by_cases e : a = b + 1
    · subst e; exact Nat.le_refl _
    · have := ih (by omega)
      simp only [cp]
      omega
theorem cp_one (x : Nat → Nat) (c r p m : Nat) (hp : p < m) (h : x p = c ∧ p % 2 = r) : 1 ≤ cp x c r m := by
  have := cp_mono x c r (p + 1) m (by omega)
  simp only [cp] at this
  rw [if_pos h] at this
  omega
theorem cp_two (x : Nat → Nat) (c r p q m : Nat) (hp : p < q) (hq : q < m) (h : x p = c ∧ p % 2 = r) (h2 : x q = c ∧ q % 2 = r) : 2 ≤ cp x c r m := by
  have h3 := cp_one x c r p q hp h
  have := cp_mono x c r (q + 1) m (by omega)
  simp only [cp] at this
  rw [if_pos h2] at this
  omega
theorem cp_some (x : Nat → Nat) (c r m : Nat) (h : 1 ≤ cp x c r m) : ∃ p, p < m ∧ x p = c ∧ p % 2 = r := by
  induction m with
  | zero => simp [cp] at h
  | succ m ih =>
    by_cases e : x m = c ∧ m % 2 = r
    · exact ⟨m, by omega, e⟩
    · simp only [cp] at h
      rw [if_neg e] at h
      obtain ⟨p, h1, h2⟩ := ih (by omega)
      exact ⟨p, by omega, h2⟩
theorem cp_more (x : Nat → Nat) (c r q m : Nat) (h : 2 ≤ cp x c r m) : ∃ p, p < m ∧ p ≠ q ∧ x p = c ∧ p % 2 = r := by
  induction m with
  | zero => simp [cp] at h
  | succ m ih =>
    by_cases e : x m = c ∧ m % 2 = r
    · by_cases hq : m = q
      · simp only [cp] at h
        rw [if_pos e] at h
        obtain ⟨p, h1, h2⟩ := cp_some x c r m (by omega)
        exact ⟨p, by omega, by omega, h2⟩
      · exact ⟨m, by omega, hq, e⟩
    · simp only [cp] at h
      rw [if_neg e] at h
      obtain ⟨p, h1, h2⟩ := ih (by omega)
      exact ⟨p, by omega, h2⟩
/-- The sum over the crossings below n. -/
def sumC (f : Nat → Nat) : Nat → Nat
  | 0 => 0
  | n + 1 => sumC f n + f n
theorem sumC_add (f g : Nat → Nat) (n : Nat) : sumC (fun c => f c + g c) n = sumC f n + sumC g n := by
  induction n with
  | zero => rfl
  | succ n ih => simp only [sumC, ih]; omega
theorem sumC_at (v n : Nat) (q : Bool) : sumC (fun c => if v = c ∧ q = true then 1 else 0) n = if v < n ∧ q = true then 1 else 0 := by
  induction n with
  | zero => simp [sumC]
  | succ n ih =>
    simp only [sumC, ih]
    cases q
    · simp
    · simp only [and_true]
      by_cases h1 : v < n
      · rw [if_pos h1, if_neg (by omega), if_pos (by omega)]
      · rw [if_neg h1]
        by_cases h2 : v = n
        · rw [if_pos h2, if_pos (by omega)]
        · rw [if_neg h2, if_neg (by omega)]
/-- How many places below m are of that parity. -/
def par (r : Nat) : Nat → Nat
  | 0 => 0
  | m + 1 => par r m + (if m % 2 = r then 1 else 0)
theorem par_even (n : Nat) : par 0 (2 * n) = n := by
  induction n with
  | zero => rfl
  | succ n ih =>
    rw [show 2 * (n + 1) = 2 * n + 1 + 1 by omega]
    simp only [par]
    rw [ih, if_pos (by omega), if_neg (by omega)]
theorem sum_cp (x : Nat → Nat) (r n m : Nat) (hx : ∀ p, p < m → x p < n) : sumC (fun c => cp x c r m) n = par r m := by
  induction m with
  | zero =>
    simp only [cp, par]
    induction n with
    | zero => rfl
    | succ n ih => simp only [sumC]; rw [ih (fun p hp => by omega)]
  | succ m ih =>
    simp only [cp, par, sumC_add]
    rw [ih fun p hp => hx p (by omega)]
    have e := sumC_at (x m) n (decide (m % 2 = r))
    simp only [decide_eq_true_eq] at e
    rw [e]
    have := hx m (by omega)
    congr 1
    by_cases h : m % 2 = r
    · rw [if_pos ⟨this, h⟩, if_pos h]
    · rw [if_neg (fun e => h e.2), if_neg h]
theorem sumC_le {f : Nat → Nat} {n : Nat} (h : ∀ c, c < n → f c ≤ 1) : sumC f n ≤ n := by
  induction n with
  | zero => exact Nat.le_refl _
  | succ n ih =>
    have := ih fun c hc => h c (by omega)
    have := h n (by omega)
    simp only [sumC]
    omega
theorem sumC_lt {f : Nat → Nat} {n c : Nat} (h : ∀ c, c < n → f c ≤ 1) (hc : c < n) (h0 : f c = 0) : sumC f n < n := by
  induction n with
  | zero => omega
  | succ n ih =>
    simp only [sumC]
    by_cases e : c = n
    · subst e
      have := sumC_le (f := f) (n := c) fun d hd => h d (by omega)
      omega
    · have := ih (fun d hd => h d (by omega)) (by omega)
      have := h n (by omega)
      omega
/-- The number of an even visit, with - ahead where it goes above. -/
def evN (o : Nat → Bool) (j : Nat) : Int := if o (2 * j + 1) = true then -((2 * j + 2 : Nat) : Int) else ((2 * j + 2 : Nat) : Int)
theorem evN_ne (o : Nat → Bool) (j : Nat) : evN o j ≠ 0 := by
  unfold evN; split <;> omega
/-- The even number of crossing c, behind j even visits; 0: none yet. -/
def evTo (x : Nat → Nat) (o : Nat → Bool) (c : Nat) : Nat → Int
  | 0 => 0
  | j + 1 => if x (2 * j + 1) = c then evN o j else evTo x o c j
theorem evTo_zero (x : Nat → Nat) (o : Nat → Bool) (c n : Nat) : evTo x o c n = 0 ↔ ∀ j, j < n → x (2 * j + 1) ≠ c := by
  induction n with
  | zero => exact ⟨fun _ j hj => by omega, fun _ => rfl⟩
  | succ n ih =>
    simp only [evTo]
    by_cases h : x (2 * n + 1) = c
    · rw [if_pos h]
      exact ⟨fun e => absurd e (evN_ne o n), fun e => absurd h (e n (by omega))⟩
    · rw [if_neg h, ih]
      constructor
      · intro e j hj
        by_cases hjn : j = n
        · rw [hjn]; exact h
        · exact e j (by omega)
      · intro e j hj
        exact e j (by omega)
/-- No crossing has two odd or two even numbers. -/
def plane (x : Nat → Nat) (n : Nat) : Prop := ∀ i k, i < 2 * n → k < 2 * n → k ≠ i → x k = x i → k % 2 ≠ i % 2
theorem plane_iff {x : Nat → Nat} {o : Nat → Bool} {n : Nat} (hx : ∀ p, p < 2 * n → x p < n) (h2 : ∀ c, c < n → cp x c 0 (2 * n) + cp x c 1 (2 * n) = 2) : (∀ i, i < n → evTo x o (x (2 * i)) n ≠ 0) ↔ plane x n := by
  constructor
  · intro h i k hi hk hne he hp
    -- each crossing has at most one even place
    have hone : ∀ c, c < n → cp x c 0 (2 * n) ≤ 1 := by
      intro c hc
      rcases Nat.lt_or_ge (cp x c 0 (2 * n)) 2 with h3 | h3
      · omega
      · exfalso
        obtain ⟨p, h4, h5, h6⟩ := cp_some x c 0 (2 * n) (by omega)
        have h7 := h (p / 2) (by omega)
        rw [show 2 * (p / 2) = p by omega, h5] at h7
        refine h7 ((evTo_zero x o c n).2 fun j hj hc2 => ?_)
        have := cp_one x c 1 (2 * j + 1) (2 * n) (by omega) ⟨hc2, by omega⟩
        have := h2 c hc
        omega
    have hcn := hx i hi
    have htwo : 2 ≤ cp x (x i) (i % 2) (2 * n) := by
      rcases Nat.lt_or_gt_of_ne hne with h3 | h3
      · exact cp_two x (x i) (i % 2) k i (2 * n) h3 hi ⟨he, hp⟩ ⟨rfl, rfl⟩
      · exact cp_two x (x i) (i % 2) i k (2 * n) h3 hk ⟨rfl, rfl⟩ ⟨he, hp⟩
    rcases Nat.mod_two_eq_zero_or_one i with h3 | h3
    · rw [h3] at htwo
      have := hone _ hcn
      omega
    · rw [h3] at htwo
      have h4 := h2 _ hcn
      have h5 := sumC_lt hone hcn (by omega)
      rw [sum_cp x 0 n (2 * n) hx, par_even] at h5
      omega
  · intro h i hi h0
    have hall := (evTo_zero x o (x (2 * i)) n).1 h0
    have hc := hx (2 * i) (by omega)
    have h3 := h2 _ hc
    have hno : cp x (x (2 * i)) 1 (2 * n) = 0 := by
      rcases Nat.eq_zero_or_pos (cp x (x (2 * i)) 1 (2 * n)) with h4 | h4
      · exact h4
      · obtain ⟨p, h5, h6, h7⟩ := cp_some x (x (2 * i)) 1 (2 * n) h4
        exact absurd (by rw [show 2 * (p / 2) + 1 = p by omega]; exact h6) (hall (p / 2) (by omega))
    obtain ⟨p, h5, h6, h7, h8⟩ := cp_more x (x (2 * i)) 0 (2 * i) (2 * n) (by omega)
    exact h (2 * i) p (by omega) h5 h6 h7 (by omega)
/-- What stands opposite to the odd visit i among the first m even ones. -/
def oppTo (x : Nat → Nat) (o : Nat → Bool) (i : Nat) : Nat → List Int
  | 0 => []
  | j + 1 => oppTo x o i j ++ (if x (2 * j + 1) = x (2 * i) then [evN o j] else [])
theorem opp_plane {x : Nat → Nat} {o : Nat → Bool} {n : Nat} (h : plane x n) (i m : Nat) (hm : m ≤ n) : oppTo x o i m = if evTo x o (x (2 * i)) m = 0 then [] else [evTo x o (x (2 * i)) m] := by
  induction m with
  | zero => rfl
  | succ m ih =>
    have ih := ih (by omega)
    by_cases e : x (2 * m + 1) = x (2 * i)
    · have e1 : evTo x o (x (2 * i)) (m + 1) = evN o m := by simp only [evTo]; rw [if_pos e]
      have e2 : oppTo x o i (m + 1) = oppTo x o i m ++ [evN o m] := by simp only [oppTo]; rw [if_pos e]
      have h0 : evTo x o (x (2 * i)) m = 0 := (evTo_zero x o _ m).2 fun j hj he => h (2 * m + 1) (2 * j + 1) (by omega) (by omega) (by omega) (by rw [he, e]) (by omega)
      rw [e1, e2, if_neg (evN_ne o m), ih, if_pos h0]
      rfl
    · have e1 : evTo x o (x (2 * i)) (m + 1) = evTo x o (x (2 * i)) m := by simp only [evTo]; rw [if_neg e]
      have e2 : oppTo x o i (m + 1) = oppTo x o i m := by simp only [oppTo]; rw [if_neg e, List.append_nil]
      rw [e1, e2, ih]
/-- The numbers of the first i odd visits. -/
def dowTo (x : Nat → Nat) (o : Nat → Bool) (n : Nat) : Nat → List Int
  | 0 => []
  | i + 1 => dowTo x o n i ++ [evTo x o (x (2 * i)) n]
def refTo (x : Nat → Nat) (o : Nat → Bool) (n : Nat) : Nat → List Int
  | 0 => []
  | i + 1 => refTo x o n i ++ oppTo x o i n
theorem ref_dow {x : Nat → Nat} {o : Nat → Bool} {n : Nat} (hx : ∀ p, p < 2 * n → x p < n) (h2 : ∀ c, c < n → cp x c 0 (2 * n) + cp x c 1 (2 * n) = 2) (h : plane x n) (i : Nat) (hi : i ≤ n) : refTo x o n i = dowTo x o n i := by
  induction i with
  | zero => rfl
  | succ i ih =>
    simp only [refTo, dowTo]
    rw [ih (by omega), opp_plane h i n (Nat.le_refl _), if_neg ((plane_iff hx h2).2 h i (by omega))]
theorem dow_len (x : Nat → Nat) (o : Nat → Bool) (n i : Nat) : (dowTo x o n i).length = i := by
  induction i with
  | zero => rfl
  | succ i ih => simp only [dowTo, List.length_append, ih]; rfl
/-- 1: not seen yet. -/
def un (l : List Bool) (y : Nat) : Nat := if l.getD y true = true then 0 else 1
theorem un_set_same {l : List Bool} {x : Nat} : un (l.set x true) x = 0 := by
  unfold un
  rw [if_pos]
  rw [List.getD_eq_getElem?_getD]
  by_cases h : x < l.length
  · simp [h]
  · rw [List.getElem?_eq_none (by simp; omega)]; rfl
theorem un_set_other {l : List Bool} {x y : Nat} (h : x ≠ y) : un (l.set x true) y = un l y := by
  unfold un
  rw [List.getD_eq_getElem?_getD, List.getD_eq_getElem?_getD, List.getElem?_set_ne h]
theorem walkF_count (f : Nat → Nat) (m : Nat) (seen : List Bool) (x : Nat) (acc : List Nat) (y : Nat) : (walkF f m seen x acc).1.count y + un (walkF f m seen x acc).2 y = acc.count y + un seen y := by
  induction m generalizing seen x acc with
  | zero => rfl
  | succ m ih =>
    simp only [walkF]
    split
    · rfl
    · next h =>
      rw [ih, List.count_append]
      by_cases e : x = y
      · subst e
        have e1 : un seen x = 1 := by unfold un; rw [if_neg h]
        rw [un_set_same, e1]
        simp
      · rw [un_set_other e, List.count_cons_of_ne e]
        simp
theorem walkF_keep (f : Nat → Nat) (m : Nat) (seen : List Bool) (x : Nat) (acc : List Nat) (y : Nat) (h : un seen y = 0) : un (walkF f m seen x acc).2 y = 0 := by
  induction m generalizing seen x acc with
  | zero => exact h
  | succ m ih =>
    simp only [walkF]
    split
    · exact h
    · apply ih
      by_cases e : x = y
      · subst e; exact un_set_same
      · rw [un_set_other e]; exact h
theorem walkF_first (f : Nat → Nat) (m : Nat) (seen : List Bool) (x : Nat) (acc : List Nat) : un (walkF f (m + 1) seen x acc).2 x = 0 := by
  simp only [walkF]
  split
  · next h => unfold un; rw [if_pos h]
  · exact walkF_keep f m _ _ _ x un_set_same
theorem walksTo_seen (f : Nat → Nat) (n a : Nat) : ∀ y, 1 ≤ y → y ≤ a → un (walksTo f n a).2 y = 0 := by
  induction a with
  | zero => intro y h1 h2; omega
  | succ a ih =>
    intro y h1 h2
    simp only [walksTo]
    by_cases e : y = a + 1
    · subst e; exact walkF_first f n _ _ _
    · exact walkF_keep f (n + 1) _ _ _ y (ih y h1 (by omega))
theorem walksTo_one (f : Nat → Nat) (n a y : Nat) (_h1 : 1 ≤ y) (h2 : y ≤ n) : (walksTo f n a).1.flatten.count y + un (walksTo f n a).2 y = 1 := by
  induction a with
  | zero =>
    have e : un (walksTo f n 0).2 y = 1 := by
      have e2 : (walksTo f n 0).2.getD y true = false := by
        show (List.replicate (n + 1) false).getD y true = false
        rw [List.getD_eq_getElem?_getD, List.getElem?_replicate, if_pos (by omega)]
        rfl
      unfold un
      rw [e2]
      rfl
    rw [e]
    rfl
  | succ a ih =>
    have hc := walkF_count f (n + 1) (walksTo f n a).2 (a + 1) [] y
    simp only [walksTo]
    split
    · next he =>
      rw [he] at hc
      simp at hc
      omega
    · rw [List.flatten_append, List.count_append]
      simp at hc ⊢
      omega
/-- In all walks each arc stands just once. -/
theorem walks_once (f : Nat → Nat) (n y : Nat) (h1 : 1 ≤ y) (h2 : y ≤ n) : (walksTo f n n).1.flatten.count y = 1 := by
  have e1 := walksTo_one f n n y h1 h2
  have e2 := walksTo_seen f n n y h1 h2
  omega
theorem count_sum (l : List Nat) (Q : Nat → Bool) (n : Nat) (h : ∀ y, y ∈ l → 1 ≤ y ∧ y ≤ n) : l.countP Q = sumA (fun y => if Q y = true then l.count y else 0) n := by
  induction l with
  | nil =>
    rw [sumA_congr n (g := fun _ => 0) (fun a _ _ => by simp), sumA_zero]
    rfl
  | cons x l ih =>
    have ih := ih fun y hy => h y (List.mem_cons_of_mem _ hy)
    have hx := h x List.mem_cons_self
    have e : sumA (fun y => if Q y = true then (x :: l).count y else 0) n = sumA (fun y => (if Q y = true then l.count y else 0) + (if ((x : Nat) : Int) = (y : Int) then (if Q x = true then 1 else 0) else 0)) n := by
      refine sumA_congr n fun y _ _ => ?_
      by_cases e : x = y
      · subst e
        rw [List.count_cons_self, if_pos rfl]
        split <;> rfl
      · have e3 : ¬((x : Nat) : Int) = (y : Int) := by omega
        rw [List.count_cons_of_ne e, if_neg e3]
        split <;> rfl
    rw [List.countP_cons, ih, e, sumA_add]
    congr 1
    by_cases hq : Q x = true
    · simp only [if_pos hq]
      rw [sumA_at, if_pos (by omega)]
    · simp only [if_neg hq]
      rw [sumA_congr n (g := fun _ => 0) (fun y _ _ => by split <;> rfl), sumA_zero]
theorem sd_toC {C : List Cr} {loops : Int} (hm : mayD C loops = true) (c a : Nat) (hc : c < C.length) (h1 : 1 ≤ a) (h2 : a ≤ 2 * C.length) : sd (C.getD c Cr.none) a true 4 = if toC C a = c then 1 else 0 := by
  obtain ⟨h3, h4, h5, h6, h7⟩ := to_may hm a h1 h2
  have ho := once_sd (may_once hm a h1 h2) true
  have hle := sdTo_mono C a true (c + 1) C.length (by omega)
  simp only [sdTo] at hle
  by_cases e : toC C a = c
  · rw [if_pos e]
    rw [e] at h6 h7
    have := sd_at (C.getD c Cr.none) a true (toS C a) 4 h5 ⟨h6, h7⟩
    omega
  · rw [if_neg e]
    rcases sideEnd_cases (C.getD c Cr.none) c a true (-1, 0) 4 with ⟨g1, _⟩ | ⟨_, j, g2, g3, g4, _⟩
    · exact g1
    · exfalso
      have := end_one hm a h1 h2 true c j hc g2 g3 g4
      rw [h3] at this
      have := congrArg Prod.fst this
      simp only at this
      omega
/-- Two arcs come to each crossing. -/
theorem two_come {C : List Cr} {loops : Int} (hm : mayD C loops = true) (c : Nat) (hc : c < C.length) : sumA (fun a => if toC C a = c then 1 else 0) (2 * C.length) = 2 := by
  rw [sumA_congr (2 * C.length) (g := fun a => sd (C.getD c Cr.none) a true 4) (fun a h1 h2 => (sd_toC hm c a hc h1 h2).symm), sum_sd, rng_all _ true _ 4 (fun j hj _ => by
    have := may_fit hm c j hc hj
    exact ⟨this.1, by have := this.2.1; omega⟩), cnt_four]
theorem cp_total (x : Nat → Nat) (c m : Nat) (l : List Nat) (Q : Nat → Bool) (hm : m ≤ l.length) (hx : ∀ p, p < m → ((Q (l.getD p 0) = true) ↔ x p = c)) : cp x c 0 m + cp x c 1 m = (l.take m).countP Q := by
  induction m with
  | zero => rfl
  | succ m ih =>
    have ih := ih (by omega) fun p hp => hx p (by omega)
    have hq := hx m (by omega)
    have et : l.take (m + 1) = l.take m ++ [l.getD m 0] := by
      rw [List.take_add_one, List.getD_eq_getElem?_getD, List.getElem?_eq_getElem (by omega)]
      rfl
    rw [et, List.countP_append, ← ih]
    simp only [cp, List.countP_cons, List.countP_nil]
    by_cases e : x m = c
    · rw [if_pos (hq.2 e)]
      rcases Nat.mod_two_eq_zero_or_one m with h | h <;> simp [e, h] <;> omega
    · rw [if_neg (fun h => e (hq.1 h))]
      simp [e]
/-- A knot's walk comes to each crossing twice, and has all arcs. -/
theorem knot_walk {C : List Cr} {loops : Int} (hm : mayD C loops = true) {wk : List Nat} (h : walksM C = [wk]) : wk.length = 2 * C.length ∧ (∀ p, p < wk.length → 1 ≤ wk.getD p 0 ∧ wk.getD p 0 ≤ 2 * C.length) ∧ ∀ c, c < C.length → cp (fun p => toC C (wk.getD p 0)) c 0 (2 * C.length) + cp (fun p => toC C (wk.getD p 0)) c 1 (2 * C.length) = 2 := by
  have h' : (walksTo (nx C) (2 * C.length) (2 * C.length)).1 = [wk] := h
  have hmem := (walksTo_mem (nx_closed hm) (2 * C.length) (Nat.le_refl _) wk (by rw [h']; exact List.mem_cons_self)).2.2
  have hone : ∀ y, 1 ≤ y → y ≤ 2 * C.length → wk.count y = 1 := by
    intro y h1 h2
    have := walks_once (nx C) (2 * C.length) y h1 h2
    rw [h'] at this
    simpa using this
  have hcnt : ∀ Q : Nat → Bool, wk.countP Q = sumA (fun y => if Q y = true then 1 else 0) (2 * C.length) := by
    intro Q
    rw [count_sum wk Q (2 * C.length) hmem]
    exact sumA_congr _ fun y h1 h2 => by rw [hone y h1 h2]
  have hlen : wk.length = 2 * C.length := by
    have := hcnt (fun _ => true)
    rw [List.countP_true] at this
    rw [this]
    exact sumA_one _
  refine ⟨hlen, fun p hp => hmem _ ?_, fun c hc => ?_⟩
  · rw [List.getD_eq_getElem?_getD, List.getElem?_eq_getElem hp]
    exact List.getElem_mem hp
  · rw [cp_total (fun p => toC C (wk.getD p 0)) c (2 * C.length) wk (fun a => decide (toC C a = c)) (by omega) (fun p hp => by simp), ← hlen, List.take_length, hcnt]
    rw [sumA_congr (2 * C.length) (g := fun a => if toC C a = c then 1 else 0) (fun y _ _ => by simp)]
    exact two_come hm c hc
end Go.Proofs.Ythlmkoiilgjflaa
