/- Several texts of the proof, one behind the other. -/
import Derived.Test.YtlimfajjmhfnaaaGreatDoorH4P
/- Where arcs begin and end; walks along strands; Dowker's numbers. Plain mathematics: no program is named here. -/
namespace Go.Proofs.YtlimfajjmhfnaaaGreatDoor

/-- The spot at which a stood last, coming in (p) or going out, among the first k sides of crossing i; z, if it did not. -/
def sideEnd (x : Cr) (i : Nat) (a : Int) (p : Bool) (z : Int × Int) : Nat → Int × Int
  | 0 => z
  | k + 1 => if x.arc k = a ∧ x.comes k = p then ((i : Int), (k : Int)) else sideEnd x i a p z k
def endTo (C : List Cr) (a : Int) (p : Bool) : Nat → Int × Int
  | 0 => (-1, 0)
  | i + 1 => sideEnd (C.getD i Cr.none) i a p (endTo C a p i) 4
/-- The spot at which a stood last ahead of side k of crossing i. -/
def endAh (C : List Cr) (a : Int) (p : Bool) (i k : Nat) : Int × Int := sideEnd (C.getD i Cr.none) i a p (endTo C a p i) k
theorem endAh_next (C : List Cr) (a : Int) (p : Bool) (i k : Nat) : endAh C a p i (k + 1) = if (C.getD i Cr.none).arc k = a ∧ (C.getD i Cr.none).comes k = p then ((i : Int), (k : Int)) else endAh C a p i k := rfl
theorem endAh_row (C : List Cr) (a : Int) (p : Bool) (i : Nat) : endAh C a p i 4 = endAh C a p (i + 1) 0 := rfl

theorem sideEnd_cases (x : Cr) (i : Nat) (a : Int) (p : Bool) (z : Int × Int) (k : Nat) : (sd x a p k = 0 ∧ sideEnd x i a p z k = z) ∨ (0 < sd x a p k ∧ ∃ j, j < k ∧ x.arc j = a ∧ x.comes j = p ∧ sideEnd x i a p z k = ((i : Int), (j : Int))) := by
  induction k with
  | zero => exact Or.inl ⟨rfl, rfl⟩
  | succ k ih =>
    by_cases h : x.arc k = a ∧ x.comes k = p
    · refine Or.inr ⟨?_, k, by omega, h.1, h.2, ?_⟩
      · simp only [sd]; rw [if_pos h]; omega
      · simp only [sideEnd]; rw [if_pos h]
    · have e1 : sd x a p (k + 1) = sd x a p k := by simp only [sd]; rw [if_neg h]; rfl
      have e2 : sideEnd x i a p z (k + 1) = sideEnd x i a p z k := by simp only [sideEnd]; rw [if_neg h]
      rw [e1, e2]
      rcases ih with ih | ⟨h1, j, h2, h3⟩
      · exact Or.inl ih
      · exact Or.inr ⟨h1, j, by omega, h3⟩
theorem endTo_cases (C : List Cr) (a : Int) (p : Bool) (n : Nat) : (sdTo C a p n = 0 ∧ endTo C a p n = (-1, 0)) ∨ (0 < sdTo C a p n ∧ ∃ i j, i < n ∧ j < 4 ∧ (C.getD i Cr.none).arc j = a ∧ (C.getD i Cr.none).comes j = p ∧ endTo C a p n = ((i : Int), (j : Int))) := by
  induction n with
  | zero => exact Or.inl ⟨rfl, rfl⟩
  | succ n ih =>
    simp only [sdTo, endTo]
    rcases sideEnd_cases (C.getD n Cr.none) n a p (endTo C a p n) 4 with ⟨h1, h2⟩ | ⟨h1, j, h2, h3, h4, h5⟩
    · rw [h1, h2]
      rcases ih with ih | ⟨h1, i, j, h2, h3⟩
      · exact Or.inl ih
      · exact Or.inr ⟨h1, i, j, by omega, h3⟩
    · exact Or.inr ⟨by omega, n, j, by omega, h2, h3, h4, h5⟩
theorem endAh_cases (C : List Cr) (a : Int) (p : Bool) (i k : Nat) (hk : k ≤ 4) : (ahd C a p i k = 0 ∧ endAh C a p i k = (-1, 0)) ∨ (0 < ahd C a p i k ∧ ∃ i' j : Nat, j < 4 ∧ endAh C a p i k = ((i' : Int), (j : Int))) := by
  simp only [ahd, endAh]
  rcases sideEnd_cases (C.getD i Cr.none) i a p (endTo C a p i) k with ⟨h1, h2⟩ | ⟨h1, j, h2, h3, h4, h5⟩
  · rw [h1, h2]
    rcases endTo_cases C a p i with h | ⟨h1, i', j, h2, h3, h4, h5, h6⟩
    · exact Or.inl h
    · exact Or.inr ⟨h1, i', j, h3, h6⟩
  · exact Or.inr ⟨by omega, i, j, by omega, h5⟩
theorem endAh_free (C : List Cr) (a : Int) (p : Bool) (i k : Nat) (hk : k ≤ 4) : (endAh C a p i k).1 = -1 ↔ ahd C a p i k = 0 := by
  rcases endAh_cases C a p i k hk with ⟨h1, h2⟩ | ⟨h1, i', j, h2, h3⟩
  · rw [h1, h2]; simp
  · rw [h3]
    constructor
    · intro h
      have : (i' : Int) = -1 := h
      omega
    · intro h; omega

/-- The spots of the arcs from 0 to 2n. -/
def ends (C : List Cr) (p : Bool) (i k : Nat) : List (Int × Int) := (List.range (2 * C.length + 1)).map fun a => if a = 0 then (-1, 0) else endAh C (a : Nat) p i k
theorem ends_length (C : List Cr) (p : Bool) (i k : Nat) : (ends C p i k).length = 2 * C.length + 1 := by simp [ends]
theorem ends_at (C : List Cr) (p : Bool) (i k a : Nat) (h1 : 1 ≤ a) (h2 : a ≤ 2 * C.length) : (ends C p i k).getD a (0, 0) = endAh C a p i k := by
  unfold ends
  rw [List.getD_eq_getElem?_getD, List.getElem?_map, List.getElem?_range (by omega)]
  simp
  omega
theorem ends_start (C : List Cr) (p : Bool) : ends C p 0 0 = List.replicate (2 * C.length + 1) (-1, 0) := by
  apply List.ext_getElem
  · simp [ends]
  · intro j h1 h2
    simp only [ends, List.getElem_map, List.getElem_range, List.getElem_replicate]
    split <;> rfl
theorem ends_row (C : List Cr) (p : Bool) (i : Nat) : ends C p i 4 = ends C p (i + 1) 0 := rfl
theorem ends_keep (C : List Cr) (p : Bool) (i k : Nat) (h : (C.getD i Cr.none).comes k ≠ p) : ends C p i (k + 1) = ends C p i k := by
  unfold ends
  apply List.map_congr_left
  intro a _
  have e : endAh C (a : Nat) p i (k + 1) = endAh C (a : Nat) p i k := by rw [endAh_next, if_neg (fun e => h e.2)]
  simp only [e]
theorem ends_set (C : List Cr) (p : Bool) (i k a : Nat) (h1 : 1 ≤ a) (hc : (C.getD i Cr.none).comes k = p) (ha : (C.getD i Cr.none).arc k = (a : Int)) : (ends C p i k).set a ((i : Int), (k : Int)) = ends C p i (k + 1) := by
  apply List.ext_getElem
  · simp [ends]
  · intro j h2 h3
    rw [List.getElem_set]
    simp only [ends, List.getElem_map, List.getElem_range]
    by_cases e : a = j
    · subst e
      rw [if_pos rfl, if_neg (by omega), endAh_next, if_pos ⟨ha, hc⟩]
    · have e2 : endAh C (j : Nat) p i (k + 1) = endAh C (j : Nat) p i k := by rw [endAh_next, if_neg (fun h => e (by have := h.1; rw [ha] at this; omega))]
      rw [if_neg e, e2]

/-- Where an arc of a diagram that may be ends (p) or begins: the one side at which it stands so. -/
theorem end_may {C : List Cr} {loops : Int} (hm : mayD C loops = true) (a : Nat) (h1 : 1 ≤ a) (h2 : a ≤ 2 * C.length) (p : Bool) : ∃ i k : Nat, i < C.length ∧ k < 4 ∧ (C.getD i Cr.none).arc k = (a : Int) ∧ (C.getD i Cr.none).comes k = p ∧ endTo C a p C.length = ((i : Int), (k : Int)) := by
  have ho := once_sd (may_once hm a h1 h2) p
  rcases endTo_cases C a p C.length with ⟨h, _⟩ | ⟨_, i, j, h3, h4, h5, h6, h7⟩
  · omega
  · exact ⟨i, j, h3, h4, h5, h6, h7⟩
theorem sd_at (x : Cr) (a : Int) (p : Bool) (k n : Nat) (hk : k < n) (h : x.arc k = a ∧ x.comes k = p) : 0 < sd x a p n := by
  have := sd_mono x a p (k + 1) n (by omega)
  simp only [sd] at this
  rw [if_pos h] at this
  omega
theorem sd_two (x : Cr) (a : Int) (p : Bool) (j k n : Nat) (hj : j < k) (hk : k < n) (h : x.arc j = a ∧ x.comes j = p) (h2 : x.arc k = a ∧ x.comes k = p) : 2 ≤ sd x a p n := by
  have h3 := sd_at x a p j k hj h
  have := sd_mono x a p (k + 1) n (by omega)
  simp only [sd] at this
  rw [if_pos h2] at this
  omega
/-- It stands so nowhere else. -/
theorem end_one {C : List Cr} {loops : Int} (hm : mayD C loops = true) (a : Nat) (h1 : 1 ≤ a) (h2 : a ≤ 2 * C.length) (p : Bool) (i k : Nat) (hi : i < C.length) (hk : k < 4) (ha : (C.getD i Cr.none).arc k = (a : Int)) (hc : (C.getD i Cr.none).comes k = p) : endTo C a p C.length = ((i : Int), (k : Int)) := by
  have ho := once_sd (may_once hm a h1 h2) p
  obtain ⟨i', k', h3, h4, h5, h6, h7⟩ := end_may hm a h1 h2 p
  rw [h7]
  have row : ∀ u v s t : Nat, u < v → v < C.length → s < 4 → t < 4 → (C.getD u Cr.none).arc s = (a : Int) → (C.getD u Cr.none).comes s = p → (C.getD v Cr.none).arc t = (a : Int) → (C.getD v Cr.none).comes t = p → False := by
    intro u v s t huv hv hs ht e1 e2 e3 e4
    have g1 := sd_at (C.getD u Cr.none) a p s 4 hs ⟨e1, e2⟩
    have g2 := sd_at (C.getD v Cr.none) a p t 4 ht ⟨e3, e4⟩
    have g3 := sdTo_mono C a p (u + 1) v (by omega)
    have g4 := sdTo_mono C a p (v + 1) C.length (by omega)
    simp only [sdTo] at g3 g4
    omega
  have col : ∀ u s t : Nat, s < t → u < C.length → t < 4 → (C.getD u Cr.none).arc s = (a : Int) → (C.getD u Cr.none).comes s = p → (C.getD u Cr.none).arc t = (a : Int) → (C.getD u Cr.none).comes t = p → False := by
    intro u s t hst hu ht e1 e2 e3 e4
    have g2 := sd_two (C.getD u Cr.none) a p s t 4 hst ht ⟨e1, e2⟩ ⟨e3, e4⟩
    have g4 := sdTo_mono C a p (u + 1) C.length (by omega)
    simp only [sdTo] at g4
    omega
  rcases Nat.lt_trichotomy i i' with h | h | h
  · exact (row i i' k k' h h3 hk h4 ha hc h5 h6).elim
  · subst h
    rcases Nat.lt_trichotomy k k' with h | h | h
    · exact (col i k k' h hi h4 ha hc h5 h6).elim
    · subst h; rfl
    · exact (col i k' k h hi hk h5 h6 ha hc).elim
  · exact (row i' i k' k h hi h4 hk h5 h6 ha hc).elim
theorem may_fit {C : List Cr} {loops : Int} (hm : mayD C loops = true) (i k : Nat) (hi : i < C.length) (hk : k < 4) : fit C i k := by
  refine Classical.byContradiction fun h => ?_
  rw [unfit_no hi hk h] at hm
  cases hm
/-- The crossing to which arc a leads, and the side. -/
def toC (C : List Cr) (a : Nat) : Nat := (endTo C a true C.length).1.toNat
def toS (C : List Cr) (a : Nat) : Nat := (endTo C a true C.length).2.toNat
/-- The arc behind it. -/
def nx (C : List Cr) (a : Nat) : Nat := ((C.getD (toC C a) Cr.none).arc ((toS C a + 2) % 4)).toNat
theorem to_may {C : List Cr} {loops : Int} (hm : mayD C loops = true) (a : Nat) (h1 : 1 ≤ a) (h2 : a ≤ 2 * C.length) : endTo C a true C.length = ((toC C a : Int), (toS C a : Int)) ∧ toC C a < C.length ∧ toS C a < 4 ∧ (C.getD (toC C a) Cr.none).arc (toS C a) = (a : Int) ∧ (C.getD (toC C a) Cr.none).comes (toS C a) = true := by
  obtain ⟨i, k, h3, h4, h5, h6, h7⟩ := end_may hm a h1 h2 true
  have e1 : toC C a = i := by unfold toC; rw [h7]; simp
  have e2 : toS C a = k := by unfold toS; rw [h7]; simp
  rw [e1, e2]
  exact ⟨h7, h3, h4, h5, h6⟩
theorem nx_may {C : List Cr} {loops : Int} (hm : mayD C loops = true) (a : Nat) (h1 : 1 ≤ a) (h2 : a ≤ 2 * C.length) : (C.getD (toC C a) Cr.none).arc ((toS C a + 2) % 4) = (nx C a : Int) ∧ 1 ≤ nx C a ∧ nx C a ≤ 2 * C.length := by
  obtain ⟨h3, h4, h5, h6, h7⟩ := to_may hm a h1 h2
  have hf := may_fit hm (toC C a) ((toS C a + 2) % 4) h4 (by omega)
  have g1 := hf.1
  have g2 := hf.2.1
  unfold nx
  omega
theorem toS_over {C : List Cr} {loops : Int} (hm : mayD C loops = true) (a : Nat) (h1 : 1 ≤ a) (h2 : a ≤ 2 * C.length) : (toS C a = 0 ∧ toS C a % 2 = 0) ∨ (toS C a ≠ 0 ∧ toS C a % 2 = 1) := by
  obtain ⟨h3, h4, h5, h6, h7⟩ := to_may hm a h1 h2
  generalize toS C a = k at h5 h7
  have hk4 : k = 0 ∨ k = 1 ∨ k = 2 ∨ k = 3 := by omega
  rcases hk4 with rfl | rfl | rfl | rfl
  · exact Or.inl ⟨rfl, rfl⟩
  · exact Or.inr ⟨by omega, rfl⟩
  · simp [Cr.comes] at h7
  · exact Or.inr ⟨by omega, rfl⟩

/-- Walk on from x as long as no arc was seen: what was walked, and what is seen then. -/
def walkF (f : Nat → Nat) : Nat → List Bool → Nat → List Nat → List Nat × List Bool
  | 0, seen, _, acc => (acc, seen)
  | m + 1, seen, x, acc => if seen.getD x true = true then (acc, seen) else walkF f m (seen.set x true) (f x) (acc ++ [x])
/-- How many were not seen. -/
def unseen (l : List Bool) : Nat := l.countP (fun b => !b)
theorem unseen_set {l : List Bool} {x : Nat} (h : l.getD x true = false) : unseen (l.set x true) + 1 = unseen l := by
  induction l generalizing x with
  | nil => simp at h
  | cons b l ih =>
    cases x with
    | zero =>
      have : b = false := by simpa using h
      subst this
      simp [unseen]
    | succ x =>
      have := ih (x := x) (by simpa using h)
      simp only [unseen, List.set_cons_succ, List.countP_cons] at this ⊢
      omega
theorem unseen_pos {l : List Bool} {x : Nat} (h : l.getD x true = false) : 0 < unseen l := by have := unseen_set h; omega
theorem walkF_seen {f : Nat → Nat} {m : Nat} {seen : List Bool} {x : Nat} {acc : List Nat} (h : seen.getD x true = true) : walkF f m seen x acc = (acc, seen) := by
  cases m with
  | zero => rfl
  | succ m => simp only [walkF]; rw [if_pos h]
theorem walkF_more {f : Nat → Nat} {m : Nat} {seen : List Bool} {x : Nat} {acc : List Nat} (h : seen.getD x true = false) (hm : unseen seen ≤ m) : walkF f m seen x acc = walkF f (m - 1) (seen.set x true) (f x) (acc ++ [x]) ∧ unseen (seen.set x true) ≤ m - 1 := by
  have h2 := unseen_set h
  cases m with
  | zero => omega
  | succ m =>
    simp only [walkF]
    rw [if_neg (by rw [h]; decide)]
    exact ⟨rfl, by omega⟩
/-- The walks behind the arcs from 1 to a: they, and what is seen then. -/
def walksTo (f : Nat → Nat) (n : Nat) : Nat → List (List Nat) × List Bool
  | 0 => ([], List.replicate (n + 1) false)
  | a + 1 => let r := walksTo f n a; let s := walkF f (n + 1) r.2 (a + 1) []; (if s.1 = [] then r.1 else r.1 ++ [s.1], s.2)
def walksM (C : List Cr) : List (List Nat) := (walksTo (nx C) (2 * C.length) (2 * C.length)).1
theorem walkF_len (f : Nat → Nat) (m : Nat) (seen : List Bool) (x : Nat) (acc : List Nat) : (walkF f m seen x acc).2.length = seen.length := by
  induction m generalizing seen x acc with
  | zero => rfl
  | succ m ih =>
    simp only [walkF]
    split
    · rfl
    · rw [ih]; simp
theorem unseen_le (l : List Bool) : unseen l ≤ l.length := List.countP_le_length
theorem walksTo_len (f : Nat → Nat) (n a : Nat) : (walksTo f n a).2.length = n + 1 := by
  induction a with
  | zero => simp [walksTo]
  | succ a ih => simp only [walksTo]; rw [walkF_len, ih]
theorem walkF_mem {f : Nat → Nat} {n : Nat} (hf : ∀ a, 1 ≤ a → a ≤ n → 1 ≤ f a ∧ f a ≤ n) (m : Nat) (seen : List Bool) (x : Nat) (acc : List Nat) (h1 : 1 ≤ x) (h2 : x ≤ n) (ha : ∀ y, y ∈ acc → 1 ≤ y ∧ y ≤ n) : ∀ y, y ∈ (walkF f m seen x acc).1 → 1 ≤ y ∧ y ≤ n := by
  induction m generalizing seen x acc with
  | zero => exact ha
  | succ m ih =>
    simp only [walkF]
    split
    · exact ha
    · refine ih _ _ _ (hf x h1 h2).1 (hf x h1 h2).2 fun y hy => ?_
      rcases List.mem_append.1 hy with hy | hy
      · exact ha y hy
      · rw [List.mem_singleton.1 hy]; exact ⟨h1, h2⟩
theorem walkF_size (f : Nat → Nat) (m : Nat) (seen : List Bool) (x : Nat) (acc : List Nat) : (walkF f m seen x acc).1.length + unseen (walkF f m seen x acc).2 = acc.length + unseen seen := by
  induction m generalizing seen x acc with
  | zero => rfl
  | succ m ih =>
    simp only [walkF]
    split
    · rfl
    · next h =>
      have h' : seen.getD x true = false := by cases hb : seen.getD x true with
        | true => exact absurd hb h
        | false => rfl
      have := unseen_set h'
      rw [ih]
      simp only [List.length_append, List.length_cons, List.length_nil]
      omega
theorem walksTo_mem {f : Nat → Nat} {n : Nat} (hf : ∀ a, 1 ≤ a → a ≤ n → 1 ≤ f a ∧ f a ≤ n) (a : Nat) (ha : a ≤ n) : ∀ l, l ∈ (walksTo f n a).1 → l ≠ [] ∧ l.length ≤ n + 1 ∧ ∀ y, y ∈ l → 1 ≤ y ∧ y ≤ n := by
  induction a with
  | zero => intro l hl; simp [walksTo] at hl
  | succ a ih =>
    intro l hl
    simp only [walksTo] at hl
    split at hl
    · exact ih (by omega) l hl
    · next he =>
      rcases List.mem_append.1 hl with hl | hl
      · exact ih (by omega) l hl
      · rw [List.mem_singleton.1 hl]
        refine ⟨he, ?_, walkF_mem hf _ _ _ _ (by omega) ha fun y hy => by cases hy⟩
        have h1 := walkF_size f (n + 1) (walksTo f n a).2 (a + 1) []
        have h2 := unseen_le (walksTo f n a).2
        rw [walksTo_len] at h2
        simp only [List.length_nil] at h1
        omega
theorem walksTo_count (f : Nat → Nat) (n a : Nat) : (walksTo f n a).1.length ≤ a := by
  induction a with
  | zero => exact Nat.le_refl _
  | succ a ih =>
    simp only [walksTo]
    split
    · omega
    · simp only [List.length_append, List.length_cons, List.length_nil]; omega
theorem nx_closed {C : List Cr} {loops : Int} (hm : mayD C loops = true) : ∀ a, 1 ≤ a → a ≤ 2 * C.length → 1 ≤ nx C a ∧ nx C a ≤ 2 * C.length := fun a h1 h2 => (nx_may hm a h1 h2).2
/-- At how many of the places below m of one parity c stands. -/
def cp (x : Nat → Nat) (c r : Nat) : Nat → Nat
  | 0 => 0
  | m + 1 => cp x c r m + (if x m = c ∧ m % 2 = r then 1 else 0)
theorem cp_mono (x : Nat → Nat) (c r a b : Nat) (h : a ≤ b) : cp x c r a ≤ cp x c r b := by
  induction b with
  | zero => obtain rfl : a = 0 := by omega
            exact Nat.le_refl _
  | succ b ih =>
    by_cases e : a = b + 1
    · subst e; exact Nat.le_refl _
    · have := ih (by omega)
      simp only [cp]
      omega
theorem cp_one (x : Nat → Nat) (c r p m : Nat) (hp : p < m) (h : x p = c ∧ p % 2 = r) : 1 ≤ cp x c r m := by
  have := cp_mono x c r (p + 1) m (by omega)
  simp only [cp] at this
  rw [if_pos h] at this
  omega
theorem cp_two (x : Nat → Nat) (c r p q m : Nat) (hp : p < q) (hq : q < m) (h : x p = c ∧ p % 2 = r) (h2 : x q = c ∧ q % 2 = r) : 2 ≤ cp x c r m := by
  have h3 := cp_one x c r p q hp h
  have := cp_mono x c r (q + 1) m (by omega)
  simp only [cp] at this
  rw [if_pos h2] at this
  omega
theorem cp_some (x : Nat → Nat) (c r m : Nat) (h : 1 ≤ cp x c r m) : ∃ p, p < m ∧ x p = c ∧ p % 2 = r := by
  induction m with
  | zero => simp [cp] at h
  | succ m ih =>
    by_cases e : x m = c ∧ m % 2 = r
    · exact ⟨m, by omega, e⟩
    · simp only [cp] at h
      rw [if_neg e] at h
      obtain ⟨p, h1, h2⟩ := ih (by omega)
      exact ⟨p, by omega, h2⟩
theorem cp_more (x : Nat → Nat) (c r q m : Nat) (h : 2 ≤ cp x c r m) : ∃ p, p < m ∧ p ≠ q ∧ x p = c ∧ p % 2 = r := by
  induction m with
  | zero => simp [cp] at h
  | succ m ih =>
    by_cases e : x m = c ∧ m % 2 = r
    · by_cases hq : m = q
      · simp only [cp] at h
        rw [if_pos e] at h
        obtain ⟨p, h1, h2⟩ := cp_some x c r m (by omega)
        exact ⟨p, by omega, by omega, h2⟩
      · exact ⟨m, by omega, hq, e⟩
    · simp only [cp] at h
      rw [if_neg e] at h
      obtain ⟨p, h1, h2⟩ := ih (by omega)
      exact ⟨p, by omega, h2⟩
/-- The sum over the crossings below n. -/
def sumC (f : Nat → Nat) : Nat → Nat
  | 0 => 0
  | n + 1 => sumC f n + f n
theorem sumC_add (f g : Nat → Nat) (n : Nat) : sumC (fun c => f c + g c) n = sumC f n + sumC g n := by
  induction n with
  | zero => rfl
  | succ n ih => simp only [sumC, ih]; omega
theorem sumC_at (v n : Nat) (q : Bool) : sumC (fun c => if v = c ∧ q = true then 1 else 0) n = if v < n ∧ q = true then 1 else 0 := by
  induction n with
  | zero => simp [sumC]
  | succ n ih =>
    simp only [sumC, ih]
    cases q
    · simp
    · simp only [and_true]
      by_cases h1 : v < n
      · rw [if_pos h1, if_neg (by omega), if_pos (by omega)]
      · rw [if_neg h1]
        by_cases h2 : v = n
        · rw [if_pos h2, if_pos (by omega)]
        · rw [if_neg h2, if_neg (by omega)]
/-- How many places below m are of that parity. -/
def par (r : Nat) : Nat → Nat
  | 0 => 0
  | m + 1 => par r m + (if m % 2 = r then 1 else 0)
theorem par_even (n : Nat) : par 0 (2 * n) = n := by
  induction n with
  | zero => rfl
  | succ n ih =>
    rw [show 2 * (n + 1) = 2 * n + 1 + 1 by omega]
    simp only [par]
    rw [ih, if_pos (by omega), if_neg (by omega)]
theorem sum_cp (x : Nat → Nat) (r n m : Nat) (hx : ∀ p, p < m → x p < n) : sumC (fun c => cp x c r m) n = par r m := by
  induction m with
  | zero =>
    simp only [cp, par]
    induction n with
    | zero => rfl
    | succ n ih => simp only [sumC]; rw [ih (fun p hp => by omega)]
  | succ m ih =>
    simp only [cp, par, sumC_add]
    rw [ih fun p hp => hx p (by omega)]
    have e := sumC_at (x m) n (decide (m % 2 = r))
    simp only [decide_eq_true_eq] at e
    rw [e]
    have := hx m (by omega)
    congr 1
    by_cases h : m % 2 = r
    · rw [if_pos ⟨this, h⟩, if_pos h]
    · rw [if_neg (fun e => h e.2), if_neg h]
theorem sumC_le {f : Nat → Nat} {n : Nat} (h : ∀ c, c < n → f c ≤ 1) : sumC f n ≤ n := by
  induction n with
  | zero => exact Nat.le_refl _
  | succ n ih =>
    have := ih fun c hc => h c (by omega)
    have := h n (by omega)
    simp only [sumC]
    omega
theorem sumC_lt {f : Nat → Nat} {n c : Nat} (h : ∀ c, c < n → f c ≤ 1) (hc : c < n) (h0 : f c = 0) : sumC f n < n := by
  induction n with
  | zero => omega
  | succ n ih =>
    simp only [sumC]
    by_cases e : c = n
    · subst e
      have := sumC_le (f := f) (n := c) fun d hd => h d (by omega)
      omega
    · have := ih (fun d hd => h d (by omega)) (by omega)
      have := h n (by omega)
      omega
/-- The number of an even visit, with - ahead where it goes above. -/
def evN (o : Nat → Bool) (j : Nat) : Int := if o (2 * j + 1) = true then -((2 * j + 2 : Nat) : Int) else ((2 * j + 2 : Nat) : Int)
theorem evN_ne (o : Nat → Bool) (j : Nat) : evN o j ≠ 0 := by
  unfold evN; split <;> omega
/-- The even number of crossing c, behind j even visits; 0: none yet. -/
def evTo (x : Nat → Nat) (o : Nat → Bool) (c : Nat) : Nat → Int
  | 0 => 0
  | j + 1 => if x (2 * j + 1) = c then evN o j else evTo x o c j
theorem evTo_zero (x : Nat → Nat) (o : Nat → Bool) (c n : Nat) : evTo x o c n = 0 ↔ ∀ j, j < n → x (2 * j + 1) ≠ c := by
  induction n with
  | zero => exact ⟨fun _ j hj => by omega, fun _ => rfl⟩
  | succ n ih =>
    simp only [evTo]
    by_cases h : x (2 * n + 1) = c
    · rw [if_pos h]
      exact ⟨fun e => absurd e (evN_ne o n), fun e => absurd h (e n (by omega))⟩
    · rw [if_neg h, ih]
      constructor
      · intro e j hj
        by_cases hjn : j = n
        · rw [hjn]; exact h
        · exact e j (by omega)
      · intro e j hj
        exact e j (by omega)
/-- No crossing has two odd or two even numbers. -/
def plane (x : Nat → Nat) (n : Nat) : Prop := ∀ i k, i < 2 * n → k < 2 * n → k ≠ i → x k = x i → k % 2 ≠ i % 2
theorem plane_iff {x : Nat → Nat} {o : Nat → Bool} {n : Nat} (hx : ∀ p, p < 2 * n → x p < n) (h2 : ∀ c, c < n → cp x c 0 (2 * n) + cp x c 1 (2 * n) = 2) : (∀ i, i < n → evTo x o (x (2 * i)) n ≠ 0) ↔ plane x n := by
  constructor
  · intro h i k hi hk hne he hp
    -- each crossing has at most one even place
    have hone : ∀ c, c < n → cp x c 0 (2 * n) ≤ 1 := by
      intro c hc
      rcases Nat.lt_or_ge (cp x c 0 (2 * n)) 2 with h3 | h3
      · omega
      · exfalso
        obtain ⟨p, h4, h5, h6⟩ := cp_some x c 0 (2 * n) (by omega)
        have h7 := h (p / 2) (by omega)
        rw [show 2 * (p / 2) = p by omega, h5] at h7
        refine h7 ((evTo_zero x o c n).2 fun j hj hc2 => ?_)
        have := cp_one x c 1 (2 * j + 1) (2 * n) (by omega) ⟨hc2, by omega⟩
        have := h2 c hc
        omega
    have hcn := hx i hi
    have htwo : 2 ≤ cp x (x i) (i % 2) (2 * n) := by
      rcases Nat.lt_or_gt_of_ne hne with h3 | h3
      · exact cp_two x (x i) (i % 2) k i (2 * n) h3 hi ⟨he, hp⟩ ⟨rfl, rfl⟩
      · exact cp_two x (x i) (i % 2) i k (2 * n) h3 hk ⟨rfl, rfl⟩ ⟨he, hp⟩
    rcases Nat.mod_two_eq_zero_or_one i with h3 | h3
    · rw [h3] at htwo
      have := hone _ hcn
      omega
    · rw [h3] at htwo
      have h4 := h2 _ hcn
      have h5 := sumC_lt hone hcn (by omega)
      rw [sum_cp x 0 n (2 * n) hx, par_even] at h5
      omega
  · intro h i hi h0
    have hall := (evTo_zero x o (x (2 * i)) n).1 h0
    have hc := hx (2 * i) (by omega)
    have h3 := h2 _ hc
    have hno : cp x (x (2 * i)) 1 (2 * n) = 0 := by
      rcases Nat.eq_zero_or_pos (cp x (x (2 * i)) 1 (2 * n)) with h4 | h4
      · exact h4
      · obtain ⟨p, h5, h6, h7⟩ := cp_some x (x (2 * i)) 1 (2 * n) h4
        exact absurd (by rw [show 2 * (p / 2) + 1 = p by omega]; exact h6) (hall (p / 2) (by omega))
    obtain ⟨p, h5, h6, h7, h8⟩ := cp_more x (x (2 * i)) 0 (2 * i) (2 * n) (by omega)
    exact h (2 * i) p (by omega) h5 h6 h7 (by omega)
/-- What stands opposite to the odd visit i among the first m even ones. -/
def oppTo (x : Nat → Nat) (o : Nat → Bool) (i : Nat) : Nat → List Int
  | 0 => []
  | j + 1 => oppTo x o i j ++ (if x (2 * j + 1) = x (2 * i) then [evN o j] else [])
theorem opp_plane {x : Nat → Nat} {o : Nat → Bool} {n : Nat} (h : plane x n) (i m : Nat) (hm : m ≤ n) : oppTo x o i m = if evTo x o (x (2 * i)) m = 0 then [] else [evTo x o (x (2 * i)) m] := by
  induction m with
  | zero => rfl
  | succ m ih =>
    have ih := ih (by omega)
    by_cases e : x (2 * m + 1) = x (2 * i)
    · have e1 : evTo x o (x (2 * i)) (m + 1) = evN o m := by simp only [evTo]; rw [if_pos e]
      have e2 : oppTo x o i (m + 1) = oppTo x o i m ++ [evN o m] := by simp only [oppTo]; rw [if_pos e]
      have h0 : evTo x o (x (2 * i)) m = 0 := (evTo_zero x o _ m).2 fun j hj he => h (2 * m + 1) (2 * j + 1) (by omega) (by omega) (by omega) (by rw [he, e]) (by omega)
      rw [e1, e2, if_neg (evN_ne o m), ih, if_pos h0]
      rfl
    · have e1 : evTo x o (x (2 * i)) (m + 1) = evTo x o (x (2 * i)) m := by simp only [evTo]; rw [if_neg e]
      have e2 : oppTo x o i (m + 1) = oppTo x o i m := by simp only [oppTo]; rw [if_neg e, List.append_nil]
      rw [e1, e2, ih]
/-- The numbers of the first i odd visits. -/
def dowTo (x : Nat → Nat) (o : Nat → Bool) (n : Nat) : Nat → List Int
  | 0 => []
  | i + 1 => dowTo x o n i ++ [evTo x o (x (2 * i)) n]
def refTo (x : Nat → Nat) (o : Nat → Bool) (n : Nat) : Nat → List Int
  | 0 => []
  | i + 1 => refTo x o n i ++ oppTo x o i n
theorem ref_dow {x : Nat → Nat} {o : Nat → Bool} {n : Nat} (hx : ∀ p, p < 2 * n → x p < n) (h2 : ∀ c, c < n → cp x c 0 (2 * n) + cp x c 1 (2 * n) = 2) (h : plane x n) (i : Nat) (hi : i ≤ n) : refTo x o n i = dowTo x o n i := by
  induction i with
  | zero => rfl
  | succ i ih =>
    simp only [refTo, dowTo]
    rw [ih (by omega), opp_plane h i n (Nat.le_refl _), if_neg ((plane_iff hx h2).2 h i (by omega))]
theorem dow_len (x : Nat → Nat) (o : Nat → Bool) (n i : Nat) : (dowTo x o n i).length = i := by
  induction i with
  | zero => rfl
  | succ i ih => simp only [dowTo, List.length_append, ih]; rfl
/-- 1: not seen yet. -/
def un (l : List Bool) (y : Nat) : Nat := if l.getD y true = true then 0 else 1
theorem un_set_same {l : List Bool} {x : Nat} : un (l.set x true) x = 0 := by
  unfold un
  rw [if_pos]
  rw [List.getD_eq_getElem?_getD]
  by_cases h : x < l.length
  · simp [h]
  · rw [List.getElem?_eq_none (by simp; omega)]; rfl
theorem un_set_other {l : List Bool} {x y : Nat} (h : x ≠ y) : un (l.set x true) y = un l y := by
  unfold un
  rw [List.getD_eq_getElem?_getD, List.getD_eq_getElem?_getD, List.getElem?_set_ne h]
theorem walkF_count (f : Nat → Nat) (m : Nat) (seen : List Bool) (x : Nat) (acc : List Nat) (y : Nat) : (walkF f m seen x acc).1.count y + un (walkF f m seen x acc).2 y = acc.count y + un seen y := by
  induction m generalizing seen x acc with
  | zero => rfl
  | succ m ih =>
    simp only [walkF]
    split
    · rfl
    · next h =>
      rw [ih, List.count_append]
      by_cases e : x = y
      · subst e
        have e1 : un seen x = 1 := by unfold un; rw [if_neg h]
        rw [un_set_same, e1]
        simp
      · rw [un_set_other e, List.count_cons_of_ne e]
        simp
theorem walkF_keep (f : Nat → Nat) (m : Nat) (seen : List Bool) (x : Nat) (acc : List Nat) (y : Nat) (h : un seen y = 0) : un (walkF f m seen x acc).2 y = 0 := by
  induction m generalizing seen x acc with
  | zero => exact h
  | succ m ih =>
    simp only [walkF]
    split
    · exact h
    · apply ih
      by_cases e : x = y
      · subst e; exact un_set_same
      · rw [un_set_other e]; exact h
theorem walkF_first (f : Nat → Nat) (m : Nat) (seen : List Bool) (x : Nat) (acc : List Nat) : un (walkF f (m + 1) seen x acc).2 x = 0 := by
  simp only [walkF]
  split
  · next h => unfold un; rw [if_pos h]
  · exact walkF_keep f m _ _ _ x un_set_same
theorem walksTo_seen (f : Nat → Nat) (n a : Nat) : ∀ y, 1 ≤ y → y ≤ a → un (walksTo f n a).2 y = 0 := by
  induction a with
  | zero => intro y h1 h2; omega
  | succ a ih =>
    intro y h1 h2
    simp only [walksTo]
    by_cases e : y = a + 1
    · subst e; exact walkF_first f n _ _ _
    · exact walkF_keep f (n + 1) _ _ _ y (ih y h1 (by omega))
theorem walksTo_one (f : Nat → Nat) (n a y : Nat) (_h1 : 1 ≤ y) (h2 : y ≤ n) : (walksTo f n a).1.flatten.count y + un (walksTo f n a).2 y = 1 := by
  induction a with
  | zero =>
    have e : un (walksTo f n 0).2 y = 1 := by
      have e2 : (walksTo f n 0).2.getD y true = false := by
        show (List.replicate (n + 1) false).getD y true = false
        rw [List.getD_eq_getElem?_getD, List.getElem?_replicate, if_pos (by omega)]
        rfl
      unfold un
      rw [e2]
      rfl
    rw [e]
    rfl
  | succ a ih =>
    have hc := walkF_count f (n + 1) (walksTo f n a).2 (a + 1) [] y
    simp only [walksTo]
    split
    · next he =>
      rw [he] at hc
      simp at hc
      omega
    · rw [List.flatten_append, List.count_append]
      simp at hc ⊢
      omega
/-- In all walks each arc stands just once. -/
theorem walks_once (f : Nat → Nat) (n y : Nat) (h1 : 1 ≤ y) (h2 : y ≤ n) : (walksTo f n n).1.flatten.count y = 1 := by
  have e1 := walksTo_one f n n y h1 h2
  have e2 := walksTo_seen f n n y h1 h2
  omega
theorem count_sum (l : List Nat) (Q : Nat → Bool) (n : Nat) (h : ∀ y, y ∈ l → 1 ≤ y ∧ y ≤ n) : l.countP Q = sumA (fun y => if Q y = true then l.count y else 0) n := by
  induction l with
  | nil =>
    rw [sumA_congr n (g := fun _ => 0) (fun a _ _ => by simp), sumA_zero]
    rfl
  | cons x l ih =>
    have ih := ih fun y hy => h y (List.mem_cons_of_mem _ hy)
    have hx := h x List.mem_cons_self
    have e : sumA (fun y => if Q y = true then (x :: l).count y else 0) n = sumA (fun y => (if Q y = true then l.count y else 0) + (if ((x : Nat) : Int) = (y : Int) then (if Q x = true then 1 else 0) else 0)) n := by
      refine sumA_congr n fun y _ _ => ?_
      by_cases e : x = y
      · subst e
        rw [List.count_cons_self, if_pos rfl]
        split <;> rfl
      · have e3 : ¬((x : Nat) : Int) = (y : Int) := by omega
        rw [List.count_cons_of_ne e, if_neg e3]
        split <;> rfl
    rw [List.countP_cons, ih, e, sumA_add]
    congr 1
    by_cases hq : Q x = true
    · simp only [if_pos hq]
      rw [sumA_at, if_pos (by omega)]
    · simp only [if_neg hq]
      rw [sumA_congr n (g := fun _ => 0) (fun y _ _ => by split <;> rfl), sumA_zero]
theorem sd_toC {C : List Cr} {loops : Int} (hm : mayD C loops = true) (c a : Nat) (hc : c < C.length) (h1 : 1 ≤ a) (h2 : a ≤ 2 * C.length) : sd (C.getD c Cr.none) a true 4 = if toC C a = c then 1 else 0 := by
  obtain ⟨h3, h4, h5, h6, h7⟩ := to_may hm a h1 h2
  have ho := once_sd (may_once hm a h1 h2) true
  have hle := sdTo_mono C a true (c + 1) C.length (by omega)
  simp only [sdTo] at hle
  by_cases e : toC C a = c
  · rw [if_pos e]
    rw [e] at h6 h7
    have := sd_at (C.getD c Cr.none) a true (toS C a) 4 h5 ⟨h6, h7⟩
    omega
  · rw [if_neg e]
    rcases sideEnd_cases (C.getD c Cr.none) c a true (-1, 0) 4 with ⟨g1, _⟩ | ⟨_, j, g2, g3, g4, _⟩
    · exact g1
    · exfalso
      have := end_one hm a h1 h2 true c j hc g2 g3 g4
      rw [h3] at this
      have := congrArg Prod.fst this
      simp only at this
      omega
/-- Two arcs come to each crossing. -/
theorem two_come {C : List Cr} {loops : Int} (hm : mayD C loops = true) (c : Nat) (hc : c < C.length) : sumA (fun a => if toC C a = c then 1 else 0) (2 * C.length) = 2 := by
  rw [sumA_congr (2 * C.length) (g := fun a => sd (C.getD c Cr.none) a true 4) (fun a h1 h2 => (sd_toC hm c a hc h1 h2).symm), sum_sd, rng_all _ true _ 4 (fun j hj _ => by
    have := may_fit hm c j hc hj
    exact ⟨this.1, by have := this.2.1; omega⟩), cnt_four]
theorem cp_total (x : Nat → Nat) (c m : Nat) (l : List Nat) (Q : Nat → Bool) (hm : m ≤ l.length) (hx : ∀ p, p < m → ((Q (l.getD p 0) = true) ↔ x p = c)) : cp x c 0 m + cp x c 1 m = (l.take m).countP Q := by
  induction m with
  | zero => rfl
  | succ m ih =>
    have ih := ih (by omega) fun p hp => hx p (by omega)
    have hq := hx m (by omega)
    have et : l.take (m + 1) = l.take m ++ [l.getD m 0] := by
      rw [List.take_add_one, List.getD_eq_getElem?_getD, List.getElem?_eq_getElem (by omega)]
      rfl
    rw [et, List.countP_append, ← ih]
    simp only [cp, List.countP_cons, List.countP_nil]
    by_cases e : x m = c
    · rw [if_pos (hq.2 e)]
      rcases Nat.mod_two_eq_zero_or_one m with h | h <;> simp [e, h] <;> omega
    · rw [if_neg (fun h => e (hq.1 h))]
      simp [e]
/-- A knot's walk comes to each crossing twice, and has all arcs. -/
theorem knot_walk {C : List Cr} {loops : Int} (hm : mayD C loops = true) {wk : List Nat} (h : walksM C = [wk]) : wk.length = 2 * C.length ∧ (∀ p, p < wk.length → 1 ≤ wk.getD p 0 ∧ wk.getD p 0 ≤ 2 * C.length) ∧ ∀ c, c < C.length → cp (fun p => toC C (wk.getD p 0)) c 0 (2 * C.length) + cp (fun p => toC C (wk.getD p 0)) c 1 (2 * C.length) = 2 := by
  have h' : (walksTo (nx C) (2 * C.length) (2 * C.length)).1 = [wk] := h
  have hmem := (walksTo_mem (nx_closed hm) (2 * C.length) (Nat.le_refl _) wk (by rw [h']; exact List.mem_cons_self)).2.2
  have hone : ∀ y, 1 ≤ y → y ≤ 2 * C.length → wk.count y = 1 := by
    intro y h1 h2
    have := walks_once (nx C) (2 * C.length) y h1 h2
    rw [h'] at this
    simpa using this
  have hcnt : ∀ Q : Nat → Bool, wk.countP Q = sumA (fun y => if Q y = true then 1 else 0) (2 * C.length) := by
    intro Q
    rw [count_sum wk Q (2 * C.length) hmem]
    exact sumA_congr _ fun y h1 h2 => by rw [hone y h1 h2]
  have hlen : wk.length = 2 * C.length := by
    have := hcnt (fun _ => true)
    rw [List.countP_true] at this
    rw [this]
    exact sumA_one _
  refine ⟨hlen, fun p hp => hmem _ ?_, fun c hc => ?_⟩
  · rw [List.getD_eq_getElem?_getD, List.getElem?_eq_getElem hp]
    exact List.getElem_mem hp
  · rw [cp_total (fun p => toC C (wk.getD p 0)) c (2 * C.length) wk (fun a => decide (toC C a = c)) (by omega) (fun p hp => by simp), ← hlen, List.take_length, hcnt]
    rw [sumA_congr (2 * C.length) (g := fun a => if toC C a = c then 1 else 0) (fun y _ _ => by simp)]
    exact two_come hm c hc
end Go.Proofs.YtlimfajjmhfnaaaGreatDoor
/- Plain mathematics: what edges join; labels that are levelled along edges, round by round, come to the least of what is joined. -/
namespace Go.Proofs.YtlimfajjmhfnaaaGreatDoor

def Closed (E : List (Nat × Nat)) (S : Nat → Prop) : Prop := ∀ e, e ∈ E → (S e.1 ↔ S e.2)
/-- Joined by edges. -/
def Con (E : List (Nat × Nat)) (x y : Nat) : Prop := ∀ S, Closed E S → S x → S y
theorem Con.refl (E : List (Nat × Nat)) (x : Nat) : Con E x x := fun _ _ h => h
theorem Con.trans {E : List (Nat × Nat)} {x y z : Nat} (h : Con E x y) (g : Con E y z) : Con E x z := fun S hS hx => g S hS (h S hS hx)
theorem Con.symm {E : List (Nat × Nat)} {x y : Nat} (h : Con E x y) : Con E y x := fun S hS hy =>
  Classical.byContradiction fun hx => h (fun z => ¬ S z) (fun e he => not_congr (hS e he)) hx hy
theorem Con.edge {E : List (Nat × Nat)} {x y : Nat} (h : (x, y) ∈ E) : Con E x y := fun _ hS hx => (hS (x, y) h).1 hx
theorem con_min (E : List (Nat × Nat)) (v : Nat) : ∃ m, Con E v m ∧ ∀ u, Con E v u → m ≤ u := by
  have key : ∀ k x, x ≤ k → Con E v x → ∃ m, Con E v m ∧ ∀ u, Con E v u → m ≤ u := by
    intro k
    induction k with
    | zero => intro x hx h; exact ⟨x, h, fun u _ => by omega⟩
    | succ k ih =>
      intro x hx h
      by_cases hs : ∃ y, y < x ∧ Con E v y
      · obtain ⟨y, hy, hc⟩ := hs
        exact ih y (by omega) hc
      · exact ⟨x, h, fun u hu => Nat.le_of_not_lt fun hlt => hs ⟨u, hlt, hu⟩⟩
  exact key v v (Nat.le_refl _) (Con.refl E v)

/-- One edge levelled. -/
def lev (W : List Nat) (x y : Nat) : List Nat := if W.getD x 0 < W.getD y 0 then W.set y (W.getD x 0) else W.set x (W.getD y 0)
theorem lev_len (W : List Nat) (x y : Nat) : (lev W x y).length = W.length := by unfold lev; split <;> simp
theorem getD_set (W : List Nat) (i v z : Nat) (hi : i < W.length) : (W.set i z).getD v 0 = if v = i then z else W.getD v 0 := by
  simp only [List.getD_eq_getElem?_getD, List.getElem?_set]
  by_cases h : i = v
  · subst h; simp [hi]
  · simp [h, Ne.symm h]
/-- Labels under way: none greater than its place, and of what is joined to it. -/
structure Lab (E : List (Nat × Nat)) (n : Nat) (W : List Nat) : Prop where
  len : W.length = n
  le : ∀ v, v < n → W.getD v 0 ≤ v
  con : ∀ v, v < n → Con E v (W.getD v 0)
theorem lev_at {W : List Nat} {x y v : Nat} (hx : x < W.length) (hy : y < W.length) : (lev W x y).getD v 0 ≤ W.getD v 0 ∧ ((lev W x y).getD v 0 = W.getD v 0 ∨ (v = x ∧ (lev W x y).getD v 0 = W.getD y 0) ∨ (v = y ∧ (lev W x y).getD v 0 = W.getD x 0)) := by
  unfold lev
  split
  · rw [getD_set _ _ _ _ hy]
    split
    · subst v; exact ⟨by omega, Or.inr (Or.inr ⟨rfl, rfl⟩)⟩
    · exact ⟨Nat.le_refl _, Or.inl rfl⟩
  · rw [getD_set _ _ _ _ hx]
    split
    · subst v; exact ⟨by omega, Or.inr (Or.inl ⟨rfl, rfl⟩)⟩
    · exact ⟨Nat.le_refl _, Or.inl rfl⟩
theorem lev_both {W : List Nat} {x y : Nat} (hx : x < W.length) (hy : y < W.length) : (lev W x y).getD x 0 ≤ W.getD y 0 ∧ (lev W x y).getD y 0 ≤ W.getD x 0 := by
  unfold lev
  split
  · rename_i h
    rw [getD_set _ _ _ _ hy, getD_set _ _ _ _ hy, if_pos rfl]
    refine ⟨?_, Nat.le_refl _⟩
    split <;> omega
  · rename_i h
    rw [getD_set _ _ _ _ hx, getD_set _ _ _ _ hx, if_pos rfl]
    refine ⟨Nat.le_refl _, ?_⟩
    split <;> omega
theorem Lab.lev {E : List (Nat × Nat)} {n : Nat} {W : List Nat} (h : Lab E n W) {x y : Nat} (hx : x < n) (hy : y < n) (he : Con E x y) : Lab E n (lev W x y) := by
  have hl := h.len
  refine ⟨by rw [lev_len, hl], fun v hv => ?_, fun v hv => ?_⟩
  · have := (lev_at (W := W) (x := x) (y := y) (v := v) (by omega) (by omega)).1
    have := h.le v hv
    omega
  · rcases (lev_at (W := W) (x := x) (y := y) (v := v) (by omega) (by omega)).2 with e | ⟨hvx, e⟩ | ⟨hvy, e⟩
    · rw [e]; exact h.con v hv
    · rw [e, hvx]; exact he.trans (h.con y hy)
    · rw [e, hvy]; exact he.symm.trans (h.con x hx)
/-- Levelled along edges, one behind the other. -/
def levs (W : List Nat) : List (Nat × Nat) → List Nat
  | [] => W
  | e :: E => levs (lev W e.1 e.2) E
theorem levs_app (W : List Nat) (E F : List (Nat × Nat)) : levs W (E ++ F) = levs (levs W E) F := by
  induction E generalizing W with
  | nil => rfl
  | cons e E ih => exact ih _
def Done (E : List (Nat × Nat)) (W : List Nat) (v : Nat) : Prop := ∀ u, Con E v u → W.getD v 0 ≤ u
theorem levs_lab {E : List (Nat × Nat)} {n : Nat} (F : List (Nat × Nat)) (hF : ∀ e, e ∈ F → e.1 < n ∧ e.2 < n ∧ Con E e.1 e.2) : ∀ W, Lab E n W → Lab E n (levs W F) ∧ ∀ v, (levs W F).getD v 0 ≤ W.getD v 0 := by
  induction F with
  | nil => intro W h; exact ⟨h, fun v => Nat.le_refl _⟩
  | cons e F ih =>
    intro W h
    obtain ⟨h1, h2, h3⟩ := hF e (List.Mem.head _)
    have hl := h.len
    have h' := h.lev h1 h2 h3
    obtain ⟨g1, g2⟩ := ih (fun e' he' => hF e' (List.Mem.tail _ he')) _ h'
    exact ⟨g1, fun v => Nat.le_trans (g2 v) (lev_at (by omega) (by omega)).1⟩
/-- Where one end of an edge is done ahead of a round, both are behind it. -/
theorem levs_done {E : List (Nat × Nat)} {n : Nat} (F : List (Nat × Nat)) (hF : ∀ e, e ∈ F → e.1 < n ∧ e.2 < n ∧ Con E e.1 e.2) (e : Nat × Nat) (he : e ∈ F) : ∀ W, Lab E n W → (Done E W e.1 ∨ Done E W e.2) → Done E (levs W F) e.1 ∧ Done E (levs W F) e.2 := by
  induction F with
  | nil => cases he
  | cons f F ih =>
    intro W h hd
    obtain ⟨h1, h2, h3⟩ := hF f (List.Mem.head _)
    have hl := h.len
    have h' := h.lev h1 h2 h3
    have hF' : ∀ e, e ∈ F → e.1 < n ∧ e.2 < n ∧ Con E e.1 e.2 := fun e' he' => hF e' (List.Mem.tail _ he')
    rcases List.mem_cons.1 he with rfl | he'
    · have g : ∀ v, (levs W (e :: F)).getD v 0 ≤ (lev W e.1 e.2).getD v 0 := (levs_lab F hF' _ h').2
      have hb := lev_both (W := W) (x := e.1) (y := e.2) (by omega) (by omega)
      have ha1 := (lev_at (W := W) (x := e.1) (y := e.2) (v := e.1) (by omega) (by omega)).1
      have ha2 := (lev_at (W := W) (x := e.1) (y := e.2) (v := e.2) (by omega) (by omega)).1
      rcases hd with hd | hd
      · exact ⟨fun u hu => by have := hd u hu; have := g e.1; omega, fun u hu => by have := hd u (h3.trans hu); have := g e.2; omega⟩
      · exact ⟨fun u hu => by have := hd u (h3.symm.trans hu); have := g e.1; omega, fun u hu => by have := hd u hu; have := g e.2; omega⟩
    · refine ih hF' he' _ h' ?_
      rcases hd with hd | hd
      · exact Or.inl fun u hu => Nat.le_trans (lev_at (by omega) (by omega)).1 (hd u hu)
      · exact Or.inr fun u hu => Nat.le_trans (lev_at (by omega) (by omega)).1 (hd u hu)
def levR (W : List Nat) (E : List (Nat × Nat)) : Nat → List Nat
  | 0 => W
  | r + 1 => levs (levR W E r) E
theorem levR_lab {E : List (Nat × Nat)} {n : Nat} (hE : ∀ e, e ∈ E → e.1 < n ∧ e.2 < n) {W : List Nat} (h : Lab E n W) (r : Nat) : Lab E n (levR W E r) := by
  induction r with
  | zero => exact h
  | succ r ih => exact (levs_lab E (fun e he => ⟨(hE e he).1, (hE e he).2, Con.edge he⟩) _ ih).1
theorem countP_more {p q : Nat → Bool} (l : List Nat) (h : ∀ x, p x = true → q x = true) (y : Nat) (hy : y ∈ l) (h1 : p y = false) (h2 : q y = true) : l.countP p < l.countP q := by
  induction l with
  | nil => cases hy
  | cons x l ih =>
    have hm : l.countP p ≤ l.countP q := List.countP_mono_left (fun a _ => h a)
    rcases List.mem_cons.1 hy with rfl | hy'
    · simp [h1, h2]; omega
    · have := ih hy'
      simp only [List.countP_cons]
      have : (if p x = true then 1 else 0) ≤ (if q x = true then 1 else (0 : Nat)) := by
        by_cases hp : p x = true
        · simp [hp, h x hp]
        · simp [hp]
      omega
open Classical in
theorem levR_done {E : List (Nat × Nat)} {n : Nat} (hE : ∀ e, e ∈ E → e.1 < n ∧ e.2 < n) {W : List Nat} (h : Lab E n W) (r : Nat) : (∀ v, v < n → Done E (levR W E r) v) ∨ r ≤ (List.range n).countP (fun v => decide (Done E (levR W E r) v)) := by
  induction r with
  | zero => exact Or.inr (Nat.zero_le _)
  | succ r ih =>
    have hF : ∀ e, e ∈ E → e.1 < n ∧ e.2 < n ∧ Con E e.1 e.2 := fun e he => ⟨(hE e he).1, (hE e he).2, Con.edge he⟩
    have hl := levR_lab hE h r
    have hg := (levs_lab E hF _ hl).2
    have hmono : ∀ v, Done E (levR W E r) v → Done E (levR W E (r + 1)) v := fun v hd u hu => Nat.le_trans (hg v) (hd u hu)
    by_cases hall : ∀ v, v < n → Done E (levR W E r) v
    · exact Or.inl fun v hv => hmono v (hall v hv)
    · right
      have hr : r ≤ (List.range n).countP (fun v => decide (Done E (levR W E r) v)) := by
        rcases ih with h1 | h1
        · exact absurd h1 hall
        · exact h1
      obtain ⟨v, hv⟩ := Classical.not_forall.1 hall
      have hvn : v < n := Classical.byContradiction fun hc => hv fun hh => absurd hh hc
      have hvd : ¬ Done E (levR W E r) v := fun hd => hv fun _ => hd
      obtain ⟨m, hm1, hm2⟩ := con_min E v
      have hmn : m < n := Nat.lt_of_le_of_lt (hm2 v (Con.refl E v)) hvn
      have hmd : Done E (levR W E r) m := fun u hu => Nat.le_trans (hl.le m hmn) (hm2 u (hm1.trans hu))
      -- a done and an undone end of an edge
      have hex : ∃ e, e ∈ E ∧ ((Done E (levR W E r) e.1 ∧ ¬ Done E (levR W E r) e.2) ∨ (¬ Done E (levR W E r) e.1 ∧ Done E (levR W E r) e.2)) := Classical.byContradiction fun hno => by
        have hcl : Closed E (fun z => Done E (levR W E r) z) := fun e he => by
          constructor
          · intro h1
            exact Classical.byContradiction fun h2 => hno ⟨e, he, Or.inl ⟨h1, h2⟩⟩
          · intro h1
            exact Classical.byContradiction fun h2 => hno ⟨e, he, Or.inr ⟨h2, h1⟩⟩
        exact hvd (hm1.symm _ hcl hmd)
      obtain ⟨e, he, hone⟩ := hex
      have hb := levs_done E hF e he _ hl (hone.elim (fun a => Or.inl a.1) (fun a => Or.inr a.2))
      refine Nat.lt_of_le_of_lt hr ?_
      rcases hone with ⟨_, h2⟩ | ⟨h1, _⟩
      · exact countP_more _ (fun x hx => by simp only [decide_eq_true_eq] at hx ⊢; exact hmono x hx) e.2 (List.mem_range.2 (hE e he).2) (by simp [h2]) (by simp; exact hb.2)
      · exact countP_more _ (fun x hx => by simp only [decide_eq_true_eq] at hx ⊢; exact hmono x hx) e.1 (List.mem_range.2 (hE e he).1) (by simp [h1]) (by simp; exact hb.1)
/-- A label is the least of what is joined. -/
def Least (E : List (Nat × Nat)) (n : Nat) (W : List Nat) : Prop := W.length = n ∧ ∀ v, v < n → Con E v (W.getD v 0) ∧ ∀ u, Con E v u → W.getD v 0 ≤ u
theorem Least.eq {E : List (Nat × Nat)} {n : Nat} {W V : List Nat} (h : Least E n W) (g : Least E n V) : W = V := by
  refine List.ext_getElem (by rw [h.1, g.1]) fun i h1 h2 => ?_
  have hi : i < n := by rw [← h.1]; exact h1
  have a := h.2 i hi
  have b := g.2 i hi
  have e : W.getD i 0 = V.getD i 0 := Nat.le_antisymm (a.2 _ b.1) (b.2 _ a.1)
  simpa [List.getD_eq_getElem?_getD, h1, h2] using e
theorem Least.lt {E : List (Nat × Nat)} {n : Nat} {W : List Nat} (h : Least E n W) {v : Nat} (hv : v < n) : W.getD v 0 < n := Nat.lt_of_le_of_lt ((h.2 v hv).2 v (Con.refl E v)) hv
theorem Least.same {E : List (Nat × Nat)} {n : Nat} {W : List Nat} (h : Least E n W) {u v : Nat} (hu : u < n) (hv : v < n) : W.getD u 0 = W.getD v 0 ↔ Con E u v := by
  constructor
  · intro e
    have a := (h.2 u hu).1
    rw [e] at a
    exact a.trans (h.2 v hv).1.symm
  · intro c
    exact Nat.le_antisymm ((h.2 u hu).2 _ (c.trans (h.2 v hv).1)) ((h.2 v hv).2 _ (c.symm.trans (h.2 u hu).1))
theorem levR_least {E : List (Nat × Nat)} {n : Nat} (hE : ∀ e, e ∈ E → e.1 < n ∧ e.2 < n) (r : Nat) (hr : n ≤ r) : Least E n (levR (List.range n) E r) := by
  have h0 : Lab E n (List.range n) := ⟨by simp, fun v hv => by simp [List.getD_eq_getElem?_getD, hv], fun v hv => by simp [List.getD_eq_getElem?_getD, hv, Con.refl]⟩
  have hl := levR_lab hE h0 r
  have hall : ∀ v, v < n → Done E (levR (List.range n) E r) v := by
    rcases levR_done hE h0 r with h | h
    · exact h
    · intro v hv
      have hc : (List.range n).countP (fun v => @decide (Done E (levR (List.range n) E r) v) (Classical.propDecidable _)) = (List.range n).length := Nat.le_antisymm List.countP_le_length (by simp; omega)
      have := List.countP_eq_length.1 hc v (List.mem_range.2 hv)
      simpa using this
  exact ⟨hl.len, fun v hv => ⟨hl.con v hv, hall v hv⟩⟩
end Go.Proofs.YtlimfajjmhfnaaaGreatDoor
/- Plain mathematics: darts and the faces that they go around; pieces. -/
namespace Go.Proofs.YtlimfajjmhfnaaaGreatDoor

/-- Where arc a ends (p) or begins: the crossing, the side. -/
def enC (C : List Cr) (a : Nat) (p : Bool) : Nat := (endTo C a p C.length).1.toNat
def enS (C : List Cr) (a : Nat) (p : Bool) : Nat := (endTo C a p C.length).2.toNat
theorem en_may {C : List Cr} {loops : Int} (hm : mayD C loops = true) (a : Nat) (p : Bool) (h1 : 1 ≤ a) (h2 : a ≤ 2 * C.length) : endTo C a p C.length = ((enC C a p : Int), (enS C a p : Int)) ∧ enC C a p < C.length ∧ enS C a p < 4 ∧ (C.getD (enC C a p) Cr.none).arc (enS C a p) = (a : Int) ∧ (C.getD (enC C a p) Cr.none).comes (enS C a p) = p := by
  obtain ⟨i, k, h3, h4, h5, h6, h7⟩ := end_may hm a h1 h2 p
  have e1 : enC C a p = i := by unfold enC; rw [h7]; simp
  have e2 : enS C a p = k := by unfold enS; rw [h7]; simp
  rw [e1, e2]
  exact ⟨h7, h3, h4, h5, h6⟩
/-- Dart j: its arc, whether it goes back; the dart of an arc. They are numbered from 1 on. -/
def dA (j : Nat) : Nat := (j + 1) / 2
def dB (j : Nat) : Bool := decide (j % 2 = 0)
def mkD (a : Nat) (p : Bool) : Nat := if p = true then 2 * a else 2 * a - 1
theorem dA_mk {a : Nat} {p : Bool} (h : 1 ≤ a) : dA (mkD a p) = a := by unfold dA mkD; split <;> omega
theorem dB_mk {a : Nat} {p : Bool} (h : 1 ≤ a) : dB (mkD a p) = p := by
  unfold dB mkD
  cases p
  · simp; omega
  · simp
theorem mk_d {j : Nat} (h : 1 ≤ j) : mkD (dA j) (dB j) = j := by
  unfold mkD dA dB
  split
  · rename_i hd; simp at hd; omega
  · rename_i hd; simp at hd; omega
theorem dA_le {j n : Nat} (h1 : 1 ≤ j) (h : j ≤ 4 * n) : 1 ≤ dA j ∧ dA j ≤ 2 * n := by unfold dA; omega
theorem mk_le {a n : Nat} {p : Bool} (h1 : 1 ≤ a) (h : a ≤ 2 * n) : 1 ≤ mkD a p ∧ mkD a p ≤ 4 * n := by unfold mkD; split <;> omega
/-- Where a dart ends; the dart behind it. -/
def dC (C : List Cr) (j : Nat) : Nat := enC C (dA j) (!dB j)
def dS (C : List Cr) (j : Nat) : Nat := enS C (dA j) (!dB j)
def fd (C : List Cr) (j : Nat) : Nat := mkD ((C.getD (dC C j) Cr.none).arc ((dS C j + 3) % 4)).toNat ((C.getD (dC C j) Cr.none).comes ((dS C j + 3) % 4))
theorem d_may {C : List Cr} {loops : Int} (hm : mayD C loops = true) (j : Nat) (h1 : 1 ≤ j) (h2 : j ≤ 4 * C.length) : endTo C (dA j) (!dB j) C.length = ((dC C j : Int), (dS C j : Int)) ∧ dC C j < C.length ∧ dS C j < 4 := by
  have h := dA_le h1 h2
  have g := en_may hm (dA j) (!dB j) h.1 h.2
  exact ⟨g.1, g.2.1, g.2.2.1⟩
theorem fd_may {C : List Cr} {loops : Int} (hm : mayD C loops = true) (j : Nat) (h1 : 1 ≤ j) (h2 : j ≤ 4 * C.length) : (C.getD (dC C j) Cr.none).arc ((dS C j + 3) % 4) = (dA (fd C j) : Int) ∧ (C.getD (dC C j) Cr.none).comes ((dS C j + 3) % 4) = dB (fd C j) ∧ 1 ≤ fd C j ∧ fd C j ≤ 4 * C.length := by
  have g := d_may hm j h1 h2
  have hf := may_fit hm (dC C j) ((dS C j + 3) % 4) g.2.1 (by omega)
  have g1 := hf.1
  have g2 := hf.2.1
  unfold fd
  generalize (C.getD (dC C j) Cr.none).comes ((dS C j + 3) % 4) = p
  generalize (C.getD (dC C j) Cr.none).arc ((dS C j + 3) % 4) = x at g1 g2
  have hx : 1 ≤ x.toNat ∧ x.toNat ≤ 2 * C.length := by omega
  rw [dA_mk hx.1, dB_mk hx.1]
  have := mk_le (p := p) hx.1 hx.2
  exact ⟨by omega, rfl, this.1, this.2⟩
theorem fd_closed {C : List Cr} {loops : Int} (hm : mayD C loops = true) : ∀ j, 1 ≤ j → j ≤ 4 * C.length → 1 ≤ fd C j ∧ fd C j ≤ 4 * C.length := fun j h1 h2 => (fd_may hm j h1 h2).2.2
/-- The faces: rings of darts. -/
def facesM (C : List Cr) : List (List Nat) := (walksTo (fd C) (4 * C.length) (4 * C.length)).1

/-- The crossing at the other end of the arc on a side. -/
def nbC (C : List Cr) (k s : Nat) : Nat := enC C ((C.getD k Cr.none).arc s).toNat (!(C.getD k Cr.none).comes s)
def arcE (C : List Cr) : List (Nat × Nat) := (List.range (2 * C.length)).map fun i => (enC C (i + 1) true, enC C (i + 1) false)
theorem en_one {C : List Cr} {loops : Int} (hm : mayD C loops = true) (k s : Nat) (hk : k < C.length) (hs : s < 4) : 1 ≤ ((C.getD k Cr.none).arc s).toNat ∧ ((C.getD k Cr.none).arc s).toNat ≤ 2 * C.length ∧ enC C ((C.getD k Cr.none).arc s).toNat ((C.getD k Cr.none).comes s) = k := by
  have hf := may_fit hm k s hk hs
  have g1 := hf.1
  have g2 := hf.2.1
  have ha : 1 ≤ ((C.getD k Cr.none).arc s).toNat ∧ ((C.getD k Cr.none).arc s).toNat ≤ 2 * C.length := by omega
  refine ⟨ha.1, ha.2, ?_⟩
  have e := end_one hm _ ha.1 ha.2 ((C.getD k Cr.none).comes s) k s hk hs (by omega) rfl
  unfold enC
  rw [e]
  rfl
theorem nb_lt {C : List Cr} {loops : Int} (hm : mayD C loops = true) (k s : Nat) (hk : k < C.length) (hs : s < 4) : nbC C k s < C.length := by
  have h := en_one hm k s hk hs
  exact (en_may hm _ _ h.1 h.2.1).2.1
theorem mem_arcE {C : List Cr} {a : Nat} (h1 : 1 ≤ a) (h2 : a ≤ 2 * C.length) : (enC C a true, enC C a false) ∈ arcE C := by
  unfold arcE
  refine List.mem_map.2 ⟨a - 1, List.mem_range.2 (by omega), ?_⟩
  rw [Nat.sub_add_cancel h1]
theorem nb_con {C : List Cr} {loops : Int} (hm : mayD C loops = true) (k s : Nat) (hk : k < C.length) (hs : s < 4) : Con (arcE C) k (nbC C k s) := by
  have h := en_one hm k s hk hs
  have he := Con.edge (mem_arcE h.1 h.2.1)
  unfold nbC
  cases hc : (C.getD k Cr.none).comes s with
  | true =>
    rw [hc] at h
    rw [h.2.2] at he
    exact he
  | false =>
    rw [hc] at h
    rw [h.2.2] at he
    exact he.symm
theorem edge_nb {C : List Cr} {loops : Int} (hm : mayD C loops = true) (e : Nat × Nat) (he : e ∈ arcE C) : e.1 < C.length ∧ e.2 < C.length ∧ (∃ s, s < 4 ∧ nbC C e.1 s = e.2) ∧ ∃ s, s < 4 ∧ nbC C e.2 s = e.1 := by
  obtain ⟨i, hi, rfl⟩ := List.mem_map.1 he
  have hi' := List.mem_range.1 hi
  have h1 := en_may hm (i + 1) true (by omega) (by omega)
  have h2 := en_may hm (i + 1) false (by omega) (by omega)
  refine ⟨h1.2.1, h2.2.1, ⟨enS C (i + 1) true, h1.2.2.1, ?_⟩, ⟨enS C (i + 1) false, h2.2.2.1, ?_⟩⟩
  · unfold nbC
    rw [h1.2.2.2.1, h1.2.2.2.2]
    rfl
  · unfold nbC
    rw [h2.2.2.2.1, h2.2.2.2.2]
    rfl
theorem arcE_lt {C : List Cr} {loops : Int} (hm : mayD C loops = true) : ∀ e, e ∈ arcE C → e.1 < C.length ∧ e.2 < C.length := fun e he => ⟨(edge_nb hm e he).1, (edge_nb hm e he).2.1⟩

/-- A piece's number under way: P0 ahead of it, P now; todo: whose sides are to be looked at; of k the sides below s were. -/
structure Spr (C : List Cr) (P0 P : List Int) (f : Nat) (num : Int) (todo : List Nat) (k s : Nat) : Prop where
  len : P.length = C.length
  old : ∀ v, v < C.length → P0.getD v 0 ≠ -1 → P.getD v 0 = P0.getD v 0
  new : ∀ v, v < C.length → P0.getD v 0 = -1 → P.getD v 0 = -1 ∨ (P.getD v 0 = num ∧ Con (arcE C) f v)
  fst : P.getD f 0 = num
  tod : ∀ v, v ∈ todo → v < C.length ∧ Con (arcE C) f v
  proc : ∀ v, v < C.length → P.getD v 0 = num → v ∈ todo ∨ ∀ t, t < 4 → (v = k → t < s) → P.getD (nbC C v t) 0 ≠ -1
theorem getI_set (P : List Int) (i v : Nat) (z : Int) (hi : i < P.length) : (P.set i z).getD v 0 = if v = i then z else P.getD v 0 := by
  simp only [List.getD_eq_getElem?_getD, List.getElem?_set]
  by_cases h : i = v
  · subst h; simp [hi]
  · simp [h, Ne.symm h]
theorem Spr.start {C : List Cr} {P0 : List Int} {f : Nat} {num : Int} (hl : P0.length = C.length) (hf : f < C.length) (h0 : P0.getD f 0 = -1) (hn : ∀ v, v < C.length → P0.getD v 0 ≠ num) : Spr C P0 (P0.set f num) f num [f] 0 4 := by
  have hs : ∀ v, (P0.set f num).getD v 0 = if v = f then num else P0.getD v 0 := fun v => getI_set _ _ _ _ (by omega)
  refine ⟨by simp [hl], fun v hv h => ?_, fun v hv h => ?_, by rw [hs, if_pos rfl], fun v hv => ?_, fun v hv h => ?_⟩
  · rw [hs, if_neg (fun e => h (by rw [e, h0]))]
  · rw [hs]
    by_cases e : v = f
    · rw [if_pos e, e]; exact Or.inr ⟨rfl, Con.refl _ _⟩
    · rw [if_neg e]; exact Or.inl h
  · rw [List.mem_singleton.1 hv]; exact ⟨hf, Con.refl _ _⟩
  · rw [hs] at h
    by_cases e : v = f
    · exact Or.inl (by rw [e]; exact List.mem_singleton.2 rfl)
    · rw [if_neg e] at h
      exact absurd h (hn v hv)
/-- One is taken out of the row. -/
theorem Spr.take {C : List Cr} {P0 P : List Int} {f : Nat} {num : Int} {k : Nat} {todo : List Nat} {k0 : Nat} (h : Spr C P0 P f num (k :: todo) k0 4) : Spr C P0 P f num todo k 0 := by
  refine ⟨h.len, h.old, h.new, h.fst, fun v hv => h.tod v (List.Mem.tail _ hv), fun v hv e => ?_⟩
  by_cases hk : v = k
  · exact Or.inr fun t _ hs => absurd (hs hk) (Nat.not_lt_zero _)
  · rcases h.proc v hv e with h1 | h1
    · rcases List.mem_cons.1 h1 with h2 | h2
      · exact absurd h2 hk
      · exact Or.inl h2
    · exact Or.inr fun t ht _ => h1 t ht (fun _ => ht)
/-- A side whose other end has a number. -/
theorem Spr.old_side {C : List Cr} {P0 P : List Int} {f : Nat} {num : Int} {k s : Nat} {todo : List Nat} (h : Spr C P0 P f num todo k s) (hn : P.getD (nbC C k s) 0 ≠ -1) : Spr C P0 P f num todo k (s + 1) := by
  refine ⟨h.len, h.old, h.new, h.fst, h.tod, fun v hv e => ?_⟩
  rcases h.proc v hv e with h1 | h1
  · exact Or.inl h1
  · refine Or.inr fun t ht hs => ?_
    by_cases hvk : v = k
    · by_cases hts : t = s
      · rw [hvk, hts]; exact hn
      · exact h1 t ht (fun e => by have := hs e; omega)
    · exact h1 t ht (fun e => absurd e hvk)
/-- A side whose other end has none yet. -/
theorem Spr.new_side {C : List Cr} {loops : Int} (hm : mayD C loops = true) {P0 P : List Int} {f : Nat} {num : Int} {k s : Nat} {todo : List Nat} (h : Spr C P0 P f num todo k s) (hnum : num ≠ -1) (hk : k < C.length) (hs : s < 4) (hc : Con (arcE C) f k) (hn : P.getD (nbC C k s) 0 = -1) : Spr C P0 (P.set (nbC C k s) num) f num (todo ++ [nbC C k s]) k (s + 1) := by
  have hb := nb_lt hm k s hk hs
  have hcon := hc.trans (nb_con hm k s hk hs)
  generalize hy : nbC C k s = y at hb hcon hn ⊢
  have hg : ∀ v, (P.set y num).getD v 0 = if v = y then num else P.getD v 0 := fun v => getI_set _ _ _ _ (by rw [h.len]; exact hb)
  have hne : ∀ v, P.getD v 0 ≠ -1 → (P.set y num).getD v 0 ≠ -1 := fun v hv => by
    rw [hg]
    split
    · exact hnum
    · exact hv
  refine ⟨by simp [h.len], fun v hv e => ?_, fun v hv e => ?_, ?_, fun v hv => ?_, fun v hv e => ?_⟩
  · rw [hg, if_neg (fun e2 => by rw [e2] at e; have := h.old y hb e; rw [hn] at this; exact e this.symm)]
    exact h.old v hv e
  · rw [hg]
    by_cases e2 : v = y
    · rw [if_pos e2, e2]; exact Or.inr ⟨rfl, hcon⟩
    · rw [if_neg e2]; exact h.new v hv e
  · rw [hg, h.fst]; split <;> rfl
  · rcases List.mem_append.1 hv with h1 | h1
    · exact h.tod v h1
    · rw [List.mem_singleton.1 h1]; exact ⟨hb, hcon⟩
  · by_cases e2 : v = y
    · exact Or.inl (List.mem_append.2 (Or.inr (List.mem_singleton.2 e2)))
    · rw [hg, if_neg e2] at e
      rcases h.proc v hv e with h1 | h1
      · exact Or.inl (List.mem_append.2 (Or.inl h1))
      · refine Or.inr fun t ht hst => ?_
        by_cases hvk : v = k
        · by_cases hts : t = s
          · rw [hvk, hts, hy, hg, if_pos rfl]; exact hnum
          · exact hne _ (h1 t ht (fun e => by have := hst e; omega))
        · exact hne _ (h1 t ht (fun e => absurd e hvk))
/-- Pieces under way: the crossings below k have numbers, below c. -/
structure Pcs (C : List Cr) (P : List Int) (c k : Nat) : Prop where
  len : P.length = C.length
  few : c ≤ k
  cl : ∀ e, e ∈ arcE C → P.getD e.1 0 = P.getD e.2 0
  vals : ∀ v, v < C.length → P.getD v 0 = -1 ∨ (0 ≤ P.getD v 0 ∧ P.getD v 0 < (c : Int))
  join : ∀ u v, u < C.length → v < C.length → P.getD u 0 ≠ -1 → P.getD u 0 = P.getD v 0 → Con (arcE C) u v
  used : ∀ p, p < c → ∃ v, v < C.length ∧ P.getD v 0 = (p : Int)
  done : ∀ v, v < k → v < C.length → P.getD v 0 ≠ -1
theorem Pcs.start (C : List Cr) (P : List Int) (hP : P = List.replicate C.length (-1)) (hE : ∀ e, e ∈ arcE C → e.1 < C.length ∧ e.2 < C.length) : Pcs C P 0 0 := by
  have hg : ∀ v, v < C.length → P.getD v 0 = -1 := fun v hv => by rw [hP]; simp [List.getD_eq_getElem?_getD, hv]
  exact ⟨by rw [hP]; simp, Nat.le_refl _, fun e he => by rw [hg _ (hE e he).1, hg _ (hE e he).2], fun v hv => Or.inl (hg v hv), fun u v hu _ h _ => absurd (hg u hu) h, fun p hp => absurd hp (Nat.not_lt_zero _), fun v hv => absurd hv (Nat.not_lt_zero _)⟩
theorem Pcs.skip {C : List Cr} {P : List Int} {c k : Nat} (h : Pcs C P c k) (hk : P.getD k 0 ≠ -1) : Pcs C P c (k + 1) :=
  ⟨h.len, by have := h.few; omega, h.cl, h.vals, h.join, h.used, fun v hv hn => by
    by_cases e : v = k
    · rw [e]; exact hk
    · exact h.done v (by omega) hn⟩
theorem Pcs.more {C : List Cr} {loops : Int} (hm : mayD C loops = true) {P0 P : List Int} {c k k1 : Nat} (h : Pcs C P0 c k) (hk : k < C.length) (_h0 : P0.getD k 0 = -1) (g : Spr C P0 P k c [] k1 4) : Pcs C P (c + 1) (k + 1) := by
  have hc1 : ((c : Nat) : Int) ≠ -1 := by omega
  have hold : ∀ v, v < C.length → P.getD v 0 = (c : Int) → P0.getD v 0 = -1 := fun v hv e => Classical.byContradiction fun hne => by
    have h1 := g.old v hv hne
    rcases h.vals v hv with h2 | h2
    · exact hne h2
    · omega
  have hone : ∀ u v, u < C.length → v < C.length → P0.getD u 0 = P0.getD v 0 → (∃ t, t < 4 ∧ nbC C u t = v) → (∃ t, t < 4 ∧ nbC C v t = u) → P.getD u 0 = P.getD v 0 := by
    intro u v hu hv e ⟨t, ht, ht'⟩ ⟨t2, ht2, ht2'⟩
    by_cases h1 : P0.getD u 0 = -1
    · have h2 : P0.getD v 0 = -1 := by rw [← e]; exact h1
      rcases g.new u hu h1 with a | a
      · rcases g.new v hv h2 with b | b
        · rw [a, b]
        · rcases g.proc v hv b.1 with c1 | c1
          · cases c1
          · have := c1 t2 ht2 (fun _ => ht2)
            rw [ht2'] at this
            exact absurd a this
      · rcases g.proc u hu a.1 with c1 | c1
        · cases c1
        · have hx := c1 t ht (fun _ => ht)
          rw [ht'] at hx
          rcases g.new v hv h2 with b | b
          · exact absurd b hx
          · rw [a.1, b.1]
    · have h2 : P0.getD v 0 ≠ -1 := by rw [← e]; exact h1
      rw [g.old u hu h1, g.old v hv h2, e]
  refine ⟨g.len, by have := h.few; omega, fun e he => ?_, fun v hv => ?_, fun u v hu hv hne e => ?_, fun p hp => ?_, fun v hv hn => ?_⟩
  · obtain ⟨a1, a2, a3, a4⟩ := edge_nb hm e he
    exact hone _ _ a1 a2 (h.cl e he) a3 a4
  · by_cases h1 : P0.getD v 0 = -1
    · rcases g.new v hv h1 with a | a
      · exact Or.inl a
      · exact Or.inr (by rw [a.1]; omega)
    · rw [g.old v hv h1]
      rcases h.vals v hv with a | a
      · exact Or.inl a
      · exact Or.inr (by omega)
  · by_cases h1 : P.getD u 0 = (c : Int)
    · have hu1 := hold u hu h1
      have hv1 := hold v hv (by rw [← e]; exact h1)
      rcases g.new u hu hu1 with a | a
      · exact absurd a hne
      · rcases g.new v hv hv1 with b | b
        · exact absurd (by rw [e]; exact b) hne
        · exact a.2.symm.trans b.2
    · have hu1 : P0.getD u 0 ≠ -1 := fun hx => by
        rcases g.new u hu hx with a | a
        · exact hne a
        · exact h1 a.1
      have hv1 : P0.getD v 0 ≠ -1 := fun hx => by
        rcases g.new v hv hx with a | a
        · exact hne (by rw [e]; exact a)
        · exact h1 (by rw [e]; exact a.1)
      rw [g.old u hu hu1, g.old v hv hv1] at e
      exact h.join u v hu hv hu1 e
  · by_cases e : p = c
    · exact ⟨k, hk, by rw [g.fst, e]⟩
    · obtain ⟨v, hv, e2⟩ := h.used p (by omega)
      exact ⟨v, hv, by rw [g.old v hv (by rw [e2]; omega), e2]⟩
  · by_cases e : v = k
    · rw [e, g.fst]; exact hc1
    · have := h.done v (by omega) hn
      rw [g.old v hn this]; exact this
/-- All have their numbers. -/
structure PcsAll (C : List Cr) (P : List Int) (c : Nat) : Prop where
  len : P.length = C.length
  few : c ≤ C.length
  vals : ∀ v, v < C.length → 0 ≤ P.getD v 0 ∧ P.getD v 0 < (c : Int)
  same : ∀ u v, u < C.length → v < C.length → (P.getD u 0 = P.getD v 0 ↔ Con (arcE C) u v)
  used : ∀ p, p < c → ∃ v, v < C.length ∧ P.getD v 0 = (p : Int)
theorem Pcs.all {C : List Cr} {P : List Int} {c : Nat} (h : Pcs C P c C.length) : PcsAll C P c := by
  refine ⟨h.len, h.few, fun v hv => ?_, fun u v hu hv => ⟨fun e => h.join u v hu hv (h.done u hu hu) e, fun hc => ?_⟩, h.used⟩
  · rcases h.vals v hv with a | a
    · exact absurd a (h.done v hv hv)
    · exact a
  · exact (hc (fun z => P.getD u 0 = P.getD z 0) (fun e he => by show P.getD u 0 = P.getD e.1 0 ↔ P.getD u 0 = P.getD e.2 0; rw [h.cl e he]) rfl)
/-- Of a piece: as many faces (told by the crossings at which their first darts end) as there are, less its crossings. -/
def exI (n : Nat) (G : List Nat) (P : List Int) (p : Nat) : Int := ((G.countP fun g => decide (P.getD g 0 = (p : Int)) : Nat) : Int) - (((List.range n).countP fun v => decide (P.getD v 0 = (p : Int)) : Nat) : Int)
def exN (n : Nat) (G : List Nat) (W : List Nat) (p : Nat) : Int := ((G.countP fun g => decide (W.getD g 0 = p) : Nat) : Int) - (((List.range n).countP fun v => decide (W.getD v 0 = p) : Nat) : Int)
theorem ex_same {C : List Cr} {P : List Int} {c : Nat} {W : List Nat} {G : List Nat} (hP : PcsAll C P c) (hW : Least (arcE C) C.length W) (hG : ∀ g, g ∈ G → g < C.length) (v : Nat) (hv : v < C.length) (p : Nat) (hp : P.getD v 0 = (p : Int)) : exI C.length G P p = exN C.length G W (W.getD v 0) := by
  have key : ∀ g, g < C.length → decide (P.getD g 0 = (p : Int)) = decide (W.getD g 0 = W.getD v 0) := fun g hg => by
    rw [← hp]
    exact decide_eq_decide.2 ((hP.same g v hg hv).trans (hW.same hg hv).symm)
  unfold exI exN
  rw [List.countP_congr (p := fun g => decide (P.getD g 0 = (p : Int))) (q := fun g => decide (W.getD g 0 = W.getD v 0)) (l := G) (fun g hg => by rw [key g (hG g hg)]),
    List.countP_congr (p := fun g => decide (P.getD g 0 = (p : Int))) (q := fun g => decide (W.getD g 0 = W.getD v 0)) (l := List.range C.length) (fun g hg => by rw [key g (List.mem_range.1 hg)])]
theorem sphere_iff {C : List Cr} {P : List Int} {c : Nat} {W : List Nat} {G : List Nat} (hP : PcsAll C P c) (hW : Least (arcE C) C.length W) (hG : ∀ g, g ∈ G → g < C.length) : (∀ p, p < c → exI C.length G P p = 2) ↔ ∀ p, p < C.length → W.getD p 0 = p → exN C.length G W p = 2 := by
  constructor
  · intro h p hp e
    have hv := hP.vals p hp
    have := ex_same hP hW hG p hp (P.getD p 0).toNat (by omega)
    rw [e] at this
    rw [← this]
    exact h _ (by omega)
  · intro h p hp
    obtain ⟨v, hv, e⟩ := hP.used p hp
    rw [ex_same hP hW hG v hv p e]
    have hw := hW.lt hv
    exact h _ hw ((hW.same hw hv).2 (hW.2 v hv).1.symm)
end Go.Proofs.YtlimfajjmhfnaaaGreatDoor
