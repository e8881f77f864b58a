/- Several texts of the proof, one behind the other. -/
import Derived.Test.YtnlcknlodjjdbaaDoorPB6P
/- Burau's tables: plain mathematics of polynomials as functions. -/
namespace Go.Proofs.YtnlcknlodjjdbaaDoor.Poly
open Go.RowKit Go.Maps

theorem few_natsB : ∀ (n : Nat) (l : List Nat), l.Pairwise (· ≠ ·) → (∀ x ∈ l, x < n) → l.length ≤ n := by
  intro n
  induction n with
  | zero =>
    intro l _ h
    cases l with
    | nil => simp
    | cons x l => exact absurd (h x (by simp)) (by omega)
  | succ n ih =>
    intro l hp h
    have h1 := ih (l.filter fun x => x != n) (hp.sublist List.filter_sublist) (fun x hx => by
      simp only [List.mem_filter, bne_iff_ne, ne_eq] at hx
      have := h x hx.1
      omega)
    have h2 : ∀ (l : List Nat), l.Pairwise (· ≠ ·) → l.length ≤ (l.filter fun x => x != n).length + 1 := by
      intro l hp
      induction l with
      | nil => simp
      | cons x l ihl =>
        rw [List.pairwise_cons] at hp
        by_cases hx : x = n
        · have e : (l.filter fun x => x != n) = l := by
            rw [List.filter_eq_self]
            intro y hy
            have := hp.1 y hy
            simp only [bne_iff_ne, ne_eq]
            omega
          simp [hx, e]
        · have := ihl hp.2
          simp [hx]
          omega
    have := h2 l hp
    omega


theorem few_intsB (K : Nat) (l : List Int) (hp : l.Pairwise (· ≠ ·)) (h : ∀ x ∈ l, -(K : Int) ≤ x ∧ x ≤ K) : l.length ≤ 2 * K + 1 := by
  have := few_natsB (2 * K + 1) (l.map fun x : Int => (x + (K : Int)).toNat) (by
    rw [List.pairwise_map]
    refine List.Pairwise.imp_of_mem ?_ hp
    intro a b ha hb hab e
    have := h a ha
    have := h b hb
    omega) (fun x hx => by
    simp only [List.mem_map] at hx
    obtain ⟨y, hy, rfl⟩ := hx
    have := h y hy
    omega)
  simpa using this


theorem coll_lenB {D : DataW Unit} {left : Lit → Bool} {acc : List (Int × Int)} (h : Coll D left acc) (N : Nat) (hK : KeysIn D (N : Int)) : acc.length ≤ 2 * N + 1 := by
  have := few_intsB N (acc.map Prod.fst) (by
    rw [List.pairwise_map]
    exact h.once) (fun x hx => by
    simp only [List.mem_map] at hx
    obtain ⟨t, ht, rfl⟩ := hx
    have h1 := (h.mem t.1 t.2).1 ht
    refine hK t.1 ?_
    cases hh : Maps.has D (.int .i64 t.1) with
    | true => rfl
    | false => rw [coefOf_none hh] at h1; exact absurd h1.2.1.symm h1.2.2)
  simpa using this


theorem prodL_point (a : List (Int × Int)) (z d y : Int) : prodL a (fun u => if z = u then d else 0) y = d * coefL a (y - z) := by
  induction a with
  | nil => simp [prodL, coefL]
  | cons t a ih =>
    simp only [prodL, coefL, ih, Int.mul_add]
    congr 1
    by_cases e : t.1 = y - z
    · rw [if_pos (by omega), if_pos e, Int.mul_comm]
    · rw [if_neg (by omega), if_neg e]; simp
theorem prodL_sum (a : List (Int × Int)) (f g : Int → Int) (y : Int) : prodL a (fun u => f u + g u) y = prodL a f y + prodL a g y := by
  induction a with
  | nil => simp [prodL]
  | cons t a ih => simp only [prodL, ih, Int.mul_add]; omega
/-- The product may be told from either side. -/
theorem prodL_comm (a b : List (Int × Int)) (y : Int) : prodL a (coefL b) y = prodL b (coefL a) y := by
  induction b with
  | nil =>
    have : ∀ a : List (Int × Int), prodL a (coefL []) y = 0 := fun a => by
      induction a with
      | nil => rfl
      | cons t a ih =>
        show t.2 * coefL [] (y - t.1) + prodL a (coefL []) y = 0
        rw [ih]
        show t.2 * 0 + 0 = 0
        omega
    rw [this]
    rfl
  | cons t b ih =>
    have e : coefL (t :: b) = fun u => (if t.1 = u then t.2 else 0) + coefL b u := rfl
    rw [e, prodL_sum, prodL_point, ih]
    rfl
theorem prodL_congr (a : List (Int × Int)) (f g : Int → Int) (h : ∀ u, f u = g u) (y : Int) : prodL a f y = prodL a g y := by rw [show f = g from funext h]
/-- What a list of different terms tells is what the function tells that it lists. -/
theorem coefL_of {acc : List (Int × Int)} {f : Int → Int} (h : ∀ x c, (x, c) ∈ acc ↔ (f x = c ∧ c ≠ 0)) (hp : acc.Pairwise (fun a b => a.1 ≠ b.1)) (x : Int) : coefL acc x = f x := by
  have hz : ∀ t ∈ acc, t.2 ≠ 0 := fun t ht => ((h t.1 t.2).1 ht).2
  by_cases h0 : f x = 0
  · by_cases h1 : coefL acc x = 0
    · rw [h0, h1]
    · have := (coefL_mem hp hz x (coefL acc x)).2 ⟨rfl, h1⟩
      exact ((h x _).1 this).1.symm
  · have := (h x (f x)).2 ⟨rfl, h0⟩
    exact ((coefL_mem hp hz x (f x)).1 this).1

/-- Coefficients and exponents are not too great. -/
structure BuOk (H K : Nat) (f : Int → Int) : Prop where
  bd : ∀ y, -(H : Int) ≤ f y ∧ f y ≤ H
  sp : ∀ y, f y ≠ 0 → -(K : Int) ≤ y ∧ y ≤ K
theorem BuOk.mono {H K H' K' : Nat} {f : Int → Int} (h : BuOk H K f) (h1 : H ≤ H') (h2 : K ≤ K') : BuOk H' K' f := ⟨fun y => by have := h.bd y; omega, fun y hy => by have := h.sp y hy; omega⟩
end Go.Proofs.YtnlcknlodjjdbaaDoor.Poly
/- Burau's tables: the walks of terms.Work's Plus and Times with greater coefficients and bounded keys. -/
namespace Go.Proofs.YtnlcknlodjjdbaaDoor.Poly
open Go.RowKit Go.Maps

end Go.Proofs.YtnlcknlodjjdbaaDoor.Poly
