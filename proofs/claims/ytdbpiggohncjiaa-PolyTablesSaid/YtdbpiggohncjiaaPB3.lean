/- The walk of (poly.work).times: the product of two maps, as a new one. -/
import Derived.Test.YtdbpiggohncjiaaPB2
namespace Go.Proofs.Ytdbpiggohncjiaa.Poly
open Go.RowKit Go.Maps

/-- The coefficient of y in a list of terms times what g tells. -/
def prodL : List (Int × Int) → (Int → Int) → Int → Int
  | [], _, _ => 0
  | t :: ts, g, y => t.2 * g (y - t.1) + prodL ts g y

theorem prodL_append (a b : List (Int × Int)) (g : Int → Int) (y : Int) : prodL (a ++ b) g y = prodL a g y + prodL b g y := by
  induction a with
  | nil => simp [prodL]
  | cons t a ih => simp only [List.cons_append, prodL, ih]; omega

theorem mul_bd {c g : Int} (h0 : -1000000 ≤ c) (h1 : c ≤ 1000000) (h2 : -1000000 ≤ g) (h3 : g ≤ 1000000) : -1000000000000 ≤ c * g ∧ c * g ≤ 1000000000000 := by
  have e : (c * g).natAbs ≤ 1000000 * 1000000 := by
    rw [Int.natAbs_mul]
    exact Nat.mul_le_mul (by omega) (by omega)
  omega

theorem prodL_le (a : List (Int × Int)) (g : Int → Int) (y : Int) (ha : ∀ t ∈ a, -1000000 ≤ t.2 ∧ t.2 ≤ 1000000) (hg : ∀ x, -1000000 ≤ g x ∧ g x ≤ 1000000) :
    -(1000000000000 * (a.length : Int)) ≤ prodL a g y ∧ prodL a g y ≤ 1000000000000 * (a.length : Int) := by
  induction a with
  | nil => simp [prodL]
  | cons t a ih =>
    have h1 := ih fun t ht => ha t (List.mem_cons_of_mem _ ht)
    have h2 := ha t (by simp)
    have h3 := hg (y - t.1)
    have h4 := mul_bd h2.1 h2.2 h3.1 h3.2
    simp only [prodL, List.length_cons]
    omega

theorem prodL_perm {a b : List (Int × Int)} (h : a.Perm b) (g : Int → Int) (y : Int) : prodL a g y = prodL b g y := by
  induction h with
  | nil => rfl
  | cons t _ ih => simp only [prodL, ih]
  | swap s t l => simp only [prodL]; omega
  | trans _ _ ih1 ih2 => rw [ih1, ih2]

theorem coll_bd {D : DataW Unit} {left : Lit → Bool} {acc : List (Int × Int)} (h : Coll D left acc) (hb : ∀ x, -1000000 ≤ coefOf D x ∧ coefOf D x ≤ 1000000) : ∀ t ∈ acc, -1000000 ≤ t.2 ∧ t.2 ≤ 1000000 := by
  intro t ht
  have := ((h.mem t.1 t.2).1 ht).2.1
  rw [← this]
  exact hb t.1

end Go.Proofs.Ytdbpiggohncjiaa.Poly
