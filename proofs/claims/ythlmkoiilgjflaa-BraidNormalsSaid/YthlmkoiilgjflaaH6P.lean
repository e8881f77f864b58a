/- Several texts of the proof, one behind the other. -/
import Derived.Test.YthlmkoiilgjflaaH5P
import Derived.Test.YthlmkoiilgjflaaBase
/- The walk of drawing.Of. -/
namespace Go.Proofs.Ythlmkoiilgjflaa
open Go.RowKit

/-- No drawing at all. -/
def noDrawing : Value := .agg #[.slice none 0 0, .int .i64 0, .slice none 0 0, .slice none 0 0]

end Go.Proofs.Ythlmkoiilgjflaa
/- Fractions that may be handed in: the walks of tangle.divisor, ref.divisorOf, tangle.proper and ref.LowestIs. -/
namespace Go.Proofs.Ythlmkoiilgjflaa
open Go.RowKit

/-- May it be handed in? -/
def lowB (p q : Int) : Bool := decide ((p = 1 ∧ q = 1) ∨ (p ≤ 1000 ∧ 0 < q ∧ q < p ∧ Nat.gcd p.toNat q.toNat = 1))
theorem lowB_one : lowB 1 1 = true := by decide
theorem lowB_no {p q : Int} (h1 : ¬ (p = 1 ∧ q = 1)) (h2 : ¬ (p ≤ 1000 ∧ 0 < q ∧ q < p)) : lowB p q = false := by
  unfold lowB
  rw [decide_eq_false_iff_not]
  intro h
  rcases h with h | ⟨a, b, c, -⟩
  · exact h1 h
  · exact h2 ⟨a, b, c⟩
theorem lowB_gcd {p q : Int} (h1 : p ≠ 1) (h2 : p ≤ 1000) (h3 : 0 < q) (h4 : q < p) : lowB p q = (Nat.gcd p.toNat q.toNat == 1) := by
  unfold lowB
  by_cases h : Nat.gcd p.toNat q.toNat = 1
  · rw [beq_iff_eq.2 h, decide_eq_true (Or.inr ⟨h2, h3, h4, h⟩)]
  · rw [beq_eq_false_iff_ne.2 h, decide_eq_false]
    intro hc
    rcases hc with hc | hc
    · exact h1 hc.1
    · exact h hc.2.2.2
theorem lowB_yes {p q : Int} (h : lowB p q = true) : 1 ≤ p ∧ p ≤ 1000 ∧ 1 ≤ q ∧ q ≤ p ∧ Nat.gcd p.toNat q.toNat = 1 := by
  unfold lowB at h
  have h := of_decide_eq_true h
  rcases h with ⟨rfl, rfl⟩ | ⟨a, b, c, d⟩
  · decide
  · exact ⟨by omega, by omega, by omega, by omega, d⟩

theorem gcd_found {a b n : Nat} (ha : 1 ≤ a) (h1 : n ∣ a) (h2 : n ∣ b) (h : ∀ m, n < m → m ≤ a → ¬ (m ∣ a ∧ m ∣ b)) : Nat.gcd a b = n := by
  have h3 : n ∣ Nat.gcd a b := Nat.dvd_gcd h1 h2
  have h4 : Nat.gcd a b ≤ a := Nat.le_of_dvd ha (Nat.gcd_dvd_left a b)
  have h5 : 0 < Nat.gcd a b := Nat.gcd_pos_of_pos_left b ha
  have h6 := Nat.le_of_dvd h5 h3
  rcases Nat.lt_or_ge n (Nat.gcd a b) with h7 | h7
  · exact absurd ⟨Nat.gcd_dvd_left a b, Nat.gcd_dvd_right a b⟩ (h _ h7 h4)
  · omega

end Go.Proofs.Ythlmkoiilgjflaa
