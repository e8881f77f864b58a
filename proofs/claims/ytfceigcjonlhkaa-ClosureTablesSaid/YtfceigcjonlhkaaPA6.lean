/- The walks of knotworkref.AtOf and poly.At: the value at 1 or -1. -/
import Derived.Test.YtfceigcjonlhkaaPA5
namespace Go.Proofs.Ytfceigcjonlhkaa.Poly
open Go.RowKit

/-- What a term is worth at t. -/
def atV (t e c : Int) : Int := if e % 2 = 0 then c else t * c
/-- The sum of the first k. -/
def atTo (l : List (Int × Int)) (t : Int) : Nat → Int
  | 0 => 0
  | k + 1 => atTo l t k + atV t (l.getD k (0, 0)).1 (l.getD k (0, 0)).2

theorem atV_le (t e c : Int) (ht : t = 1 ∨ t = -1) (h0 : -1000000 ≤ c) (h1 : c ≤ 1000000) : -1000000 ≤ atV t e c ∧ atV t e c ≤ 1000000 := by
  unfold atV
  split
  · omega
  · rcases ht with rfl | rfl <;> omega

theorem atTo_le (l : List (Int × Int)) (t : Int) (ht : t = 1 ∨ t = -1) (hm : mayB l = true) (k : Nat) (hk : k ≤ l.length) : -1000000 * (k : Int) ≤ atTo l t k ∧ atTo l t k ≤ 1000000 * (k : Int) := by
  induction k with
  | zero => simp [atTo]
  | succ k ih =>
    have h := (okB_iff l k).1 (((may_iff l).1 hm).2 k (by omega))
    have := ih (by omega)
    have := atV_le t (l.getD k (0, 0)).1 (l.getD k (0, 0)).2 ht h.2.2.1 h.2.2.2.1
    rw [atTo]
    omega

theorem ret_int {k : IntKind} {a b : Int} (h : a = b) : Ending.returned (.int k a) = .returned (.int k b) := by rw [h]
theorem ret_pair {a b : Int} {y : Value} (h : a = b) : Ending.returned (.tuple #[.int .i64 a, y]) = .returned (.tuple #[.int .i64 b, y]) := by rw [h]

theorem tmod2 (e : Int) : (e.tmod 2 == 0) = decide (e % 2 = 0) := by
  rw [Bool.eq_iff_iff]
  simp only [beq_iff_eq, decide_eq_true_eq]
  exact ⟨fun h => Int.emod_eq_zero_of_dvd (Int.dvd_of_tmod_eq_zero h), fun h => Int.tmod_eq_zero_of_dvd (Int.dvd_of_emod_eq_zero h)⟩

theorem Poly.up {w w' : World} {v : Value} {l : List (Int × Int)} (h : Poly w w.heap.size v l) (hb : Below w.heap.size w w') : Poly w' w'.heap.size v l := (h.on hb).mono hb.size

theorem at_tt {t : Int} (ht : t = 1 ∨ t = -1) : (t = 1 ∧ (t != 1) = false ∧ (t != -1) = true) ∨ (t = -1 ∧ (t != 1) = true ∧ (t != -1) = false) := by
  rcases ht with rfl | rfl
  · exact Or.inl ⟨rfl, rfl, rfl⟩
  · exact Or.inr ⟨rfl, rfl, rfl⟩

end Go.Proofs.Ytfceigcjonlhkaa.Poly
