/- The walk of knotworkref.Put: a term put into a list in form. -/
import Derived.Test.YthbhllomikfbhaaDoorPB4
import Derived.Test.YthbhllomikfbhaaDoorPPut
namespace Go.Proofs.YthbhllomikfbhaaDoor.Poly
open Go.RowKit Go.Maps

theorem termsAt_take {w : World} {b off : Nat} {l : List (Int × Int)} (h : TermsAt w b off l) (k : Nat) : TermsAt w b off (l.take k) := by
  intro i hi
  have h1 : i < l.length := by simp at hi; omega
  have h2 : i < k := by simp at hi; omega
  have g : (l.take k).getD i (0, 0) = l.getD i (0, 0) := by simp [List.getD, h2]
  rw [g]
  exact h i h1

theorem termsAt_drop {w : World} {b off : Nat} {l : List (Int × Int)} (h : TermsAt w b off l) (k : Nat) : TermsAt w b (off + k * 2) (l.drop k) := by
  intro i hi
  have h1 : k + i < l.length := by simp at hi; omega
  have g : (l.drop k).getD i (0, 0) = l.getD (k + i) (0, 0) := by simp [List.getD, List.getElem?_drop]
  rw [g]
  have := h (k + i) h1
  rw [show off + (k + i) * 2 = off + k * 2 + i * 2 by omega] at this
  exact this

theorem own_len {w : World} {B : Nat} {v : Value} {n m : Nat} {xs : List Value} (h : w.ownsRow B 36 2 v n xs) (e : m = n) : w.ownsRow B 36 2 v m xs := by rw [e]; exact h

theorem flat_len_take (l : List (Int × Int)) (k : Nat) (h : k ≤ l.length) : (flat (l.take k)).length = k * 2 := by rw [flat_length, List.length_take, Nat.min_eq_left h]
theorem flat_len_drop (l : List (Int × Int)) (k : Nat) : (flat (l.drop k)).length = (l.length - k) * 2 := by rw [flat_length, List.length_drop]

/-- A slice of terms, its length within its capacity. -/
def PolyC (w : World) (B : Nat) (v : Value) (l : List (Int × Int)) : Prop := Poly w B v l ∧ ∃ a n c, v = .slice a n c ∧ n ≤ c ∧ c ≤ maxLen

theorem PolyC.ofRow {w : World} {base : Nat} {v : Value} {l : List (Int × Int)} (h : w.ownsRow base 36 2 v l.length (flat l)) : PolyC w w.heap.size v l := by
  refine ⟨Poly.ofRow h, ?_⟩
  rcases h.2 with ⟨rfl, h0⟩ | ⟨g, cap, cur, rfl, _, _, h1, h2, _⟩
  · exact ⟨none, 0, 0, rfl, Nat.le_refl _, Nat.zero_le _⟩
  · exact ⟨_, _, _, rfl, h1, h2⟩

theorem PolyC.up {w w' : World} {v : Value} {l : List (Int × Int)} (h : PolyC w w.heap.size v l) (hb : Below w.heap.size w w') : PolyC w' w'.heap.size v l := ⟨h.1.up hb, h.2⟩

end Go.Proofs.YthbhllomikfbhaaDoor.Poly
