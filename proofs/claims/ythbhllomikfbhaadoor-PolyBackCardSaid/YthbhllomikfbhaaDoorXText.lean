/- The text of a polynomial, as bytes: plain functions on lists, their lengths. No program is named here. -/
import Derived.Lib.ItoaNum
import Derived.Lib.ItoaLen
import Derived.Lib.ItoaMem
import Derived.Test.YthbhllomikfbhaaDoorPMath
namespace Go.Proofs.YthbhllomikfbhaaDoor.Poly

/-- What stands ahead of a term. -/
def leadL (first below : Bool) : List UInt8 := if first then (if below then [45] else []) else (if below then [32, 45, 32] else [32, 43, 32])
/-- A power of the variable. -/
def powerL (e : Int) : List UInt8 := if e = 1 then [116] else [116, 94] ++ Lib.itoa e
/-- A term without its sign. -/
def bodyL (c e : Int) : List UInt8 := if e = 0 then Lib.itoa c else if c = 1 then powerL e else Lib.itoa c ++ [42] ++ powerL e
/-- Term number i. -/
def termL (i : Nat) (t : Int × Int) : List UInt8 := leadL (decide (i = 0)) (decide (t.2 < 0)) ++ bodyL (t.2.natAbs : Int) t.1
/-- The first k terms. -/
def textTo (l : List (Int × Int)) : Nat → List UInt8
  | 0 => []
  | k + 1 => textTo l k ++ termL k (l.getD k (0, 0))
/-- The whole text. -/
def textL (l : List (Int × Int)) : List UInt8 := if l.length = 0 then [48] else textTo l l.length

theorem lead_len (f b : Bool) : (leadL f b).length ≤ 3 := by cases f <;> cases b <;> decide
theorem power_len (e : Int) (h0 : -1000 ≤ e) (h1 : e ≤ 1000) : (powerL e).length ≤ 23 := by
  have := Lib.itoa_length_le e (by omega) (by omega)
  unfold powerL; split <;> simp <;> omega
theorem body_len (c e : Int) (h0 : -1000 ≤ e) (h1 : e ≤ 1000) (h2 : 0 ≤ c) (h3 : c ≤ 1000000) : (bodyL c e).length ≤ 45 := by
  have := Lib.itoa_length_le c (by omega) (by omega)
  have := power_len e h0 h1
  unfold bodyL; split
  · omega
  · split
    · omega
    · simp; omega
theorem term_len (i : Nat) (t : Int × Int) (h0 : -1000 ≤ t.1) (h1 : t.1 ≤ 1000) (h2 : -1000000 ≤ t.2) (h3 : t.2 ≤ 1000000) : (termL i t).length ≤ 48 := by
  have := lead_len (decide (i = 0)) (decide (t.2 < 0))
  have := body_len (t.2.natAbs : Int) t.1 h0 h1 (by omega) (by omega)
  unfold termL; rw [List.length_append]; omega
theorem text_len (l : List (Int × Int)) (hm : mayB l = true) (k : Nat) (hk : k ≤ l.length) : (textTo l k).length ≤ 48 * k := by
  induction k with
  | zero => simp [textTo]
  | succ k ih =>
    have h := (okB_iff l k).1 (((may_iff l).1 hm).2 k (by omega))
    have := term_len k (l.getD k (0, 0)) h.1 h.2.1 h.2.2.1 h.2.2.2.1
    have := ih (by omega)
    rw [textTo, List.length_append]; omega

theorem itoa_one (n : Nat) : (Lib.itoa (n : Int) == [49]) = true ↔ n = 1 := by
  rw [Lib.itoa_nonneg, beq_iff_eq]
  constructor
  · intro h
    by_cases h10 : n < 10
    · rw [Lib.decDigits_one h10] at h
      simp only [List.cons.injEq, and_true] at h
      have h2 := congrArg UInt8.toNat h
      simp at h2
      omega
    · have hl := congrArg List.length h
      rw [Lib.decDigits, dif_neg h10, List.length_append] at hl
      have : 0 < (Lib.decDigits (n / 10)).length := by
        rw [Lib.decDigits]; split
        · simp
        · simp
      simp only [List.length_cons, List.length_nil] at hl
      omega
  · rintro rfl
    exact Lib.decDigits_one (by decide)

theorem body0 {c : Nat} {e : Int} (h : e = 0) : bodyL (c : Int) e = Lib.itoa c := by unfold bodyL; rw [if_pos h]
theorem body1 {c : Nat} {e : Int} (h : (e != 0) = true ∧ (Lib.itoa (c : Int) == [49]) = true) (h1 : (e == 1) = true) : bodyL (c : Int) e = [116] := by
  have hc := (itoa_one c).1 h.2
  have he : e = 1 := by simpa using h1
  subst hc he
  rfl
theorem body2 {c : Nat} {e : Int} (h : (e != 0) = true ∧ (Lib.itoa (c : Int) == [49]) = true) (h1 : (e == 1) = false) : bodyL (c : Int) e = [116, 94] ++ Lib.itoa e := by
  have hc := (itoa_one c).1 h.2
  have he : ¬ e = 1 := by simpa using h1
  have h0 : ¬ e = 0 := by simpa using h.1
  subst hc
  unfold bodyL powerL
  rw [if_neg h0, if_pos (by decide), if_neg he]
theorem body3 {c : Nat} {e : Int} (h0 : (e != 0) = true) (h : (e != 0) = false ∨ (Lib.itoa (c : Int) == [49]) = false) (h1 : (e == 1) = true) : bodyL (c : Int) e = Lib.itoa c ++ [42] ++ [116] := by
  have hn : ¬ c = 1 := by
    intro hc
    rw [h0, (itoa_one c).2 hc] at h
    simp at h
  have he : e = 1 := by simpa using h1
  have h0 : ¬ e = 0 := by omega
  unfold bodyL powerL
  rw [if_neg h0, if_neg (by omega), if_pos he]
theorem body4 {c : Nat} {e : Int} (h0 : (e != 0) = true) (h : (e != 0) = false ∨ (Lib.itoa (c : Int) == [49]) = false) (h1 : (e == 1) = false) : bodyL (c : Int) e = Lib.itoa c ++ [42] ++ ([116, 94] ++ Lib.itoa e) := by
  have hn : ¬ c = 1 := by
    intro hc
    rw [h0, (itoa_one c).2 hc] at h
    simp at h
  have he : ¬ e = 1 := by simpa using h1
  have h0 : ¬ e = 0 := by simpa using h0
  unfold bodyL powerL
  rw [if_neg h0, if_neg (by omega), if_neg he]
theorem text_step {l : List (Int × Int)} {k : Nat} {e c : Int} {pre : List UInt8} (he : (l.getD k (0, 0)).1 = e) (hc : (l.getD k (0, 0)).2 = c) (hp : leadL (decide (k = 0)) (decide (c < 0)) = pre) :
    textTo l (k + 1) = textTo l k ++ (pre ++ bodyL (c.natAbs : Int) e) := by
  rw [textTo, termL, he, hc, hp]
end Go.Proofs.YthbhllomikfbhaaDoor.Poly
