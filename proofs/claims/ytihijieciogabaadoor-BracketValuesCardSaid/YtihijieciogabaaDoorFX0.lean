/- Whole numbers below 2^53 in 64 bits of floating point: every sum, difference and product of them that stays below is exact. -/
import Derived.Laws.ComplexArith
namespace Go.Proofs.YtihijieciogabaaDoor
open Ieee

/-- The datum stands for a whole number. -/
def Dl (d : Datum) (z : Int) : Prop := ∃ (s : Bool) (m k : Nat), d = .number s m (-(k : Int)) ∧ (if s = true then -(m : Int) else (m : Int)) = z * 2 ^ k
def Fl (w : Nat) (z : Int) : Prop := Dl (double.read w) z

theorem fx_signed (s : Bool) (m u : Nat) : signed s m u = (if s = true then -(m : Int) else (m : Int)) * 2 ^ u := by
  unfold signed
  rw [Nat.shiftLeft_eq]
  cases s
  · simp
  · simp [Int.neg_mul]
theorem Dl.opposite {d : Datum} {z : Int} (h : Dl d z) : Dl d.opposite (-z) := by
  obtain ⟨s, m, k, rfl, e⟩ := h
  refine ⟨!s, m, k, rfl, ?_⟩
  rw [Int.neg_mul, ← e]
  cases s <;> simp
theorem fx_pow (k l : Nat) : (2 : Int) ^ (k + l) = 2 ^ k * 2 ^ l := by rw [Int.pow_add]
theorem fx_up {s : Bool} {m k K : Nat} {z : Int} (h : (if s = true then -(m : Int) else (m : Int)) = z * 2 ^ k) (hk : k ≤ K) : signed s m (-(k : Int) - (-(K : Int))).toNat = z * 2 ^ K := by
  rw [fx_signed, h, show (-(k : Int) - (-(K : Int))).toNat = K - k by omega, Int.mul_assoc, ← fx_pow, show k + (K - k) = K by omega]
theorem fx_min (k l : Nat) : min (-(k : Int)) (-(l : Int)) = -((max k l : Nat) : Int) := by omega
theorem Dl.sum {d e : Datum} {x y : Int} (h : Dl d x) (g : Dl e y) : ∃ r, d.sum e = some r ∧ Dl r (x + y) := by
  obtain ⟨s, m, k, rfl, h⟩ := h
  obtain ⟨t, n, l, rfl, g⟩ := g
  refine ⟨_, rfl, ?_⟩
  rw [fx_min]
  rw [fx_up h (Nat.le_max_left k l), fx_up g (Nat.le_max_right k l), ← Int.add_mul]
  refine ⟨_, _, _, rfl, ?_⟩
  by_cases h0 : (x + y) * 2 ^ max k l = 0
  · rw [h0]
    cases s <;> cases t <;> rfl
  · rw [if_neg h0]
    by_cases h1 : (x + y) * 2 ^ max k l < 0
    · rw [if_pos (by simpa using h1)]; omega
    · rw [if_neg (by simpa using h1)]; omega
theorem Dl.product {d e : Datum} {x y : Int} (h : Dl d x) (g : Dl e y) : ∃ r, d.product e = some r ∧ Dl r (x * y) := by
  obtain ⟨s, m, k, rfl, h⟩ := h
  obtain ⟨t, n, l, rfl, g⟩ := g
  refine ⟨_, rfl, _, _, k + l, by rw [show -(k : Int) + -(l : Int) = -((k + l : Nat) : Int) by omega], ?_⟩
  rw [fx_pow, show x * y * (2 ^ k * 2 ^ l) = (x * 2 ^ k) * (y * 2 ^ l) by ac_rfl, ← h, ← g]
  cases s <;> cases t <;> simp [Int.mul_neg, Int.neg_mul]
theorem Dl.same {d e : Datum} {x : Int} (h : Dl d x) (g : Dl e x) : d.order e = some .eq := by
  obtain ⟨s, m, k, rfl, h⟩ := h
  obtain ⟨t, n, l, rfl, g⟩ := g
  show some (compare _ _) = _
  rw [fx_min, fx_up h (Nat.le_max_left k l), fx_up g (Nat.le_max_right k l)]
  simp
theorem fx_log (n k : Nat) (h : n ≠ 0) : (n * 2 ^ k).log2 = n.log2 + k := by
  induction k with
  | zero => simp
  | succ k ih =>
    rw [Nat.pow_succ, ← Nat.mul_assoc, Nat.mul_comm _ 2, Nat.log2_two_mul (Nat.mul_ne_zero h (by have := Nat.two_pow_pos k; omega)), ih]; rfl
/-- A number that needs no digit below the last one kept is cut to itself. -/
theorem fx_cut (neg : Bool) (n d : Nat) (hn : n ≠ 0) : Toward.even.cut neg (n * 2 ^ d) d = n := by
  have hl := fx_log n d hn
  have hp := Nat.two_pow_pos d
  unfold Toward.cut
  rw [show min d ((n * 2 ^ d).log2 + 2) = d by omega, Nat.shiftLeft_eq, Nat.one_mul]
  simp only [Nat.mul_mod_left, Nat.mul_div_cancel _ hp, Nat.mul_zero]
  have e1 : decide (2 ^ d < 0) = false := by simp
  have e2 : (2 ^ d == 0) = false := by simp
  rw [e1, e2]
  rfl
theorem fx_word (s : Bool) (r : Nat) (h : r < 2 ^ 63) : (double.word s r / double.signWeight % 2 == 1) = s ∧ double.word s r % double.signWeight = r := by
  have e : double.signWeight = 9223372036854775808 := by decide
  have h2 : r < 9223372036854775808 := h
  unfold Format.word
  rw [e]
  cases s
  · rw [if_neg (by simp)]
    refine ⟨?_, by omega⟩
    rw [show r / 9223372036854775808 = 0 by omega]; rfl
  · rw [if_pos rfl]
    refine ⟨?_, by omega⟩
    rw [show (9223372036854775808 + r) / 9223372036854775808 = 1 by omega]; rfl
theorem Dl.write {d : Datum} {z : Int} (h : Dl d z) (hz : z.natAbs < 9007199254740992) : Fl (double.write d) z := by
  obtain ⟨s, m, k, rfl, h⟩ := h
  show Dl (double.read (double.nearest s m (-(k : Int)))) z
  have hp : (0 : Int) < 2 ^ k := by have := Nat.two_pow_pos k; exact_mod_cast this
  have hm : m = z.natAbs * 2 ^ k := by
    have := congrArg Int.natAbs h
    rw [Int.natAbs_mul, Int.natAbs_pow] at this
    rw [show (2 : Int).natAbs = 2 from rfl] at this
    rw [← this]
    cases s <;> simp
  have eL : double.leastPlace = -1074 := by decide
  have eB : double.binade = 4503599627370496 := by decide
  have eI : double.infRung = 9218868437227405312 := by decide
  have eF : double.fractionBits = 52 := rfl
  by_cases h0 : z = 0
  · subst h0
    have hm0 : m = 0 := by rw [hm]; simp
    subst hm0
    unfold Format.nearest
    rw [if_pos rfl]
    obtain ⟨a, b⟩ := fx_word s 0 (by decide)
    unfold Format.read
    rw [a, b, eB, eL]
    refine ⟨s, 0, 1074, rfl, ?_⟩
    rw [Int.zero_mul]
    cases s <;> rfl
  obtain ⟨n, hn⟩ : ∃ n, n = z.natAbs := ⟨_, rfl⟩
  have hn0 : n ≠ 0 := by omega
  rw [← hn] at hm hz
  have hl : n.log2 ≤ 52 := by
    have : n.log2 < 53 := (Nat.log2_lt hn0).2 hz
    omega
  have hlo : 2 ^ n.log2 ≤ n := Nat.log2_self_le hn0
  have hhi : n < 2 ^ (n.log2 + 1) := Nat.lt_log2_self
  obtain ⟨e, he⟩ : ∃ e, e = 52 - n.log2 := ⟨_, rfl⟩
  have hlog : (n * 2 ^ k).log2 = n.log2 + k := fx_log n k hn0
  have hb1 : 4503599627370496 ≤ n * 2 ^ e := by
    have := Nat.mul_le_mul_right (2 ^ e) hlo
    rw [← Nat.pow_add, show n.log2 + e = 52 by omega] at this
    exact this
  have hb2 : n * 2 ^ e < 9007199254740992 := by
    have := Nat.mul_lt_mul_of_pos_right hhi (Nat.two_pow_pos e)
    rw [← Nat.pow_add, show n.log2 + 1 + e = 53 by omega] at this
    exact this
  have hm1 : m ≠ 0 := by rw [hm]; exact Nat.mul_ne_zero hn0 (by have := Nat.two_pow_pos k; omega)
  have hne : double.nearest s m (-(k : Int)) = double.word s ((1074 - e) * 4503599627370496 + n * 2 ^ e) := by
    unfold Format.nearest
    rw [if_neg hm1, eL, eB, eI, eF, hm, hlog]
    have hlast : max (-(k : Int) + ((n.log2 + k : Nat) : Int) - ((52 : Nat) : Int)) (-1074) = -(e : Int) := by omega
    simp only [hlast]
    rw [show (-(e : Int) - -1074).toNat = 1074 - e by omega]
    have hk : Toward.even.cut s ((n * 2 ^ k) <<< (-(k : Int) - -(e : Int)).toNat) (-(e : Int) - -(k : Int)).toNat = n * 2 ^ e := by
      rw [Nat.shiftLeft_eq]
      rcases Nat.le_total k e with hke | hke
      · rw [show (-(k : Int) - -(e : Int)).toNat = e - k by omega, show (-(e : Int) - -(k : Int)).toNat = 0 by omega, Nat.mul_assoc, ← Nat.pow_add, show k + (e - k) = e by omega]
        have := fx_cut s (n * 2 ^ e) 0 (by omega)
        rw [Nat.pow_zero, Nat.mul_one] at this
        exact this
      · rw [show (-(k : Int) - -(e : Int)).toNat = 0 by omega, show (-(e : Int) - -(k : Int)).toNat = k - e by omega, Nat.pow_zero, Nat.mul_one]
        have := fx_cut s (n * 2 ^ e) (k - e) (by omega)
        rw [Nat.mul_assoc, ← Nat.pow_add, show e + (k - e) = k by omega] at this
        exact this
    rw [hk, Nat.min_eq_left (by omega)]
  rw [hne]
  obtain ⟨a, b⟩ := fx_word s ((1074 - e) * 4503599627370496 + n * 2 ^ e) (by omega)
  unfold Format.read
  rw [a, b, eB, eL, eI]
  simp only []
  rw [if_neg (by omega), if_pos (by omega)]
  refine ⟨s, n * 2 ^ e, e, ?_, ?_⟩
  · congr 1
    · omega
    · omega
  · have h3 : (if s = true then -(m : Int) else (m : Int)) = z * 2 ^ k := h
    have hzn : z = n ∨ z = -(n : Int) := by omega
    cases s
    · have : z = n := by
        rcases hzn with q | q
        · exact q
        · exfalso
          rw [if_neg (by simp)] at h3
          have : z * 2 ^ k < 0 := Int.mul_neg_of_neg_of_pos (by omega) hp
          omega
      rw [this]; simp
    · have : z = -(n : Int) := by
        rcases hzn with q | q
        · exfalso
          rw [if_pos rfl] at h3
          have : 0 < z * 2 ^ k := Int.mul_pos (by omega) hp
          omega
        · exact q
      rw [this]; simp [Int.neg_mul]
theorem fl_int (z : Int) (hz : z.natAbs < 9007199254740992) : Fl (floatOfInt .f64 z) z := by
  refine Dl.write (d := .number (z < 0) z.natAbs 0) ⟨_, _, 0, rfl, ?_⟩ hz
  by_cases h : z < 0
  · rw [if_pos (by simpa using h)]; simp; omega
  · rw [if_neg (by simpa using h)]; simp; omega
theorem fl_add {a b : Nat} {x y : Int} (h : Fl a x) (g : Fl b y) (hz : (x + y).natAbs < 9007199254740992) : ∃ c, floatBits .add .f64 a b = some c ∧ Fl c (x + y) := by
  obtain ⟨r, e, hr⟩ := Dl.sum h g
  exact ⟨_, by show (Datum.sum _ _).map _ = _; rw [show ((FloatKind.f64.format.read a).sum (FloatKind.f64.format.read b)) = some r from e]; rfl, hr.write hz⟩
theorem fl_sub {a b : Nat} {x y : Int} (h : Fl a x) (g : Fl b y) (hz : (x - y).natAbs < 9007199254740992) : ∃ c, floatBits .sub .f64 a b = some c ∧ Fl c (x - y) := by
  obtain ⟨r, e, hr⟩ := Dl.sum h (Dl.opposite g)
  rw [← Int.sub_eq_add_neg] at hr
  exact ⟨_, by show (Datum.sum _ _).map _ = _; rw [show ((FloatKind.f64.format.read a).sum (FloatKind.f64.format.read b).opposite) = some r from e]; rfl, hr.write hz⟩
theorem fl_mul {a b : Nat} {x y : Int} (h : Fl a x) (g : Fl b y) (hz : (x * y).natAbs < 9007199254740992) : ∃ c, floatBits .mul .f64 a b = some c ∧ Fl c (x * y) := by
  obtain ⟨r, e, hr⟩ := Dl.product h g
  exact ⟨_, by show (Datum.product _ _).map _ = _; rw [show ((FloatKind.f64.format.read a).product (FloatKind.f64.format.read b)) = some r from e]; rfl, hr.write hz⟩
theorem fl_same {a b : Nat} {x : Int} (h : Fl a x) (g : Fl b x) : FloatKind.f64.format.order a b = some .eq := Dl.same h g
theorem fl_zero : Fl 0 0 := ⟨false, 0, 1074, by decide, by rw [Int.zero_mul]; rfl⟩
theorem fl_one : Fl 4607182418800017408 1 := ⟨false, 4503599627370496, 52, by decide, by decide⟩
theorem fl_mone : Fl 13830554455654793216 (-1) := ⟨true, 4503599627370496, 52, by decide, by decide⟩
/-- A whole number times a power of i. -/
theorem cx_mul {a p q : Nat} {c x y : Int} (ha : Fl a c) (hp : Fl p x) (hq : Fl q y) (h1 : (c * x).natAbs < 9007199254740992) (h2 : (c * y).natAbs < 9007199254740992) :
    ∃ re im, cMulBits a 0 p q = some (re, im) ∧ Fl re (c * x) ∧ Fl im (c * y) := by
  obtain ⟨u1, e1, f1⟩ := fl_mul ha hp h1
  obtain ⟨u2, e2, f2⟩ := fl_mul fl_zero hq (by rw [Int.zero_mul]; decide)
  obtain ⟨u3, e3, f3⟩ := fl_sub f1 f2 (by rw [Int.zero_mul, Int.sub_zero]; exact h1)
  obtain ⟨u4, e4, f4⟩ := fl_mul ha hq h2
  obtain ⟨u5, e5, f5⟩ := fl_mul fl_zero hp (by rw [Int.zero_mul]; decide)
  obtain ⟨u6, e6, f6⟩ := fl_add f4 f5 (by rw [Int.zero_mul, Int.add_zero]; exact h2)
  rw [Int.zero_mul, Int.sub_zero] at f3
  rw [Int.zero_mul, Int.add_zero] at f6
  refine ⟨u3, u6, ?_, f3, f6⟩
  unfold cMulBits
  simp only [e1, e2, e3, e4, e5, e6, Option.bind_some]
theorem cx_add {a b p q : Nat} {x y u v : Int} (ha : Fl a x) (hb : Fl b y) (hp : Fl p u) (hq : Fl q v) (h1 : (x + u).natAbs < 9007199254740992) (h2 : (y + v).natAbs < 9007199254740992) :
    ∃ re im, cSumBits .add .f64 a b p q = some (re, im) ∧ Fl re (x + u) ∧ Fl im (y + v) := by
  obtain ⟨u1, e1, f1⟩ := fl_add ha hp h1
  obtain ⟨u2, e2, f2⟩ := fl_add hb hq h2
  refine ⟨u1, u2, ?_, f1, f2⟩
  unfold cSumBits
  simp only [e1, e2, Option.bind_some]
end Go.Proofs.YtihijieciogabaaDoor
