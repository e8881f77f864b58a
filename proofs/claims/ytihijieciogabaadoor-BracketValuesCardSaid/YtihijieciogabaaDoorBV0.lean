/- Values of Jones's polynomial where A to the power of minus 4 is a power of i: mathematics, and how great its coefficients are together. -/
import Derived.Test.YtihijieciogabaaDoorBKc
import Derived.Test.YtihijieciogabaaDoorFX0
namespace Go.Proofs.YtihijieciogabaaDoor.Poly
open Go.RowKit

/-- The sizes of all coefficients together. -/
def Lq (f : Int → Int) (B : Nat) : Prop := ∀ s : List Int, s.Pairwise (· ≠ ·) → (s.map fun y => (f y).natAbs).sum ≤ B
theorem Lq.mono {f : Int → Int} {A B : Nat} (h : Lq f A) (hab : A ≤ B) : Lq f B := fun s hs => Nat.le_trans (h s hs) hab
theorem one_sum0 : ∀ s : List Int, (∀ y ∈ s, y ≠ 0) → (s.map fun y => (oneA y).natAbs).sum = 0
  | [], _ => rfl
  | y :: s, h => by
    rw [List.map_cons, List.sum_cons, one_sum0 s fun z hz => h z (List.mem_cons_of_mem _ hz)]
    unfold oneA
    rw [if_neg (h y (.head _))]; rfl
theorem Lq.one : Lq oneA 1 := by
  intro s
  induction s with
  | nil => intro _; exact Nat.zero_le _
  | cons y s ih =>
    intro h
    rw [List.pairwise_cons] at h
    rw [List.map_cons, List.sum_cons]
    by_cases hy : y = 0
    · rw [one_sum0 s fun z hz => fun e => h.1 z hz (by rw [hy, e])]
      exact one_bd y
    · have := ih h.2
      have e : (oneA y).natAbs = 0 := by unfold oneA; rw [if_neg hy]; rfl
      omega
theorem Lq.sh {f : Int → Int} {B : Nat} (h : Lq f B) (e : Int) : Lq (fun y => f (y + e)) B := by
  intro s hs
  have := h (s.map fun y => y + e) (by rw [List.pairwise_map]; exact hs.imp fun q => by omega)
  rw [List.map_map] at this
  exact this
theorem Lq.two {f g : Int → Int} {A B : Nat} (h : Lq f A) (g2 : Lq g B) {k : Int → Int} (hk : ∀ y, (k y).natAbs ≤ (f y).natAbs + (g y).natAbs) : Lq k (A + B) := by
  intro s hs
  have a := h s hs
  have b := g2 s hs
  have c : (s.map fun y => (k y).natAbs).sum ≤ (s.map fun y => (f y).natAbs).sum + (s.map fun y => (g y).natAbs).sum := by
    clear a b hs
    induction s with
    | nil => exact Nat.le_refl _
    | cons y s ih =>
      simp only [List.map_cons, List.sum_cons]
      have := hk y
      omega
  omega
theorem Lq.zero : Lq (fun _ => 0) 0 := by
  intro s hs
  clear hs
  induction s with
  | nil => exact Nat.le_refl _
  | cons y s ih => rw [List.map_cons, List.sum_cons]; simpa using ih
theorem Lq.dlA {f : Int → Int} {B : Nat} (h : Lq f B) : Lq (dlA f) (2 * B) := by
  rw [Nat.two_mul]
  refine Lq.two (h.sh 2) (h.sh (-2)) fun y => ?_
  show (- f (y + 2) - f (y - 2)).natAbs ≤ (f (y + 2)).natAbs + (f (y + -2)).natAbs
  rw [show y + -2 = y - 2 by omega]; omega
theorem Lq.dlN {f : Int → Int} {B : Nat} (h : Lq f B) (n : Nat) : Lq (dlN n f) (2 ^ n * B) := by
  induction n with
  | zero => rw [Nat.pow_zero, Nat.one_mul]; exact h
  | succ n ih =>
    rw [Nat.pow_succ, Nat.mul_comm (2 ^ n) 2, Nat.mul_assoc]
    exact ih.dlA
theorem Lq.sumS {n B : Nat} {F : Nat → Int → Int} (h : ∀ s, s < n → Lq (F s) B) : Lq (fun y => sumS n fun s => F s y) (n * B) := by
  induction n with
  | zero => rw [Nat.zero_mul]; exact Lq.zero
  | succ n ih =>
    rw [Nat.succ_mul]
    exact Lq.two (ih fun s hs => h s (by omega)) (h n (by omega)) fun y => Int.natAbs_add_le _ _
theorem w_lq (C : List Cr) (c0 s k : Nat) : Lq (wS C c0 s k) (2 ^ (c0 + 2 * k)) := by
  have h := (Lq.one.dlN (c0 + closP (prS (arQ C) s) (2 * k))).sh (-(exS s k))
  rw [Nat.mul_one] at h
  have hp : 2 ^ (c0 + closP (prS (arQ C) s) (2 * k)) ≤ 2 ^ (c0 + 2 * k) := Nat.pow_le_pow_right (by omega) (by have := clos_le C s k; omega)
  exact (Lq.mono h hp : Lq (fun y => dlN (c0 + closP (prS (arQ C) s) (2 * k)) oneA (y + -(exS s k))) _)
theorem br_lq {C : List Cr} {lo : Nat} (hm : mayD C (lo : Nat) = true) (h12 : C.length ≤ 12) : Lq (brS C lo) 4503599627370496 := by
  obtain ⟨s1, s2, s3, s4⟩ := sizeB_iff (may_size hm)
  rw [← br_same hm rfl h12]
  have h : Lq (allS C (if C.length = 0 then lo - 1 else lo) C.length) (2 ^ C.length * 2 ^ ((if C.length = 0 then lo - 1 else lo) + 2 * C.length)) := Lq.sumS fun s _ => w_lq C _ s C.length
  refine h.mono ?_
  rw [← Nat.pow_add]
  have hp : 2 ^ (C.length + ((if C.length = 0 then lo - 1 else lo) + 2 * C.length)) ≤ 2 ^ 52 := Nat.pow_le_pow_right (by omega) (by split <;> omega)
  exact Nat.le_trans hp (by decide)
theorem jn_lq {C : List Cr} {lo : Nat} (hm : mayD C (lo : Nat) = true) (h12 : C.length ≤ 12) : Lq (jnF C lo) 4503599627370496 := by
  have h := Lq.two ((br_lq hm h12).sh (3 * wrM C C.length)) Lq.zero (k := jnF C lo) fun y => by
    show (sgJ (wrM C C.length) * brS C lo (y + 3 * wrM C C.length)).natAbs ≤ _ + _
    rcases sg_two (wrM C C.length) with q | q <;> rw [q] <;> omega
  exact h
theorem canon_sum {l : List (Int × Int)} {f : Int → Int} {B : Nat} (h : Canon l f) (hf : Lq f B) (j : Nat) : ((l.take j).map fun t => t.2.natAbs).sum ≤ B := by
  have hp : ((l.take j).map fun t => t.1).Pairwise (· ≠ ·) := by
    rw [List.pairwise_map]
    exact (h.1.sublist (List.take_sublist j l)).imp fun q => by omega
  have := hf _ hp
  rw [List.map_map] at this
  refine Nat.le_trans (Nat.le_of_eq ?_) this
  congr 1
  refine List.map_congr_left fun t ht => ?_
  have := (h.2 t.1 t.2).1 (List.mem_of_mem_take ht)
  show _ = (f t.1).natAbs
  rw [this.1]

/-- Which power of i a term is worth. -/
def ixV (k e : Int) : Int := (k * (-(e / 4))) % 4
def rp (n : Int) : Int := if n = 0 then 1 else if n = 2 then -1 else 0
def ip (n : Int) : Int := if n = 1 then 1 else if n = 3 then -1 else 0
def reTo (k : Int) (l : List (Int × Int)) : Nat → Int
  | 0 => 0
  | j + 1 => reTo k l j + (l.getD j (0, 0)).2 * rp (ixV k (l.getD j (0, 0)).1)
def imTo (k : Int) (l : List (Int × Int)) : Nat → Int
  | 0 => 0
  | j + 1 => imTo k l j + (l.getD j (0, 0)).2 * ip (ixV k (l.getD j (0, 0)).1)
theorem rp_le (c n : Int) : (c * rp n).natAbs ≤ c.natAbs := by unfold rp; split <;> (try split) <;> simp
theorem ip_le (c n : Int) : (c * ip n).natAbs ≤ c.natAbs := by unfold ip; split <;> (try split) <;> simp
theorem take_sum (l : List (Int × Int)) (j : Nat) (hj : j < l.length) : ((l.take (j + 1)).map fun t => t.2.natAbs).sum = ((l.take j).map fun t => t.2.natAbs).sum + (l.getD j (0, 0)).2.natAbs := by
  rw [List.take_add_one, List.getElem?_eq_getElem hj, List.map_append, List.sum_append]
  simp [List.getD_eq_getElem?_getD, List.getElem?_eq_getElem hj]
theorem reTo_le (k : Int) (l : List (Int × Int)) : ∀ j, j ≤ l.length → (reTo k l j).natAbs ≤ ((l.take j).map fun t => t.2.natAbs).sum
  | 0, _ => Nat.zero_le _
  | j + 1, h => by
    have a := reTo_le k l j (by omega)
    have b := rp_le (l.getD j (0, 0)).2 (ixV k (l.getD j (0, 0)).1)
    rw [take_sum l j (by omega)]
    unfold reTo
    omega
theorem imTo_le (k : Int) (l : List (Int × Int)) : ∀ j, j ≤ l.length → (imTo k l j).natAbs ≤ ((l.take j).map fun t => t.2.natAbs).sum
  | 0, _ => Nat.zero_le _
  | j + 1, h => by
    have a := imTo_le k l j (by omega)
    have b := ip_le (l.getD j (0, 0)).2 (ixV k (l.getD j (0, 0)).1)
    rw [take_sum l j (by omega)]
    unfold imTo
    omega
/-- All exponents are multiples of 4. -/
def okV (l : List (Int × Int)) : Bool := l.all fun t => t.1 % 4 == 0
/-- What is asked of a polynomial to be told there. -/
structure SmV (l : List (Int × Int)) : Prop where
  len : l.length ≤ 1000
  exps : ∀ j, j < l.length → -1000 ≤ (l.getD j (0, 0)).1 ∧ (l.getD j (0, 0)).1 ≤ 1000
  sums : ∀ j, j ≤ l.length → ((l.take j).map fun t => t.2.natAbs).sum ≤ 4503599627370496
theorem SmV.coef {l : List (Int × Int)} (h : SmV l) (j : Nat) (hj : j < l.length) : (l.getD j (0, 0)).2.natAbs ≤ 4503599627370496 := by
  have := h.sums (j + 1) (by omega)
  rw [take_sum l j hj] at this
  omega
theorem SmV.re {l : List (Int × Int)} (h : SmV l) (k : Int) (j : Nat) (hj : j ≤ l.length) : (reTo k l j).natAbs ≤ 4503599627370496 := Nat.le_trans (reTo_le k l j hj) (h.sums j hj)
theorem SmV.im {l : List (Int × Int)} (h : SmV l) (k : Int) (j : Nat) (hj : j ≤ l.length) : (imTo k l j).natAbs ≤ 4503599627370496 := Nat.le_trans (imTo_le k l j hj) (h.sums j hj)
theorem jn_sm {C : List Cr} {lo : Nat} {l : List (Int × Int)} (hm : mayD C (lo : Nat) = true) (h12 : C.length ≤ 12) (h : Canon l (jnF C lo)) : SmV l := by
  have hwb := wrM_bound C C.length
  have hin : InA (jnF C lo) 200 := by
    intro y hy
    have := br_in hm h12 (y + 3 * wrM C C.length) (fun e => hy (by show sgJ _ * _ = 0; rw [e, Int.mul_zero]))
    omega
  refine ⟨?_, fun j hj => ?_, fun j _ => canon_sum h (jn_lq hm h12) j⟩
  · have := canon_len1 h 200 hin; omega
  · have hm2 : l.getD j (0, 0) ∈ l := by rw [List.getD_eq_getElem?_getD, List.getElem?_eq_getElem hj]; exact List.getElem_mem hj
    have := canon_terms h hin (H := 4503599627370496) (fun y => by
      have := jn_lq hm h12 [y] (by simp)
      simpa using this) _ hm2
    omega
theorem ix_rng (k e : Int) : ixV k e = 0 ∨ ixV k e = 1 ∨ ixV k e = 2 ∨ ixV k e = 3 := by unfold ixV; omega
theorem bits_three (n : Int) : bits .and .i64 n 3 = n % 4 := by
  show IntKind.i64.wrap (((BitVec.ofInt 64 n &&& BitVec.ofInt 64 3).toNat : Nat) : Int) = _
  rw [BitVec.toNat_and, BitVec.toNat_ofInt, show (BitVec.ofInt 64 3).toNat = 2 ^ 2 - 1 from rfl, Nat.and_two_pow_sub_one_eq_mod]
  have e : (((n % ((2 ^ 64 : Nat) : Int)).toNat % 2 ^ 2 : Nat) : Int) = n % 4 := by omega
  rw [e]
  exact IntWalk.i64_in _ (by omega)
end Go.Proofs.YtihijieciogabaaDoor.Poly
