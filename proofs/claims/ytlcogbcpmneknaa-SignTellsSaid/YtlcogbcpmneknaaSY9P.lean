/- Several texts of the proof, one behind the other. -/
import Derived.Test.YtlcogbcpmneknaaSY6P
import Derived.Test.YtlcogbcpmneknaaSY8
import Derived.Test.YtlcogbcpmneknaaSQ4
/- What sign.characteristic reckons are the characteristic coefficients; plain mathematics. -/
namespace Go.Proofs.Ytlcogbcpmneknaa
open Go.RowKit

/-- The same but for what 64 bits let go. -/
def Cg (x y : Int) : Prop := ∃ t : Int, x = y + 18446744073709551616 * t
theorem cg_self (x : Int) : Cg x x := ⟨0, by omega⟩
theorem cg_add {x y a b : Int} (h : Cg x y) (h' : Cg a b) : Cg (x + a) (y + b) := by
  obtain ⟨t, rfl⟩ := h
  obtain ⟨u, rfl⟩ := h'
  exact ⟨t + u, by omega⟩
theorem cg_neg {x y : Int} (h : Cg x y) : Cg (-x) (-y) := by
  obtain ⟨t, rfl⟩ := h
  exact ⟨-t, by omega⟩
theorem cg_mul {x y a b : Int} (h : Cg x y) (h' : Cg a b) : Cg (x * a) (y * b) := by
  obtain ⟨t, rfl⟩ := h
  obtain ⟨u, rfl⟩ := h'
  exact ⟨t * b + y * u + 18446744073709551616 * t * u, by grind⟩
theorem cg_trans {x y z : Int} (h : Cg x y) (h' : Cg y z) : Cg x z := by
  obtain ⟨t, rfl⟩ := h
  obtain ⟨u, rfl⟩ := h'
  exact ⟨t + u, by omega⟩
theorem cg_wrap (x : Int) : Cg (IntKind.i64.wrap x) x := by
  rw [IntKind.wrap_i64]
  exact ⟨-((x + 9223372036854775808) / 18446744073709551616), by omega⟩
theorem wrap_cg {x y : Int} (h : Cg x y) (h1 : -9223372036854775808 ≤ y) (h2 : y ≤ 9223372036854775807) : IntKind.i64.wrap x = y := by
  obtain ⟨t, rfl⟩ := h
  rw [IntKind.wrap_i64]
  omega
theorem sqA_cg (A B B' : Nat → Nat → Int) (i j n : Nat) (h : ∀ a, a < n → Cg (B a j) (B' a j)) : Cg (sqA A B i j n) (si n fun a => A i a * B' a j) := by
  induction n with
  | zero => exact cg_self 0
  | succ n ih => exact cg_trans (cg_wrap _) (cg_add (ih fun a ha => h a (by omega)) (cg_trans (cg_wrap _) (cg_mul (cg_self _) (h n (by omega)))))
theorem sqR_cg (T T' : Nat → Nat → Int) (n : Nat) (h : ∀ a, a < n → Cg (T a a) (T' a a)) : Cg (sqR T n) (si n fun a => T' a a) := by
  induction n with
  | zero => exact cg_self 0
  | succ n ih => exact cg_trans (cg_wrap _) (cg_add (ih fun a ha => h a (by omega)) (h n (by omega)))
/-- What the program reckons. -/
theorem sqC_is {n : Nat} {A : Nat → Nat → Int} {f : Nat → Int} {W : Nat → Nat → Nat → Int} (h0 : f 0 = 1) (w0 : ∀ i j, i < n → j < n → W 0 i j = if i = j then 1 else 0)
    (w1 : ∀ k i j, i < n → j < n → W (k + 1) i j = (si n fun a => A i a * W k a j) + if i = j then f (k + 1) else 0) (w2 : ∀ k, (si n fun i => si n fun a => A i a * W k a i) = -(((k + 1 : Nat) : Int) * f (k + 1)))
    (hb : ∀ k, -9223372036854775807 ≤ ((k + 1 : Nat) : Int) * f (k + 1) ∧ ((k + 1 : Nat) : Int) * f (k + 1) ≤ 9223372036854775807) : ∀ k, sqC A n k = f k ∧ ∀ i j, i < n → j < n → Cg (sqE (sqS A n k).1 (sqS A n k).2 n i j) (W k i j)
  | 0 => by
    refine ⟨h0.symm, fun i j hi hj => ?_⟩
    rw [w0 i j hi hj]
    show Cg (if i = j ∧ i < n then IntKind.i64.wrap (0 + 1) else 0) _
    by_cases q : i = j
    · rw [if_pos ⟨q, hi⟩, if_pos q]; exact cg_wrap _
    · rw [if_neg (fun r => q r.1), if_neg q]; exact cg_self 0
  | k + 1 => by
    obtain ⟨i1, i2⟩ := sqC_is h0 w0 w1 w2 hb k
    have e1 : ∀ i j, i < n → j < n → Cg ((sqS A n (k + 1)).1 i j) (si n fun a => A i a * W k a j) := fun i j hi hj => sqA_cg A _ (W k) i j n fun a ha => i2 a j ha hj
    have e2 : Cg (sqR (sqS A n (k + 1)).1 n) (-(((k + 1 : Nat) : Int) * f (k + 1))) := by rw [← w2]; exact sqR_cg _ (fun i j => si n fun a => A i a * W k a j) n fun a ha => e1 a a ha ha
    have hk : ((k + 1 : Nat) : Int) = (k : Int) + 1 := by omega
    have e3 : sqC A n (k + 1) = f (k + 1) := by
      show IntKind.i64.wrap ((IntKind.i64.wrap (-(sqR (sqS A n (k + 1)).1 n))).tdiv ((k : Int) + 1)) = _
      have b := hb k
      rw [wrap_cg (y := ((k + 1 : Nat) : Int) * f (k + 1)) (cg_trans (cg_neg e2) (by rw [Int.neg_neg]; exact cg_self _)) (by omega) b.2, ← hk, Int.mul_comm, Int.mul_tdiv_cancel _ (by omega)]
      refine wrap_cg (cg_self _) ?_ ?_
      · rcases Int.le_total 0 (f (k + 1)) with q | q
        · omega
        · have := Int.mul_le_mul_of_nonpos_right (show (1 : Int) ≤ ((k + 1 : Nat) : Int) by omega) q
          omega
      · rcases Int.le_total 0 (f (k + 1)) with q | q
        · have := Int.mul_le_mul_of_nonneg_right (show (1 : Int) ≤ ((k + 1 : Nat) : Int) by omega) q
          omega
        · omega
    refine ⟨e3, fun i j hi hj => ?_⟩
    have e4 : (sqS A n (k + 1)).2 = f (k + 1) := e3
    rw [w1 k i j hi hj, e4]
    show Cg (if i = j ∧ i < n then IntKind.i64.wrap ((sqS A n (k + 1)).1 i j + f (k + 1)) else (sqS A n (k + 1)).1 i j) _
    by_cases q : i = j
    · rw [if_pos ⟨q, hi⟩, if_pos q]
      exact cg_trans (cg_wrap _) (cg_add (e1 i j hi hj) (cg_self _))
    · rw [if_neg (fun r => q r.1), if_neg q, Int.add_zero]
      exact e1 i j hi hj
end Go.Proofs.Ytlcogbcpmneknaa
/- The signature that is reckoned is the number of signs of any form by squares; plain mathematics. -/
namespace Go.Proofs.Ytlcogbcpmneknaa

theorem si_cast (n : Nat) (f : Nat → Int) : ((si n f : Int) : Rat) = sm n fun i => ((f i : Int) : Rat) := by
  induction n with
  | zero => rfl
  | succ n ih => show ((si n f + f n : Int) : Rat) = _ + _; rw [Rat.intCast_add, ih]
/-- A table of whole numbers as fractions. -/
def qM (A : Nat → Nat → Int) (i j : Nat) : Rat := ((A i j : Int) : Rat)
theorem W_pow {n : Nat} {A : Nat → Nat → Int} {f : Nat → Int} {W : Nat → Nat → Nat → Int} (h0 : f 0 = 1) (w0 : ∀ i j, i < n → j < n → W 0 i j = if i = j then 1 else 0)
    (w1 : ∀ k i j, i < n → j < n → W (k + 1) i j = (si n fun a => A i a * W k a j) + if i = j then f (k + 1) else 0) : ∀ k i j, i < n → j < n → ((W k i j : Int) : Rat) = sm (k + 1) fun l => ((f l : Int) : Rat) * pw n (qM A) (k - l) i j
  | 0, i, j, hi, hj => by
    rw [w0 i j hi hj]
    show _ = (0 : Rat) + ((f 0 : Int) : Rat) * (if i = j then 1 else 0)
    rw [h0]
    split <;> grind
  | k + 1, i, j, hi, hj => by
    rw [w1 k i j hi hj, Rat.intCast_add, si_cast]
    have e1 : (sm n fun a => ((A i a * W k a j : Int) : Rat)) = sm (k + 1) fun l => ((f l : Int) : Rat) * pw n (qM A) (k + 1 - l) i j := by
      have e2 : (sm n fun a => ((A i a * W k a j : Int) : Rat)) = sm n fun a => sm (k + 1) fun l => ((f l : Int) : Rat) * (qM A i a * pw n (qM A) (k - l) a j) := sm_congr fun a ha => by
        rw [Rat.intCast_mul, W_pow h0 w0 w1 k a j ha hj, ← sm_mul]
        refine sm_congr fun l _ => ?_
        show qM A i a * _ = _
        grind
      rw [e2, sm_swap]
      refine sm_congr fun l hl => ?_
      rw [sm_mul, show k + 1 - l = (k - l) + 1 by omega]
      rfl
    rw [e1]
    show _ = (sm (k + 1) fun l => ((f l : Int) : Rat) * pw n (qM A) (k + 1 - l) i j) + ((f (k + 1) : Int) : Rat) * pw n (qM A) (k + 1 - (k + 1)) i j
    rw [Nat.sub_self]
    show _ = _ + ((f (k + 1) : Int) : Rat) * (if i = j then 1 else 0)
    split <;> grind
theorem nwt_char {n : Nat} {A : Nat → Nat → Int} {f : Nat → Int} {W : Nat → Nat → Nat → Int} (h0 : f 0 = 1) (w0 : ∀ i j, i < n → j < n → W 0 i j = if i = j then 1 else 0)
    (w1 : ∀ k i j, i < n → j < n → W (k + 1) i j = (si n fun a => A i a * W k a j) + if i = j then f (k + 1) else 0) (w2 : ∀ k, (si n fun i => si n fun a => A i a * W k a i) = -(((k + 1 : Nat) : Int) * f (k + 1))) : Nwt (fun k => ((f k : Int) : Rat)) fun m => tr n (pw n (qM A) m) := fun k => by
  cases k with
  | zero => show (0 : Rat) + ((0 : Nat) : Rat) * _ = 0; grind
  | succ k =>
    have e1 : ((si n fun i => si n fun a => A i a * W k a i : Int) : Rat) = sm (k + 1) fun l => ((f l : Int) : Rat) * tr n (pw n (qM A) (k + 1 - l)) := by
      rw [si_cast]
      have e2 : (sm n fun i => ((si n fun a => A i a * W k a i : Int) : Rat)) = sm n fun i => sm (k + 1) fun l => ((f l : Int) : Rat) * pw n (qM A) (k + 1 - l) i i := sm_congr fun i hi => by
        rw [si_cast]
        have e3 : (sm n fun a => ((A i a * W k a i : Int) : Rat)) = sm n fun a => sm (k + 1) fun l => ((f l : Int) : Rat) * (qM A i a * pw n (qM A) (k - l) a i) := sm_congr fun a ha => by
          rw [Rat.intCast_mul, W_pow h0 w0 w1 k a i ha hi, ← sm_mul]
          refine sm_congr fun l _ => ?_
          show qM A i a * _ = _
          grind
        rw [e3, sm_swap]
        refine sm_congr fun l hl => ?_
        rw [sm_mul, show k + 1 - l = (k - l) + 1 by omega]
        rfl
      rw [e2, sm_swap]
      exact sm_congr fun l _ => sm_mul n _ _
    have e4 := w2 k
    have e5 : ((si n fun i => si n fun a => A i a * W k a i : Int) : Rat) = -(((k + 1 : Nat) : Rat) * ((f (k + 1) : Int) : Rat)) := by rw [e4, Rat.intCast_neg, Rat.intCast_mul, Rat.intCast_natCast]
    rw [e1] at e5
    rw [e5]
    grind
theorem sgR_int (x : Int) : sgR ((x : Int) : Rat) = if 0 < x then 1 else if x < 0 then -1 else 0 := by
  unfold sgR
  have z : ((0 : Int) : Rat) = 0 := rfl
  rw [← z]
  simp only [Rat.intCast_lt_intCast]
theorem sgQ_scn (f g : Nat → Int) : ∀ m, (∀ k, k < m → f k = g k) → (sgQ f m).1 = (scn (fun k => sgR ((g k : Int) : Rat)) m).1 ∧ (sgQ f m).2.1 = (scn (fun k => sgR ((g k : Int) : Rat)) m).2.1 ∧ (scn (fun k => sgR ((g k : Int) : Rat)) m).2.2 = (if (sgQ f m).2.2 < 0 then -1 else 1)
  | 0, _ => ⟨rfl, rfl, rfl⟩
  | m + 1, h => by
    obtain ⟨i1, i2, i3⟩ := sgQ_scn f g m fun k hk => h k (by omega)
    have e := h m (by omega)
    have s := sgR_int (g m)
    rw [← e] at s
    have e1 : sgQ f (m + 1) = if f m = 0 then sgQ f m else ((sgQ f m).1 + (if (decide (f m < 0) != decide ((sgQ f m).2.2 < 0)) = true then 1 else 0), m, f m) := rfl
    have e2 : scn (fun k => sgR ((g k : Int) : Rat)) (m + 1) = if sgR ((g m : Int) : Rat) = 0 then scn (fun k => sgR ((g k : Int) : Rat)) m else ((scn (fun k => sgR ((g k : Int) : Rat)) m).1 + (if sgR ((g m : Int) : Rat) = (scn (fun k => sgR ((g k : Int) : Rat)) m).2.2 then 0 else 1), m, sgR ((g m : Int) : Rat)) := rfl
    rw [e1, e2, ← e, s]
    rcases Int.lt_trichotomy (f m) 0 with q | q | q
    · have n0 : ¬ f m = 0 := by omega
      rw [if_neg (show ¬ 0 < f m by omega), if_pos q, if_neg n0, if_neg (show ¬ (-1 : Int) = 0 by decide)]
      simp only
      rw [i3, i1, if_pos q]
      by_cases r : (sgQ f m).2.2 < 0 <;> simp [q, r]
    · rw [if_pos q, if_neg (show ¬ 0 < f m by omega), if_neg (show ¬ f m < 0 by omega), if_pos rfl]
      exact ⟨i1, i2, i3⟩
    · have n0 : ¬ f m = 0 := by omega
      have n1 : ¬ f m < 0 := by omega
      rw [if_pos q, if_neg n0, if_neg (show ¬ (1 : Int) = 0 by decide)]
      simp only
      rw [i3, i1, if_neg n1]
      by_cases r : (sgQ f m).2.2 < 0 <;> simp [n1, r]
/-- THE SIGNATURE. -/
theorem sig_is {n : Nat} {A : Nat → Nat → Int} (hS : ∀ i j, i < n → j < n → A i j = A j i) (hB : n * bdC n A ≤ 9223372036854775807) {π : Nat → Rat} {Y X : Nat → Nat → Rat} (hC : Cong n (qM A) π Y X) :
    sgV (sqC A n) (n + 1) = ((List.range n).countP (fun a => decide (0 < π a)) : Nat) - ((List.range n).countP (fun a => decide (π a < 0)) : Nat) ∧ (sqC A n n) = dZ ((List.range n).map fun i c => -A i c) (List.range n) ∧ (sgQ (sqC A n) (n + 1)).2.1 = (List.range n).countP (fun a => decide (0 < π a)) + (List.range n).countP (fun a => decide (π a < 0)) := by
  obtain ⟨f, W, h0, hz, w0, w1, w2, fb, fn⟩ := char_ex n A
  have hb : ∀ k, -9223372036854775807 ≤ ((k + 1 : Nat) : Int) * f (k + 1) ∧ ((k + 1 : Nat) : Int) * f (k + 1) ≤ 9223372036854775807 := fun k => by
    rcases Nat.lt_or_ge n (k + 1) with q | q
    · rw [hz _ q]; omega
    · have b1 : (k + 1) * (f (k + 1)).natAbs ≤ n * bdC n A := Nat.mul_le_mul q (fb _)
      have b2 : (((k + 1 : Nat) : Int) * f (k + 1)).natAbs = (k + 1) * (f (k + 1)).natAbs := by rw [Int.natAbs_mul, Int.natAbs_natCast]
      omega
  have hc : ∀ k, sqC A n k = f k := fun k => (sqC_is h0 w0 w1 w2 hb k).1
  have T := signs_told (n := n) (M := qM A) (fun i j hi hj => by unfold qM; rw [hS i j hi hj]) hC (f := fun k => ((f k : Int) : Rat)) (by show ((f 0 : Int) : Rat) = 1; rw [h0]; rfl) (nwt_char h0 w0 w1 w2)
  obtain ⟨q1, q2, -⟩ := sgQ_scn (sqC A n) f (n + 1) fun k _ => hc k
  refine ⟨?_, by rw [hc, fn], by rw [q2, T.2]⟩
  unfold sgV
  rw [q1, q2, T.1, T.2]
  omega
end Go.Proofs.Ytlcogbcpmneknaa
