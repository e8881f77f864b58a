/- Fractions that are the same: the walks of tangle.Same, ref.SameFractions and the law TangleSame. -/
import Derived.Test.YtbikalghmlihlaaTG3
namespace Go.Proofs.Ytbikalghmlihlaa
open Go.RowKit

/-- Are they the same? -/
def sameF (p q r s : Int) : Bool := decide (p = r ∧ (q = s ∨ (q * s - 1) % p = 0))
theorem sameF_ne {p q r s : Int} (h : p ≠ r) : sameF p q r s = false := decide_eq_false fun hc => h hc.1
theorem sameF_eq {p q : Int} : sameF p q p q = true := decide_eq_true ⟨rfl, Or.inl rfl⟩
theorem sameF_mod {p q s : Int} (h : q ≠ s) : sameF p q p s = ((q * s - 1) % p == 0) := by
  unfold sameF
  by_cases hz : (q * s - 1) % p = 0
  · rw [decide_eq_true ⟨rfl, Or.inr hz⟩, beq_iff_eq.2 hz]
  · rw [decide_eq_false (fun hc => hc.2.elim h hz), beq_eq_false_iff_ne.2 hz]
theorem mod_two (m p : Int) (hm : 1 ≤ m) : (m.tmod p == (1 : Int).tmod p) = ((m - 1) % p == 0) := by
  rw [Int.tmod_eq_emod_of_nonneg (by omega), Int.tmod_eq_emod_of_nonneg (by omega), Bool.eq_iff_iff, beq_iff_eq, beq_iff_eq]
  exact Int.emod_eq_emod_iff_emod_sub_eq_zero

set_option maxHeartbeats 4000000 in
set_option maxRecDepth 100000 in
theorem same_bad (p q r s : Int) (w : World) (h : lowB p q = false ∨ lowB r s = false) :
    Calls Try.prog 60 #[.int .i64 p, .int .i64 q, .int .i64 r, .int .i64 s] w fun e w' => e = .returned (.tuple #[.bool false, .int .i64 3]) ∧ Below w.heap.size w w' := by
  have HP : Hid (∀ W, Calls Try.prog 121 #[.int .i64 p, .int .i64 q] W fun e w' => e = .returned (.bool (lowB p q)) ∧ Below W.heap.size W w') := fun W => proper_any p q W
  have HQ : Hid (∀ W, Calls Try.prog 121 #[.int .i64 r, .int .i64 s] W fun e w' => e = .returned (.bool (lowB r s)) ∧ Below W.heap.size W w') := fun W => proper_any r s W
  by_cases h1 : lowB p q = false
  · rw [h1] at HP
    clear h h1
    go_enter Try.func60, Try.ntmps60
    go_wp2_with (go_at_call 121; refine (HP.out _).mono ?_; rintro e9 w2 ⟨rfl, hb2⟩; refine Hid.out ?_)
    refine Lib.hid ?_
    have HB2 : Hid (Below w.heap.size w w2) := hb2
    clear hb2
    go_wp2
    go_ret2
    exact ⟨rfl, HB2.out⟩
  · rw [(Bool.not_eq_false _).mp h1] at HP
    rw [h.resolve_left h1] at HQ
    clear h h1
    go_enter Try.func60, Try.ntmps60
    go_wp2_with (go_at_call 121; refine (HP.out _).mono ?_; rintro e9 w2 ⟨rfl, hb2⟩; refine Hid.out ?_)
    refine Lib.hid ?_
    have HB2 : Hid (Below w.heap.size w w2) := hb2
    clear hb2
    go_wp2_with (go_at_call 121; refine (HQ.out _).mono ?_; rintro e9 w3 ⟨rfl, hb3⟩; refine Hid.out ?_)
    refine Lib.hid ?_
    have HB3 : Hid (Below w.heap.size w w3) := HB2.out.trans (hb3.mono HB2.out.size)
    clear hb3
    go_wp2
    go_ret2
    exact ⟨rfl, HB3.out⟩

theorem ret_sameT {a b : Bool} {y : Value} (h : a = b) : Ending.returned (.tuple #[.bool a, y]) = .returned (.tuple #[.bool b, y]) := by rw [h]
theorem prod_in {q s : Int} (h1 : 1 ≤ q) (h2 : q ≤ 1000) (h3 : 1 ≤ s) (h4 : s ≤ 1000) : 1 ≤ q * s ∧ q * s ≤ 1000000 := by
  obtain ⟨m, rfl⟩ : ∃ m : Nat, q = (m : Int) := ⟨q.toNat, by omega⟩
  obtain ⟨n, rfl⟩ : ∃ n : Nat, s = (n : Int) := ⟨s.toNat, by omega⟩
  have a1 : 1 * 1 ≤ m * n := Nat.mul_le_mul (by omega) (by omega)
  have a2 : m * n ≤ 1000 * 1000 := Nat.mul_le_mul (by omega) (by omega)
  have e : ((m : Int) * (n : Int)) = ((m * n : Nat) : Int) := by push_cast; rfl
  rw [e]
  omega

set_option maxHeartbeats 4000000 in
set_option maxRecDepth 100000 in
theorem same_good (p q r s : Int) (w : World) (h1 : lowB p q = true) (h2 : lowB r s = true) :
    Calls Try.prog 60 #[.int .i64 p, .int .i64 q, .int .i64 r, .int .i64 s] w fun e w' => e = .returned (.tuple #[.bool (sameF p q r s), .int .i64 0]) ∧ Below w.heap.size w w' := by
  have HP : Hid (∀ W, Calls Try.prog 121 #[.int .i64 p, .int .i64 q] W fun e w' => e = .returned (.bool true) ∧ Below W.heap.size W w') := fun W => by rw [← h1]; exact proper_any p q W
  have HQ : Hid (∀ W, Calls Try.prog 121 #[.int .i64 r, .int .i64 s] W fun e w' => e = .returned (.bool true) ∧ Below W.heap.size W w') := fun W => by rw [← h2]; exact proper_any r s W
  obtain ⟨a1, a2, a3, a4, -⟩ := lowB_yes h1
  obtain ⟨c1, c2, c3, c4, -⟩ := lowB_yes h2
  clear h1 h2
  obtain ⟨B, hB⟩ : ∃ B, sameF p q r s = B := ⟨_, rfl⟩
  have HS : Hid (sameF p q r s = B) := hB
  rw [hB]
  clear hB
  go_enter Try.func60, Try.ntmps60
  go_wp2_with (go_at_call 121; refine (HP.out _).mono ?_; rintro e9 w2 ⟨rfl, hb2⟩; refine Hid.out ?_)
  refine Lib.hid ?_
  have HB2 : Hid (Below w.heap.size w w2) := hb2
  clear hb2
  go_wp2_with (go_at_call 121; refine (HQ.out _).mono ?_; rintro e9 w3 ⟨rfl, hb3⟩; refine Hid.out ?_)
  refine Lib.hid ?_
  have HB3 : Hid (Below w.heap.size w w3) := HB2.out.trans (hb3.mono HB2.out.size)
  clear hb3
  by_cases hpr : p = r
  · subst hpr
    by_cases hqs : q = s
    · subst hqs
      obtain rfl : B = true := by rw [← HS.out]; exact sameF_eq
      go_wp2
      go_ret2
      exact ⟨rfl, HB3.out⟩
    · have hqz : (q == s) = false := beq_eq_false_iff_ne.2 hqs
      have HSM : Hid (B = ((q * s - 1) % p == 0)) := (by rw [← HS.out]; exact sameF_mod hqs : B = ((q * s - 1) % p == 0))
      obtain ⟨m1, m2⟩ := prod_in a3 (by omega) c3 (by omega)
      obtain ⟨m, hm⟩ : ∃ m, q * s = m := ⟨_, rfl⟩
      rw [hm] at HSM m1 m2
      have ew1 : IntKind.i64.wrap (q * s) = m := by rw [hm]; exact IntWalk.i64_in _ (by omega)
      have ew2 : IntKind.i64.wrap (m - 1) = m - 1 := IntWalk.i64_in _ (by omega)
      have hf0 : (p == 0) = false := by simp; omega
      have hfn : p ≠ 0 := by omega
      have et : (m - 1).tmod p = (m - 1) % p := Int.tmod_eq_emod_of_nonneg (by omega)
      have e1 := Int.emod_nonneg (m - 1) hfn
      have e2 := Int.emod_lt_of_pos (m - 1) (show 0 < p by omega)
      obtain ⟨t, ht⟩ : ∃ t, (m - 1) % p = t := ⟨_, rfl⟩
      rw [ht] at et e1 e2 HSM
      clear ht hqs HS
      by_cases ht0 : t = 0
      · subst ht0
        obtain rfl : B = true := HSM.out
        go_wp2
        go_ret2
        exact ⟨rfl, HB3.out⟩
      · have htz : (t == 0) = false := beq_eq_false_iff_ne.2 ht0
        obtain rfl : B = false := HSM.out.trans htz
        go_wp2
        go_ret2
        exact ⟨rfl, HB3.out⟩
  · have hpz : (p == r) = false := beq_eq_false_iff_ne.2 hpr
    obtain rfl : B = false := by rw [← HS.out]; exact sameF_ne hpr
    go_wp2
    go_ret2
    exact ⟨rfl, HB3.out⟩

set_option maxHeartbeats 4000000 in
set_option maxRecDepth 100000 in
theorem sameFractions_any (p q r s : Int) (w : World) (h1 : lowB p q = true) (h2 : lowB r s = true) :
    Calls Try.prog 61 #[.int .i64 p, .int .i64 q, .int .i64 r, .int .i64 s] w fun e w' => e = .returned (.bool (sameF p q r s)) ∧ Below w.heap.size w w' := by
  obtain ⟨a1, a2, a3, a4, -⟩ := lowB_yes h1
  obtain ⟨c1, c2, c3, c4, -⟩ := lowB_yes h2
  clear h1 h2
  obtain ⟨B, hB⟩ : ∃ B, sameF p q r s = B := ⟨_, rfl⟩
  have HS : Hid (sameF p q r s = B) := hB
  have HBD : Hid (∀ n, Below w.heap.size w (w.drewN n)) := below_drewN (Below.refl _ _)
  rw [hB]
  clear hB
  by_cases hpr : p = r
  · subst hpr
    by_cases hqs : q = s
    · subst hqs
      obtain rfl : B = true := by rw [← HS.out]; exact sameF_eq
      have d1 : (p == p) = true := beq_self_eq_true p
      have d2 : (q == q) = true := beq_self_eq_true q
      go_enter Try.func61, Try.ntmps61
      go_wp2
      go_quiet (fail)
      go_wp2
      go_ret
      exact ⟨rfl, HBD.out _⟩
    · have hqz : (q == s) = false := beq_eq_false_iff_ne.2 hqs
      obtain ⟨m1, m2⟩ := prod_in a3 (by omega) c3 (by omega)
      have HSM : Hid (B = ((q * s).tmod p == (1 : Int).tmod p)) := (by rw [← HS.out, sameF_mod hqs, mod_two _ _ m1] : B = ((q * s).tmod p == (1 : Int).tmod p))
      obtain ⟨m, hm⟩ : ∃ m, q * s = m := ⟨_, rfl⟩
      rw [hm] at HSM m1 m2
      have ew1 : IntKind.i64.wrap (q * s) = m := by rw [hm]; exact IntWalk.i64_in _ (by omega)
      have hf0 : (p == 0) = false := by simp; omega
      have hfn : p ≠ 0 := by omega
      have et : m.tmod p = m % p := Int.tmod_eq_emod_of_nonneg (by omega)
      have et2 : (1 : Int).tmod p = 1 % p := Int.tmod_eq_emod_of_nonneg (by omega)
      have e1 := Int.emod_nonneg m hfn
      have e2 := Int.emod_lt_of_pos m (show 0 < p by omega)
      have e3 := Int.emod_nonneg 1 hfn
      have e4 := Int.emod_lt_of_pos 1 (show 0 < p by omega)
      rw [et, et2] at HSM
      obtain ⟨t, ht⟩ : ∃ t, m % p = t := ⟨_, rfl⟩
      obtain ⟨u, hu⟩ : ∃ u, 1 % p = u := ⟨_, rfl⟩
      rw [ht] at et e1 e2 HSM
      rw [hu] at et2 e3 e4 HSM
      have d1 : (p == p) = true := beq_self_eq_true p
      clear ht hu hqs HS
      obtain rfl : B = (t == u) := HSM.out
      go_enter Try.func61, Try.ntmps61
      go_wp2
      go_quiet (fail)
      go_wp2
      go_ret
      exact ⟨rfl, HBD.out _⟩
  · have hpz : (p == r) = false := beq_eq_false_iff_ne.2 hpr
    obtain rfl : B = false := by rw [← HS.out]; exact sameF_ne hpr
    go_enter Try.func61, Try.ntmps61
    go_wp2
    go_quiet (fail)
    go_wp2
    go_ret
    exact ⟨rfl, HBD.out _⟩

set_option maxHeartbeats 4000000 in
set_option maxRecDepth 100000 in
theorem tangleSame_any (p q r s : Int) (w : World) :
    Calls Try.prog 14 #[.int .i64 p, .int .i64 q, .int .i64 r, .int .i64 s] w fun e w' => e = .returned (.bool true) ∧ Below w.heap.size w w' := by
  have HP : Hid (∀ W, Calls Try.prog 58 #[.int .i64 p, .int .i64 q] W fun e w' => e = .returned (.bool (lowB p q)) ∧ Below W.heap.size W w') := fun W => lowestIs_any p q W
  have HQ : Hid (∀ W, Calls Try.prog 58 #[.int .i64 r, .int .i64 s] W fun e w' => e = .returned (.bool (lowB r s)) ∧ Below W.heap.size W w') := fun W => lowestIs_any r s W
  by_cases h : lowB p q = false ∨ lowB r s = false
  · have HS : Hid (∀ W, Calls Try.prog 60 #[.int .i64 p, .int .i64 q, .int .i64 r, .int .i64 s] W fun e w' => e = .returned (.tuple #[.bool false, .int .i64 3]) ∧ Below W.heap.size W w') := fun W => same_bad p q r s W h
    by_cases h1 : lowB p q = false
    · rw [h1] at HP
      clear h h1
      go_enter Try.func14, Try.ntmps14
      go_wp2_with (go_at_call 60; refine (HS.out _).mono ?_; rintro e9 w2 ⟨rfl, hb2⟩; refine Hid.out ?_)
      refine Lib.hid ?_
      have HB2 : Hid (Below w.heap.size w w2) := hb2
      clear hb2
      go_wp2_with (go_at_call 58; refine (HP.out _).mono ?_; rintro e9 w3 ⟨rfl, hb3⟩; refine Hid.out ?_)
      refine Lib.hid ?_
      have HB3 : Hid (Below w.heap.size w w3) := HB2.out.trans (hb3.mono HB2.out.size)
      clear hb3
      go_wp2
      go_ret
      exact ⟨rfl, HB3.out⟩
    · rw [(Bool.not_eq_false _).mp h1] at HP
      rw [h.resolve_left h1] at HQ
      clear h h1
      go_enter Try.func14, Try.ntmps14
      go_wp2_with (go_at_call 60; refine (HS.out _).mono ?_; rintro e9 w2 ⟨rfl, hb2⟩; refine Hid.out ?_)
      refine Lib.hid ?_
      have HB2 : Hid (Below w.heap.size w w2) := hb2
      clear hb2
      go_wp2_with (go_at_call 58; refine (HP.out _).mono ?_; rintro e9 w3 ⟨rfl, hb3⟩; refine Hid.out ?_)
      refine Lib.hid ?_
      have HB3 : Hid (Below w.heap.size w w3) := HB2.out.trans (hb3.mono HB2.out.size)
      clear hb3
      go_wp2_with (go_at_call 58; refine (HQ.out _).mono ?_; rintro e9 w4 ⟨rfl, hb4⟩; refine Hid.out ?_)
      refine Lib.hid ?_
      have HB4 : Hid (Below w.heap.size w w4) := HB3.out.trans (hb4.mono HB3.out.size)
      clear hb4
      go_wp2
      go_ret
      exact ⟨rfl, HB4.out⟩
  · have h1 : lowB p q = true := (Bool.not_eq_false _).mp fun e => h (Or.inl e)
    have h2 : lowB r s = true := (Bool.not_eq_false _).mp fun e => h (Or.inr e)
    have HS : Hid (∀ W, Calls Try.prog 60 #[.int .i64 p, .int .i64 q, .int .i64 r, .int .i64 s] W fun e w' => e = .returned (.tuple #[.bool (sameF p q r s), .int .i64 0]) ∧ Below W.heap.size W w') := fun W => same_good p q r s W h1 h2
    have HT : Hid (∀ W, Calls Try.prog 61 #[.int .i64 p, .int .i64 q, .int .i64 r, .int .i64 s] W fun e w' => e = .returned (.bool (sameF p q r s)) ∧ Below W.heap.size W w') := fun W => sameFractions_any p q r s W h1 h2
    rw [h1] at HP
    rw [h2] at HQ
    obtain ⟨B, hB⟩ : ∃ B, sameF p q r s = B := ⟨_, rfl⟩
    rw [hB] at HS HT
    clear h h1 h2 hB
    have hbb : (B == B) = true := beq_self_eq_true B
    go_enter Try.func14, Try.ntmps14
    go_wp2_with (go_at_call 60; refine (HS.out _).mono ?_; rintro e9 w2 ⟨rfl, hb2⟩; refine Hid.out ?_)
    refine Lib.hid ?_
    have HB2 : Hid (Below w.heap.size w w2) := hb2
    clear hb2
    go_wp2_with (go_at_call 58; refine (HP.out _).mono ?_; rintro e9 w3 ⟨rfl, hb3⟩; refine Hid.out ?_)
    refine Lib.hid ?_
    have HB3 : Hid (Below w.heap.size w w3) := HB2.out.trans (hb3.mono HB2.out.size)
    clear hb3
    go_wp2_with (go_at_call 58; refine (HQ.out _).mono ?_; rintro e9 w4 ⟨rfl, hb4⟩; refine Hid.out ?_)
    refine Lib.hid ?_
    have HB4 : Hid (Below w.heap.size w w4) := HB3.out.trans (hb4.mono HB3.out.size)
    clear hb4
    go_wp2_with (go_at_call 61; refine (HT.out _).mono ?_; rintro e9 w5 ⟨rfl, hb5⟩; refine Hid.out ?_)
    refine Lib.hid ?_
    have HB5 : Hid (Below w.heap.size w w5) := HB4.out.trans (hb5.mono HB4.out.size)
    clear hb5
    go_wp2
    go_ret
    exact ⟨by first | rfl | simp, HB5.out⟩
end Go.Proofs.Ytbikalghmlihlaa
