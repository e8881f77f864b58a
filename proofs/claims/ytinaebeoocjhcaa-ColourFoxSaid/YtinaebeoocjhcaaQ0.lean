/- Plain mathematics: rows modulo a prime, what they span, and how many columns have a first place in it. -/
import Derived.Test.YtinaebeoocjhcaaO0
namespace Go.Proofs.Ytinaebeoocjhcaa

def primeN (p : Nat) : Bool := decide (2 ≤ p) && (List.range p).all fun k => decide (k < 2) || decide (p % k ≠ 0)
theorem inv_all : ((List.range 98).all fun p => !primeN p || (List.range p).all fun a => a == 0 || (List.range p).any fun b => a * b % p == 1) = true := by decide +kernel
theorem inv_ex {p a : Nat} (hp : p < 98) (h : primeN p = true) (ha : a < p) (h0 : a ≠ 0) : ∃ b, b < p ∧ a * b % p = 1 := by
  have h1 := List.all_eq_true.1 inv_all p (List.mem_range.2 hp)
  rw [h] at h1
  have h2 := List.all_eq_true.1 (by simpa using h1 : ((List.range p).all fun a => a == 0 || (List.range p).any fun b => a * b % p == 1) = true) a (List.mem_range.2 ha)
  rcases Bool.or_eq_true_iff.1 h2 with h3 | h3
  · exact absurd (by simpa using h3) h0
  · obtain ⟨b, hb, e⟩ := List.any_eq_true.1 h3
    exact ⟨b, List.mem_range.1 hb, by simpa using e⟩

/-- Closed under sums, modulo p, in the first m places. -/
structure Sub (p m : Nat) (S : (Nat → Int) → Prop) : Prop where
  zero : S (fun _ => 0)
  add : ∀ u v (k : Int), S u → S v → S (fun j => u j + k * v j)
  mod : ∀ u v, (∀ j, j < m → (p : Int) ∣ u j - v j) → S u → S v
/-- What rows span. -/
def Sp (p m : Nat) (R : (Nat → Int) → Prop) (v : Nat → Int) : Prop := ∀ S, Sub p m S → (∀ r, R r → S r) → S v
theorem Sp.mem {p m : Nat} {R : (Nat → Int) → Prop} {r : Nat → Int} (h : R r) : Sp p m R r := fun _ _ hR => hR r h
theorem Sp.sub (p m : Nat) (R : (Nat → Int) → Prop) : Sub p m (Sp p m R) :=
  ⟨fun _ hS _ => hS.zero, fun u v k hu hv S hS hR => hS.add u v k (hu S hS hR) (hv S hS hR), fun u v h hu S hS hR => hS.mod u v h (hu S hS hR)⟩
theorem Sp.le {p m : Nat} {R R' : (Nat → Int) → Prop} {v : Nat → Int} (h : ∀ r, R r → Sp p m R' r) (hv : Sp p m R v) : Sp p m R' v := hv _ (Sp.sub p m R') h
def Vc (p m : Nat) (R0 : (Nat → Int) → Prop) (c : Nat) (v : Nat → Int) : Prop := Sp p m R0 v ∧ ∀ j, j < c → (p : Int) ∣ v j
/-- Rows that span what is left behind c columns. -/
def Inv (p m : Nat) (R0 : (Nat → Int) → Prop) (c : Nat) (R : (Nat → Int) → Prop) : Prop := ∀ v, Sp p m R v ↔ Vc p m R0 c v
theorem sp_col {p m c : Nat} {R : (Nat → Int) → Prop} (hc : c < m) (h : ∀ r, R r → (p : Int) ∣ r c) {v : Nat → Int} (hv : Sp p m R v) : (p : Int) ∣ v c :=
  hv (fun v => (p : Int) ∣ v c) ⟨Int.dvd_zero _, fun u v k hu hv => Int.dvd_add hu (Int.dvd_mul_of_dvd_right hv), fun u v h hu => by
    have h1 := Int.dvd_sub hu (h c hc)
    have e : u c - (u c - v c) = v c := by omega
    rw [e] at h1
    exact h1⟩ h
theorem Inv.start {p m : Nat} {R0 R : (Nat → Int) → Prop} (h1 : ∀ r, R r → ∃ q, R0 q ∧ ∀ j, j < m → (p : Int) ∣ q j - r j) (h2 : ∀ r, R0 r → ∃ q, R q ∧ ∀ j, j < m → (p : Int) ∣ q j - r j) : Inv p m R0 0 R := fun v =>
  ⟨fun hv => ⟨Sp.le (fun r hr => by obtain ⟨q, hq, e⟩ := h1 r hr; exact (Sp.sub p m R0).mod q r e (Sp.mem hq)) hv, fun j hj => absurd hj (Nat.not_lt_zero _)⟩,
   fun hv => Sp.le (fun r hr => by obtain ⟨q, hq, e⟩ := h2 r hr; exact (Sp.sub p m R).mod q r e (Sp.mem hq)) hv.1⟩
theorem Inv.none {p m c : Nat} {R0 R : (Nat → Int) → Prop} (h : Inv p m R0 c R) (hc : c < m) (hn : ∀ r, R r → (p : Int) ∣ r c) : Inv p m R0 (c + 1) R := fun v =>
  ⟨fun hv => ⟨((h v).1 hv).1, fun j hj => by
      by_cases e : j = c
      · rw [e]; exact sp_col hc hn hv
      · exact ((h v).1 hv).2 j (by omega)⟩,
   fun hv => (h v).2 ⟨hv.1, fun j hj => hv.2 j (by omega)⟩⟩
theorem Inv.piv {p m c : Nat} {R0 R R' : (Nat → Int) → Prop} (h : Inv p m R0 c R) (hc : c < m) (a : Nat → Int) (ha : R a) (b : Int) (hb : (p : Int) ∣ a c * b - 1)
    (h1 : ∀ r', R' r' → (p : Int) ∣ r' c ∧ ∃ r k, R r ∧ ∀ j, j < m → (p : Int) ∣ (r j + k * a j) - r' j)
    (h2 : ∀ r, R r → r = a ∨ ∃ r' k, R' r' ∧ ∀ j, j < m → (p : Int) ∣ (r' j + k * a j) - r j) : Inv p m R0 (c + 1) R' := by
  have in1 : ∀ r', R' r' → Sp p m R r' := fun r' hr' => by
    obtain ⟨-, r, k, hr, e⟩ := h1 r' hr'
    exact (Sp.sub p m R).mod _ r' e ((Sp.sub p m R).add r a k (Sp.mem hr) (Sp.mem ha))
  have col : ∀ r', R' r' → (p : Int) ∣ r' c := fun r' hr' => (h1 r' hr').1
  intro v
  constructor
  · intro hv
    have hv1 := (h v).1 (Sp.le in1 hv)
    refine ⟨hv1.1, fun j hj => ?_⟩
    by_cases e : j = c
    · rw [e]; exact sp_col hc col hv
    · exact hv1.2 j (by omega)
  · intro hv
    have hv1 : Sp p m R v := (h v).2 ⟨hv.1, fun j hj => hv.2 j (by omega)⟩
    have hsub := Sp.sub p m R'
    -- each is a multiple of the pivot and what the new rows span
    have key : ∃ k : Int, Sp p m R' (fun j => v j + k * a j) := by
      refine hv1 (fun v => ∃ k : Int, Sp p m R' (fun j => v j + k * a j)) ⟨⟨0, ?_⟩, ?_, ?_⟩ ?_
      · exact hsub.mod _ _ (fun j _ => by simp) hsub.zero
      · rintro u w k ⟨k1, hu⟩ ⟨k2, hw⟩
        refine ⟨k1 + k * k2, hsub.mod _ _ (fun j _ => ?_) (hsub.add _ _ k hu hw)⟩
        have e : (u j + k1 * a j + k * (w j + k2 * a j)) - (u j + k * w j + (k1 + k * k2) * a j) = 0 := by
          rw [Int.mul_add, Int.add_mul, Int.mul_assoc]; omega
        rw [e]; exact Int.dvd_zero _
      · rintro u w e ⟨k, hu⟩
        refine ⟨k, hsub.mod _ _ (fun j hj => ?_) hu⟩
        have e2 : u j + k * a j - (w j + k * a j) = u j - w j := by omega
        rw [e2]; exact e j hj
      · intro r hr
        rcases h2 r hr with rfl | ⟨r', k, hr', e⟩
        · exact ⟨-1, hsub.mod _ _ (fun j _ => by have e : (0 : Int) - (r j + -1 * r j) = 0 := by omega
                                                 rw [e]; exact Int.dvd_zero _) hsub.zero⟩
        · refine ⟨-k, hsub.mod r' _ (fun j hj => ?_) (Sp.mem hr')⟩
          have e2 : r' j - (r j + -k * a j) = r' j + k * a j - r j := by rw [Int.neg_mul]; omega
          rw [e2]; exact e j hj
    obtain ⟨k, hk⟩ := key
    have hkc := sp_col hc col hk
    have hvc := hv.2 c (by omega)
    have d1 : (p : Int) ∣ k * a c := by
      have := Int.dvd_sub hkc hvc
      have e : v c + k * a c - v c = k * a c := by omega
      rw [e] at this; exact this
    have d2 : (p : Int) ∣ k := by
      have e1 : (p : Int) ∣ k * (a c * b - 1) := Int.dvd_mul_of_dvd_right hb
      have e2 : (p : Int) ∣ k * a c * b := Int.dvd_mul_of_dvd_left d1
      have e3 := Int.dvd_sub e2 e1
      have e4 : k * a c * b - k * (a c * b - 1) = k := by rw [Int.mul_sub, Int.mul_assoc]; omega
      rw [e4] at e3; exact e3
    refine hsub.mod _ v (fun j _ => ?_) hk
    have e : v j + k * a j - v j = k * a j := by omega
    rw [e]; exact Int.dvd_mul_of_dvd_left d2
/-- Is there a first place in a column? -/
def pivP (p m : Nat) (R0 : (Nat → Int) → Prop) (c : Nat) : Prop := ∃ v, Vc p m R0 c v ∧ ¬ (p : Int) ∣ v c
theorem piv_iff {p m c : Nat} {R0 R : (Nat → Int) → Prop} (h : Inv p m R0 c R) (hc : c < m) : pivP p m R0 c ↔ ∃ r, R r ∧ ¬ (p : Int) ∣ r c := by
  constructor
  · rintro ⟨v, hv, hn⟩
    refine Classical.byContradiction fun hno => hn (sp_col hc (fun r hr => Classical.byContradiction fun hd => hno ⟨r, hr, hd⟩) ((h v).2 hv))
  · rintro ⟨r, hr, hn⟩
    exact ⟨r, (h r).1 (Sp.mem hr), hn⟩
open Classical in
/-- How many of the first c columns have one. -/
noncomputable def rkTo (p m : Nat) (R0 : (Nat → Int) → Prop) : Nat → Nat
  | 0 => 0
  | c + 1 => rkTo p m R0 c + (if pivP p m R0 c then 1 else 0)
theorem rkTo_yes {p m c : Nat} {R0 : (Nat → Int) → Prop} (h : pivP p m R0 c) : rkTo p m R0 (c + 1) = rkTo p m R0 c + 1 := by
  show rkTo p m R0 c + _ = _; rw [if_pos h]
theorem rkTo_no {p m c : Nat} {R0 : (Nat → Int) → Prop} (h : ¬ pivP p m R0 c) : rkTo p m R0 (c + 1) = rkTo p m R0 c := by
  show rkTo p m R0 c + _ = _; rw [if_neg h]; rfl
theorem rkTo_le (p m : Nat) (R0 : (Nat → Int) → Prop) (c : Nat) : rkTo p m R0 c ≤ c := by
  induction c with
  | zero => exact Nat.le_refl _
  | succ c ih =>
    by_cases h : pivP p m R0 c
    · rw [rkTo_yes h]; omega
    · rw [rkTo_no h]; omega

/-- A remainder is what it is a remainder of, modulo p. -/
theorem tmod_same (x : Int) (p : Nat) : (p : Int) ∣ x - x.tmod p := ⟨x.tdiv p, by have := Int.mul_tdiv_add_tmod x p; omega⟩
theorem tmod_in {x : Int} {p : Nat} (hp : 0 < p) (hx : 0 ≤ x) : 0 ≤ x.tmod p ∧ x.tmod p < p := ⟨Int.tmod_nonneg _ hx, Int.tmod_lt_of_pos _ (by omega)⟩
theorem tmod_abs (x : Int) {p : Nat} (hp : 0 < p) : -(p : Int) < x.tmod p ∧ x.tmod p < p := by
  refine ⟨?_, Int.tmod_lt_of_pos _ (by omega)⟩
  by_cases h : 0 ≤ x
  · have := Int.tmod_nonneg (p : Int) h; omega
  · have h1 := Int.tmod_lt_of_pos (-x) (by omega : (0 : Int) < p)
    rw [Int.neg_tmod] at h1
    omega
theorem tmod_zero (x : Int) (p : Nat) : x.tmod p = 0 ↔ (p : Int) ∣ x := by
  constructor
  · intro h; have := tmod_same x p; rw [h] at this; simpa using this
  · intro h; exact Int.tmod_eq_zero_of_dvd h
theorem small_dvd {x : Int} {p : Nat} (h0 : 0 ≤ x) (h1 : x < p) : (p : Int) ∣ x ↔ x = 0 := by
  constructor
  · rintro ⟨k, e⟩
    by_cases hk : k ≤ 0
    · have : (p : Int) * k ≤ 0 := Int.mul_nonpos_of_nonneg_of_nonpos (by omega) hk
      omega
    · have : (p : Int) * 1 ≤ p * k := Int.mul_le_mul_of_nonneg_left (by omega) (by omega)
      omega
  · intro e; rw [e]; exact Int.dvd_zero _
/-- What is no multiple has an inverse. -/
theorem inv_int {p : Nat} (hp : p < 98) (h : primeN p = true) (x : Int) (hx : ¬ (p : Int) ∣ x) : ∃ b : Int, (p : Int) ∣ x * b - 1 := by
  have h2 : 2 ≤ p := by
    have := (Bool.and_eq_true_iff.1 h).1
    simpa using this
  have hr0 : 0 ≤ x % p := Int.emod_nonneg _ (by omega)
  have hr1 : x % p < p := Int.emod_lt_of_pos _ (by omega)
  obtain ⟨a, ha⟩ : ∃ a : Nat, x % p = (a : Int) := ⟨(x % p).toNat, by omega⟩
  have ha0 : a ≠ 0 := fun e => hx (Int.dvd_of_emod_eq_zero (by rw [ha, e]; rfl))
  obtain ⟨b, -, e⟩ := inv_ex hp h (by omega) ha0
  refine ⟨b, ?_⟩
  have e1 : (p : Int) ∣ (a : Int) * b - 1 := by
    refine ⟨((a * b / p : Nat) : Int), ?_⟩
    have := Nat.div_add_mod (a * b) p
    rw [e] at this
    have t : ((p * (a * b / p) + 1 : Nat) : Int) = ((a * b : Nat) : Int) := by rw [this]
    push_cast at t
    push_cast
    omega
  have e2 : (p : Int) ∣ (x - a) * b := Int.dvd_mul_of_dvd_left (by rw [← ha]; exact ⟨x / p, by have := Int.mul_ediv_add_emod x p; omega⟩)
  have e3 := Int.dvd_add e1 e2
  have e4 : (a : Int) * b - 1 + (x - a) * b = x * b - 1 := by rw [Int.sub_mul]; omega
  rw [e4] at e3; exact e3
end Go.Proofs.Ytinaebeoocjhcaa
