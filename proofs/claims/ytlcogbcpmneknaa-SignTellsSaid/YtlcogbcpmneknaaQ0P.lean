/- Several texts of the proof, one behind the other. -/
import Derived.Test.YtlcogbcpmneknaaW6P
/- Plain mathematics: rows modulo a prime, what they span, and how many columns have a first place in it. -/
namespace Go.Proofs.Ytlcogbcpmneknaa

/-- Closed under sums, modulo p, in the first m places. -/
structure Sub (p m : Nat) (S : (Nat → Int) → Prop) : Prop where
  zero : S (fun _ => 0)
  add : ∀ u v (k : Int), S u → S v → S (fun j => u j + k * v j)
  mod : ∀ u v, (∀ j, j < m → (p : Int) ∣ u j - v j) → S u → S v
/-- What rows span. -/
def Sp (p m : Nat) (R : (Nat → Int) → Prop) (v : Nat → Int) : Prop := ∀ S, Sub p m S → (∀ r, R r → S r) → S v
theorem Sp.mem {p m : Nat} {R : (Nat → Int) → Prop} {r : Nat → Int} (h : R r) : Sp p m R r := fun _ _ hR => hR r h
theorem Sp.sub (p m : Nat) (R : (Nat → Int) → Prop) : Sub p m (Sp p m R) :=
  ⟨fun _ hS _ => hS.zero, fun u v k hu hv S hS hR => hS.add u v k (hu S hS hR) (hv S hS hR), fun u v h hu S hS hR => hS.mod u v h (hu S hS hR)⟩
theorem Sp.le {p m : Nat} {R R' : (Nat → Int) → Prop} {v : Nat → Int} (h : ∀ r, R r → Sp p m R' r) (hv : Sp p m R v) : Sp p m R' v := hv _ (Sp.sub p m R') h
def Vc (p m : Nat) (R0 : (Nat → Int) → Prop) (c : Nat) (v : Nat → Int) : Prop := Sp p m R0 v ∧ ∀ j, j < c → (p : Int) ∣ v j
/-- Rows that span what is left behind c columns. -/
def Inv (p m : Nat) (R0 : (Nat → Int) → Prop) (c : Nat) (R : (Nat → Int) → Prop) : Prop := ∀ v, Sp p m R v ↔ Vc p m R0 c v
theorem sp_col {p m c : Nat} {R : (Nat → Int) → Prop} (hc : c < m) (h : ∀ r, R r → (p : Int) ∣ r c) {v : Nat → Int} (hv : Sp p m R v) : (p : Int) ∣ v c :=
  hv (fun v => (p : Int) ∣ v c) ⟨Int.dvd_zero _, fun u v k hu hv => Int.dvd_add hu (Int.dvd_mul_of_dvd_right hv), fun u v h hu => by
    have h1 := Int.dvd_sub hu (h c hc)
    have e : u c - (u c - v c) = v c := by omega
    rw [e] at h1
    exact h1⟩ h
theorem Inv.start {p m : Nat} {R0 R : (Nat → Int) → Prop} (h1 : ∀ r, R r → ∃ q, R0 q ∧ ∀ j, j < m → (p : Int) ∣ q j - r j) (h2 : ∀ r, R0 r → ∃ q, R q ∧ ∀ j, j < m → (p : Int) ∣ q j - r j) : Inv p m R0 0 R := fun v =>
  ⟨fun hv => ⟨Sp.le (fun r hr => by obtain ⟨q, hq, e⟩ := h1 r hr; exact (Sp.sub p m R0).mod q r e (Sp.mem hq)) hv, fun j hj => absurd hj (Nat.not_lt_zero _)⟩,
   fun hv => Sp.le (fun r hr => by obtain ⟨q, hq, e⟩ := h2 r hr; exact (Sp.sub p m R).mod q r e (Sp.mem hq)) hv.1⟩
theorem Inv.none {p m c : Nat} {R0 R : (Nat → Int) → Prop} (h : Inv p m R0 c R) (hc : c < m) (hn : ∀ r, R r → (p : Int) ∣ r c) : Inv p m R0 (c + 1) R := fun v =>
  ⟨fun hv => ⟨((h v).1 hv).1, fun j hj => by
      by_cases e : j = c
      · rw [e]; exact sp_col hc hn hv
      · exact ((h v).1 hv).2 j (by omega)⟩,
   fun hv => (h v).2 ⟨hv.1, fun j hj => hv.2 j (by omega)⟩⟩
theorem Inv.piv {p m c : Nat} {R0 R R' : (Nat → Int) → Prop} (h : Inv p m R0 c R) (hc : c < m) (a : Nat → Int) (ha : R a) (b : Int) (hb : (p : Int) ∣ a c * b - 1)
    (h1 : ∀ r', R' r' → (p : Int) ∣ r' c ∧ ∃ r k, R r ∧ ∀ j, j < m → (p : Int) ∣ (r j + k * a j) - r' j)
    (h2 : ∀ r, R r → r = a ∨ ∃ r' k, R' r' ∧ ∀ j, j < m → (p : Int) ∣ (r' j + k * a j) - r j) : Inv p m R0 (c + 1) R' := by
  have in1 : ∀ r', R' r' → Sp p m R r' := fun r' hr' => by
    obtain ⟨-, r, k, hr, e⟩ := h1 r' hr'
    exact (Sp.sub p m R).mod _ r' e ((Sp.sub p m R).add r a k (Sp.mem hr) (Sp.mem ha))
  have col : ∀ r', R' r' → (p : Int) ∣ r' c := fun r' hr' => (h1 r' hr').1
  intro v
  constructor
  · intro hv
    have hv1 := (h v).1 (Sp.le in1 hv)
    refine ⟨hv1.1, fun j hj => ?_⟩
    by_cases e : j = c
    · rw [e]; exact sp_col hc col hv
    · exact hv1.2 j (by omega)
  · intro hv
    have hv1 : Sp p m R v := (h v).2 ⟨hv.1, fun j hj => hv.2 j (by omega)⟩
    have hsub := Sp.sub p m R'
    -- each is a multiple of the pivot and what the new rows span
    have key : ∃ k : Int, Sp p m R' (fun j => v j + k * a j) := by
      refine hv1 (fun v => ∃ k : Int, Sp p m R' (fun j => v j + k * a j)) ⟨⟨0, ?_⟩, ?_, ?_⟩ ?_
      · exact hsub.mod _ _ (fun j _ => by simp) hsub.zero
      · rintro u w k ⟨k1, hu⟩ ⟨k2, hw⟩
        refine ⟨k1 + k * k2, hsub.mod _ _ (fun j _ => ?_) (hsub.add _ _ k hu hw)⟩
        have e : (u j + k1 * a j + k * (w j + k2 * a j)) - (u j + k * w j + (k1 + k * k2) * a j) = 0 := by
          rw [Int.mul_add, Int.add_mul, Int.mul_assoc]; omega
        rw [e]; exact Int.dvd_zero _
      · rintro u w e ⟨k, hu⟩
        refine ⟨k, hsub.mod _ _ (fun j hj => ?_) hu⟩
        have e2 : u j + k * a j - (w j + k * a j) = u j - w j := by omega
        rw [e2]; exact e j hj
      · intro r hr
        rcases h2 r hr with rfl | ⟨r', k, hr', e⟩
        · exact ⟨-1, hsub.mod _ _ (fun j _ => by have e : (0 : Int) - (r j + -1 * r j) = 0 := by omega
                                                 rw [e]; exact Int.dvd_zero _) hsub.zero⟩
        · refine ⟨-k, hsub.mod r' _ (fun j hj => ?_) (Sp.mem hr')⟩
          have e2 : r' j - (r j + -k * a j) = r' j + k * a j - r j := by rw [Int.neg_mul]; omega
          rw [e2]; exact e j hj
    obtain ⟨k, hk⟩ := key
    have hkc := sp_col hc col hk
    have hvc := hv.2 c (by omega)
    have d1 : (p : Int) ∣ k * a c := by
      have := Int.dvd_sub hkc hvc
      have e : v c + k * a c - v c = k * a c := by omega
      rw [e] at this; exact this
    have d2 : (p : Int) ∣ k := by
      have e1 : (p : Int) ∣ k * (a c * b - 1) := Int.dvd_mul_of_dvd_right hb
      have e2 : (p : Int) ∣ k * a c * b := Int.dvd_mul_of_dvd_left d1
      have e3 := Int.dvd_sub e2 e1
      have e4 : k * a c * b - k * (a c * b - 1) = k := by rw [Int.mul_sub, Int.mul_assoc]; omega
      rw [e4] at e3; exact e3
    refine hsub.mod _ v (fun j _ => ?_) hk
    have e : v j + k * a j - v j = k * a j := by omega
    rw [e]; exact Int.dvd_mul_of_dvd_left d2
end Go.Proofs.Ytlcogbcpmneknaa
/- Determinants of whole numbers, along the first row: rows may be traded and added to one another; modulo a prime a determinant is nought just where a column has no first place. -/
namespace Go.Proofs.Ytlcogbcpmneknaa

def rowZ (a : Nat → Int) : List Nat → (List Nat → Int) → Int
  | [], _ => 0
  | c :: cs, h => a c * h cs - rowZ a cs (fun rest => h (c :: rest))
theorem rowZ_lin2 (a : Nat → Int) (k : Int) (cs : List Nat) (h h' : List Nat → Int) : rowZ a cs (fun rest => h rest + k * h' rest) = rowZ a cs h + k * rowZ a cs h' := by
  induction cs generalizing h h' with
  | nil => simp [rowZ]
  | cons c cs ih =>
    simp only [rowZ, ih (fun rest => h (c :: rest)) (fun rest => h' (c :: rest))]
    grind
theorem rowZ_mul (a : Nat → Int) (k : Int) (cs : List Nat) (h : List Nat → Int) : rowZ a cs (fun rest => k * h rest) = k * rowZ a cs h := by
  induction cs generalizing h with
  | nil => simp [rowZ]
  | cons c cs ih =>
    simp only [rowZ, ih (fun rest => h (c :: rest))]
    grind
theorem rowZ_lin (a b : Nat → Int) (k : Int) (cs : List Nat) (h : List Nat → Int) : rowZ (fun c => a c + k * b c) cs h = rowZ a cs h + k * rowZ b cs h := by
  induction cs generalizing h with
  | nil => simp [rowZ]
  | cons c cs ih =>
    simp only [rowZ, ih (fun rest => h (c :: rest))]
    grind
theorem rowZ_twice (a : Nat → Int) (cs : List Nat) (h : List Nat → Int) : rowZ a cs (fun rest => rowZ a rest h) = 0 := by
  induction cs generalizing h with
  | nil => rfl
  | cons c cs ih =>
    have e : rowZ a cs (fun rest => rowZ a (c :: rest) h) = rowZ a cs (fun rest => a c * h rest + (-1) * rowZ a rest (fun r2 => h (c :: r2))) := by
      congr 1
      funext rest
      simp only [rowZ]
      omega
    show a c * rowZ a cs h - rowZ a cs (fun rest => rowZ a (c :: rest) h) = 0
    rw [e, rowZ_lin2, rowZ_mul, ih]
    omega
theorem rowZ_swap (a b : Nat → Int) (cs : List Nat) (h : List Nat → Int) : rowZ a cs (fun rest => rowZ b rest h) = -rowZ b cs (fun rest => rowZ a rest h) := by
  have t := rowZ_twice (fun c => a c + 1 * b c) cs h
  have e : (fun rest => rowZ (fun c => a c + 1 * b c) rest h) = fun rest => rowZ a rest h + 1 * rowZ b rest h := funext fun rest => rowZ_lin a b 1 rest h
  rw [e, rowZ_lin2, rowZ_lin, rowZ_lin, rowZ_twice, rowZ_twice] at t
  omega
def sgZ : Nat → Int
  | 0 => 1
  | n + 1 => -sgZ n
theorem sgZ_two (n : Nat) : sgZ n = 1 ∨ sgZ n = -1 := by
  induction n with
  | zero => exact Or.inl rfl
  | succ n ih => simp only [sgZ]; omega
end Go.Proofs.Ytlcogbcpmneknaa
