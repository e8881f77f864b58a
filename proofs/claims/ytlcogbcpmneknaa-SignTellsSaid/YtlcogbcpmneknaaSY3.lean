/- Turn upon turn: a symmetric table comes to its diagonal; plain mathematics. -/
import Derived.Test.YtlcogbcpmneknaaSY2
namespace Go.Proofs.Ytlcogbcpmneknaa

def Sy (n : Nat) (A : Nat → Nat → Rat) : Prop := ∀ i j, i < n → j < n → A i j = A j i
/-- A is M seen from another upright frame. -/
def Ort (n : Nat) (M A : Nat → Nat → Rat) : Prop := ∃ Q : Nat → Nat → Rat, (∀ i j, i < n → j < n → A i j = sm n fun a => sm n fun b => Q i a * (M a b * Q j b)) ∧ ∀ i j, i < n → j < n → (sm n fun a => Q i a * Q j a) = if i = j then 1 else 0
def pw (n : Nat) (A : Nat → Nat → Rat) : Nat → Nat → Nat → Rat
  | 0 => fun i j => if i = j then 1 else 0
  | k + 1 => fun i j => sm n fun a => A i a * pw n A k a j
def tr (n : Nat) (A : Nat → Nat → Rat) : Rat := sm n fun i => A i i
theorem rv_ext {n p q : Nat} {c s : Rat} (hp : p < n) (hq : q < n) {f g : Nat → Rat} (h : ∀ a, a < n → f a = g a) {i : Nat} (hi : i < n) : rv p q c s f i = rv p q c s g i := by
  unfold rv; rw [h p hp, h q hq, h i hi]
theorem rot_ext {n p q : Nat} {c s : Rat} (hp : p < n) (hq : q < n) {A B : Nat → Nat → Rat} (h : ∀ a b, a < n → b < n → A a b = B a b) {i j : Nat} (hi : i < n) (hj : j < n) : rot p q c s A i j = rot p q c s B i j :=
  rv_ext hp hq (fun a ha => rv_ext hp hq (fun b hb => h a b ha hb) hj) hi
section
variable {n p q : Nat} {c s : Rat} (hp : p < n) (hq : q < n) (hpq : p ≠ q) (h1 : c * c + s * s = 1)
include hp hq hpq h1
theorem rot_mul (A P : Nat → Nat → Rat) (i j : Nat) : (sm n fun a => rot p q c s A i a * rot p q c s P a j) = rot p q c s (fun a b => sm n fun k => A a k * P k b) i j := by
  have e1 : ∀ a, rot p q c s A i a = rv p q c s (fun b => rv p q c s (fun a' => A a' b) i) a := fun a => rv_swap p q c s A i a
  have e2 : (sm n fun a => rot p q c s A i a * rot p q c s P a j) = sm n fun a => rv p q c s (fun b => rv p q c s (fun a' => A a' b) i) a * rv p q c s (fun a' => rv p q c s (P a') j) a := sm_congr fun a _ => by rw [e1]; rfl
  rw [e2, rv_dot hp hq hpq h1]
  have e3 : ∀ a, rv p q c s (fun b => sm n fun k => A a k * P k b) j = sm n fun k => A a k * rv p q c s (P k) j := fun a => by
    rw [rv_sm p q c s n (fun b k => A a k * P k b) j]
    refine sm_congr fun k _ => ?_
    have := rv_mul p q c s (P k) (A a k) j
    rw [show (fun b => P k b * A a k) = fun b => A a k * P k b from funext fun b => by grind] at this
    rw [this]; grind
  show _ = rv p q c s (fun a => rv p q c s (fun b => sm n fun k => A a k * P k b) j) i
  rw [show (fun a => rv p q c s (fun b => sm n fun k => A a k * P k b) j) = fun a => sm n fun k => A a k * rv p q c s (P k) j from funext e3, rv_sm p q c s n (fun a k => A a k * rv p q c s (P k) j) i]
  exact sm_congr fun k _ => (rv_mul p q c s (fun a => A a k) (rv p q c s (P k) j) i).symm
omit hp hq in
theorem rot_id (i j : Nat) : rot p q c s (fun i j => if i = j then 1 else 0) i j = if i = j then 1 else 0 := by
  unfold rot rv
  simp only
  by_cases a1 : i = p <;> by_cases a2 : i = q <;> by_cases a3 : j = p <;> by_cases a4 : j = q <;> simp_all <;> grind
theorem rot_pw (A : Nat → Nat → Rat) : ∀ k i j, i < n → j < n → pw n (rot p q c s A) k i j = rot p q c s (pw n A k) i j
  | 0, i, j, _, _ => (rot_id hpq h1 i j).symm
  | k + 1, i, j, hi, hj => by
    show (sm n fun a => rot p q c s A i a * pw n (rot p q c s A) k a j) = _
    rw [sm_congr fun a ha => by rw [rot_pw A k a j ha hj], rot_mul hp hq hpq h1]
    rfl
theorem rot_tr (P : Nat → Nat → Rat) : tr n (rot p q c s P) = tr n P := by
  have e := sm_two (f := fun i => rot p q c s P i i) (g := fun i => P i i) hp hq hpq fun i _ a b => rot_else c s P a b
  obtain ⟨r1, r2, -⟩ := rot_at c s hpq P
  have e2 : tr n (rot p q c s P) - tr n P = _ := e
  rw [r1, r2] at e2
  grind
theorem rot_trs (A : Nat → Nat → Rat) (k : Nat) : tr n (pw n (rot p q c s A) k) = tr n (pw n A k) := by
  rw [← rot_tr hp hq hpq h1 (pw n A k)]
  exact sm_congr fun i hi => rot_pw hp hq hpq h1 A k i i hi hi
theorem rot_ort {M A : Nat → Nat → Rat} (h : Ort n M A) : Ort n M (rot p q c s A) := by
  obtain ⟨Q, g1, g2⟩ := h
  refine ⟨fun i a => rv p q c s (fun k => Q k a) i, fun i j hi hj => ?_, fun i j hi hj => ?_⟩
  · rw [rot_ext hp hq g1 hi hj]
    show rv p q c s (fun x => rv p q c s (fun y => sm n fun a => sm n fun b => Q x a * (M a b * Q y b)) j) i = _
    have e1 : ∀ x, rv p q c s (fun y => sm n fun a => sm n fun b => Q x a * (M a b * Q y b)) j = sm n fun a => sm n fun b => Q x a * (M a b * rv p q c s (fun y => Q y b) j) := fun x => by
      rw [rv_sm p q c s n (fun y a => sm n fun b => Q x a * (M a b * Q y b)) j]
      refine sm_congr fun a _ => ?_
      rw [rv_sm p q c s n (fun y b => Q x a * (M a b * Q y b)) j]
      refine sm_congr fun b _ => ?_
      have := rv_mul p q c s (fun y => Q y b) (Q x a * M a b) j
      rw [show (fun y => Q y b * (Q x a * M a b)) = fun y => Q x a * (M a b * Q y b) from funext fun y => by grind] at this
      rw [this]; grind
    rw [show (fun x => rv p q c s (fun y => sm n fun a => sm n fun b => Q x a * (M a b * Q y b)) j) = fun x => sm n fun a => sm n fun b => Q x a * (M a b * rv p q c s (fun y => Q y b) j) from funext e1, rv_sm p q c s n (fun x a => sm n fun b => Q x a * (M a b * rv p q c s (fun y => Q y b) j)) i]
    refine sm_congr fun a _ => ?_
    rw [rv_sm p q c s n (fun x b => Q x a * (M a b * rv p q c s (fun y => Q y b) j)) i]
    exact sm_congr fun b _ => rv_mul p q c s (fun x => Q x a) (M a b * rv p q c s (fun y => Q y b) j) i
  · have e := rot_ext (c := c) (s := s) hp hq g2 hi hj
    rw [rot_id hpq h1] at e
    rw [← e]
    show _ = rv p q c s (fun x => rv p q c s (fun y => sm n fun a => Q x a * Q y a) j) i
    have e1 : ∀ x, rv p q c s (fun y => sm n fun a => Q x a * Q y a) j = sm n fun a => Q x a * rv p q c s (fun y => Q y a) j := fun x => by
      rw [rv_sm p q c s n (fun y a => Q x a * Q y a) j]
      refine sm_congr fun a _ => ?_
      have := rv_mul p q c s (fun y => Q y a) (Q x a) j
      rw [show (fun y => Q y a * Q x a) = fun y => Q x a * Q y a from funext fun y => by grind] at this
      rw [this]; grind
    rw [show (fun x => rv p q c s (fun y => sm n fun a => Q x a * Q y a) j) = fun x => sm n fun a => Q x a * rv p q c s (fun y => Q y a) j from funext e1, rv_sm p q c s n (fun x a => Q x a * rv p q c s (fun y => Q y a) j) i]
    exact sm_congr fun a _ => (rv_mul p q c s (fun x => Q x a) (rv p q c s (fun y => Q y a) j) i).symm
end
/-- One turn, at the greatest place beside the diagonal. -/
theorem one_turn {n p q : Nat} {A : Nat → Nat → Rat} (hp : p < n) (hq : q < n) (hpq : p ≠ q) (hA : Sy n A) (h0 : A p q ≠ 0) : ∃ c s : Rat, c * c + s * s = 1 ∧ off n (rot p q c s A) ≤ off n A - 3 / 2 * (A p q * A p q) ∧ ∀ i, i < n → (rot p q c s A i i - A i i) * (rot p q c s A i i - A i i) ≤ 16 * (A p q * A p q) := by
  obtain ⟨a, ha⟩ : ∃ a, A p q = a := ⟨_, rfl⟩
  obtain ⟨x, hx⟩ : ∃ x, A p p = x := ⟨_, rfl⟩
  obtain ⟨y, hy⟩ : ∃ y, A q q = y := ⟨_, rfl⟩
  have hs : A q p = A p q := hA q p hq hp
  -- a's sign, and the sign of the turn
  obtain ⟨e, α, he, hα, hα0⟩ : ∃ e α : Rat, e * e = 1 ∧ a = e * α ∧ 0 < α := by
    rcases Classical.em (0 < a) with r | r
    · exact ⟨1, a, by grind, by grind, r⟩
    · exact ⟨-1, -a, by grind, by grind, by grind⟩
  obtain ⟨f, w, hf, hw, hw0⟩ : ∃ f w : Rat, f * f = 1 ∧ y - x = f * w ∧ 0 ≤ w := by
    rcases Classical.em (0 ≤ y - x) with r | r
    · exact ⟨1, y - x, by grind, by grind, r⟩
    · exact ⟨-1, -(y - x), by grind, by grind, by grind⟩
  obtain ⟨t, t0, t1, g1, g2, g3⟩ := turn hα0 hw0
  have tt := sq_nonneg t
  have hd0 : 1 + t * t ≠ 0 := by grind
  obtain ⟨d, hd⟩ : ∃ d, 1 / (1 + t * t) = d := ⟨_, rfl⟩
  have hd1 : (1 + t * t) * d = 1 := by rw [← hd]; grind
  have hdp : 0 < d := by rw [← hd, Rat.div_def]; exact Rat.mul_pos (by decide) (Rat.inv_pos.2 (by grind))
  have hdl : d ≤ 1 := by
    have := Rat.mul_nonneg tt (show 0 ≤ d by grind)
    grind
  clear hd
  -- c and s
  obtain ⟨c, hc⟩ : ∃ c, (1 - t * t) * d = c := ⟨_, rfl⟩
  obtain ⟨u, hu⟩ : ∃ u, 2 * t * d = u := ⟨_, rfl⟩
  have hs2 : (-(e * f) * u) * (-(e * f) * u) = u * u := by
    have : (-(e * f) * u) * (-(e * f) * u) = (e * e) * (f * f) * (u * u) := by grind
    rw [this, he, hf]; grind
  have hcu : c * c + u * u = 1 := by
    have : c * c + u * u = ((1 + t * t) * d) * ((1 + t * t) * d) := by rw [← hc, ← hu]; grind
    rw [this, hd1]; grind
  have hcs : c * c + (-(e * f) * u) * (-(e * f) * u) = 1 := by rw [hs2]; exact hcu
  obtain ⟨s, hse⟩ : ∃ s, -(e * f) * u = s := ⟨_, rfl⟩
  rw [hse] at hs2 hcs
  obtain ⟨r1, r2, r3⟩ := rot_at c s hpq A
  rw [hs, ha, hx, hy] at r1 r2 r3
  obtain ⟨G, hG⟩ : ∃ G, (1 - 6 * (t * t) + t * t * (t * t)) * α - 2 * t * (1 - t * t) * w = G := ⟨_, rfl⟩
  rw [hG] at g1 g2
  have hdd : 0 ≤ d * d ∧ d * d ≤ 1 := by
    refine ⟨sq_nonneg d, ?_⟩
    have := Rat.mul_nonneg (show 0 ≤ d by grind) (show 0 ≤ 1 - d by grind)
    grind
  have e3 : rot p q c s A p q = e * (G * (d * d)) := by
    have q1 : rot p q c s A p q = (c * c - s * s) * a + c * s * (y - x) := by rw [r3]; grind
    rw [q1, hs2, ← hse, hw, hα, ← hG, ← hc, ← hu]
    have q2 : (1 - t * t) * d * (-(e * f) * (2 * t * d)) * (f * w) = -e * (f * f) * ((1 - t * t) * d * (2 * t * d) * w) := by grind
    rw [q2, hf]; grind
  have e4 : rot p q c s A p q * rot p q c s A p q ≤ α * α / 4 := by
    have q1 : rot p q c s A p q * rot p q c s A p q = (G * (d * d)) * (G * (d * d)) := by
      have : rot p q c s A p q * rot p q c s A p q = (e * e) * ((G * (d * d)) * (G * (d * d))) := by rw [e3]; grind
      rw [this, he]; grind
    rw [q1]
    have q2 := mul_bd (a := G) (b := d * d) (A := α / 2) (B := 1) g1 g2 (by grind) hdd.2
    have q3 := mul_bd (a := G * (d * d)) (b := G * (d * d)) (A := α / 2) (B := α / 2) (by grind) (by grind) (by grind) (by grind)
    grind
  have eα : a * a = α * α := by
    have : a * a = (e * e) * (α * α) := by rw [hα]; grind
    rw [this, he]; grind
  -- how the diagonal changes
  have hΔ : ∀ Δ : Rat, Δ = s * s * (y - x) + 2 * (c * s) * a → Δ * Δ ≤ 16 * (α * α) := fun Δ hΔ => by
    have q1 : Δ = f * ((4 * (t * t) * w - 4 * t * (1 - t * t) * α) * (d * d)) := by
      rw [hΔ, hs2, ← hse, hw, hα, ← hc, ← hu]
      have q2 : 2 * ((1 - t * t) * d * (-(e * f) * (2 * t * d))) * (e * α) = -f * (e * e) * (2 * ((1 - t * t) * d * (2 * t * d)) * α) := by grind
      rw [q2, he]; grind
    have w1 := Rat.mul_nonneg t0 hw0
    have w2 : 0 ≤ t * (α - t * w) := Rat.mul_nonneg t0 (by grind)
    have w3 : 0 ≤ (1 - 2 * t) * α := Rat.mul_nonneg (by grind) (by grind)
    have w4 : 0 ≤ t * (1 - t * t) * α := Rat.mul_nonneg (Rat.mul_nonneg t0 (by
      have := Rat.mul_nonneg (show 0 ≤ 1 - 2 * t by grind) (show 0 ≤ 1 + 2 * t by grind)
      grind)) (by grind)
    have w5 : 0 ≤ t * (t * t) * α := Rat.mul_nonneg (Rat.mul_nonneg t0 tt) (by grind)
    have w6 : 0 ≤ t * (t * w) := Rat.mul_nonneg t0 w1
    have q3 := mul_bd (a := 4 * (t * t) * w - 4 * t * (1 - t * t) * α) (b := d * d) (A := 4 * α) (B := 1) (by grind) (by grind) (by grind) hdd.2
    have q4 : Δ * Δ = ((4 * (t * t) * w - 4 * t * (1 - t * t) * α) * (d * d)) * ((4 * (t * t) * w - 4 * t * (1 - t * t) * α) * (d * d)) := by
      have : Δ * Δ = (f * f) * (((4 * (t * t) * w - 4 * t * (1 - t * t) * α) * (d * d)) * ((4 * (t * t) * w - 4 * t * (1 - t * t) * α) * (d * d))) := by rw [q1]; grind
      rw [this, hf]; grind
    rw [q4]
    have q5 := mul_bd (a := (4 * (t * t) * w - 4 * t * (1 - t * t) * α) * (d * d)) (b := (4 * (t * t) * w - 4 * t * (1 - t * t) * α) * (d * d)) (A := 4 * α) (B := 4 * α) (by grind) (by grind) (by grind) (by grind)
    grind
  refine ⟨c, s, hcs, ?_, fun i hi => ?_⟩
  · rw [rot_off hp hq hpq hcs hs, ha, eα]; grind
  · rw [ha, eα]
    by_cases hip : i = p
    · subst hip
      refine hΔ _ ?_
      rw [r1, hx]
      have : c * (c * x + s * a) + s * (c * a + s * y) - x = (c * c + s * s - 1) * x + (s * s * (y - x) + 2 * (c * s) * a) := by grind
      rw [this, hcs]; grind
    · by_cases hiq : i = q
      · subst hiq
        have q1 := hΔ (-(rot p i c s A i i - A i i)) (by
          rw [r2, hy]
          have : -(-s * (-s * x + c * a) + c * (-s * a + c * y) - y) = -((c * c + s * s - 1) * y) + (s * s * (y - x) + 2 * (c * s) * a) := by grind
          rw [this, hcs]; grind)
        grind
      · rw [rot_else c s A hip hiq]
        have := sq_nonneg α
        grind
/-- The greatest place beside the diagonal is no small part. -/
theorem off_big {n : Nat} {A : Nat → Nat → Rat} (h : 0 < off n A) : ∃ p q, p < n ∧ q < n ∧ p ≠ q ∧ off n A ≤ 2 * ((n : Rat) * (n : Rat)) * (A p q * A p q) := by
  refine Classical.byContradiction fun hc => ?_
  have hall : ∀ p q, p < n → q < n → p ≠ q → 2 * ((n : Rat) * (n : Rat)) * (A p q * A p q) ≤ off n A := fun p q hp hq hpq => by
    refine Classical.byContradiction fun h2 => hc ⟨p, q, hp, hq, hpq, by grind⟩
  have hn : n ≠ 0 := fun e => by
    subst e
    exact absurd (show (0 : Rat) < 0 by rw [off_is] at h; exact h) (by grind)
  have hN : (0 : Rat) < (n : Rat) := Rat.natCast_lt_natCast.2 (show 0 < n by omega)
  have hN2 : 0 < (n : Rat) * (n : Rat) := Rat.mul_pos hN hN
  -- all together
  have e1 : sm n (fun i => sm n fun j => 2 * ((n : Rat) * (n : Rat)) * (if i = j then 0 else A i j * A i j)) ≤ sm n fun _ => sm n fun _ => off n A := sm_le fun i hi => sm_le fun j hj => by
    by_cases q : i = j
    · rw [if_pos q]; grind
    · rw [if_neg q]; exact hall i j hi hj q
  rw [sm_const, sm_const, sm_congr (fun i _ => sm_mul n (2 * ((n : Rat) * (n : Rat))) fun j => if i = j then 0 else A i j * A i j), sm_mul, ← off_is] at e1
  have := Rat.mul_pos hN2 h
  grind
def oneTurn (n : Nat) (A A' : Nat → Nat → Rat) : Prop := off n A' ≤ (1 - 2 * (3 / (8 * ((n : Rat) * (n : Rat))))) * off n A ∧ ∀ i, i < n → (A' i i - A i i) * (A' i i - A i i) ≤ 16 * off n A
theorem turn_ex {n : Nat} (hn : 0 < n) {M A : Nat → Nat → Rat} (hS : Sy n A) (hO : Ort n M A) (hT : ∀ k, tr n (pw n A k) = tr n (pw n M k)) : ∃ A', (Sy n A' ∧ Ort n M A' ∧ ∀ k, tr n (pw n A' k) = tr n (pw n M k)) ∧ oneTurn n A A' := by
  have h0 := off_nonneg n A
  have hN : (0 : Rat) < (n : Rat) := Rat.natCast_lt_natCast.2 hn
  have hN2 : 0 < (n : Rat) * (n : Rat) := Rat.mul_pos hN hN
  rcases Classical.em (off n A = 0) with q | q
  · refine ⟨A, ⟨hS, hO, hT⟩, by rw [q]; grind, fun i _ => by rw [q]; grind⟩
  · obtain ⟨p, r, hp, hr, hpr, hb⟩ := off_big (show 0 < off n A by grind)
    have ha : A p r ≠ 0 := fun e => by rw [e] at hb; grind
    obtain ⟨c, s, h1, h2, h3⟩ := one_turn hp hr hpr hS ha
    have ht := off_term A hp hr hpr
    refine ⟨rot p r c s A, ⟨rot_sym hp hr hS, rot_ort hp hr hpr h1 hO, fun k => by rw [rot_trs hp hr hpr h1]; exact hT k⟩, ?_, fun i hi => by have := h3 i hi; grind⟩
    refine Rat.le_trans h2 ?_
    have e1 : 3 / (8 * ((n : Rat) * (n : Rat))) * (2 * ((n : Rat) * (n : Rat)) * (A p r * A p r)) = 3 / 4 * (A p r * A p r) := by
      have : (n : Rat) * (n : Rat) ≠ 0 := by grind
      grind
    have e2 : 0 ≤ 3 / (8 * ((n : Rat) * (n : Rat))) := by
      rw [Rat.div_def]
      exact Rat.mul_nonneg (by decide) (Rat.le_of_lt (Rat.inv_pos.2 (by grind)))
    have e3 := Rat.mul_le_mul_of_nonneg_left hb e2
    rw [e1] at e3
    grind
def idQ (i a : Nat) : Rat := if a = i then 1 else 0
theorem idQ_ne {i a : Nat} (h : a ≠ i) : idQ i a = 0 := if_neg h
theorem idQ_eq (i : Nat) : idQ i i = 1 := if_pos rfl
theorem ort_self (n : Nat) (M : Nat → Nat → Rat) : Ort n M M := by
  refine ⟨idQ, fun i j hi hj => ?_, fun i j hi _ => ?_⟩
  · rw [sm_one hi fun a _ ha => by rw [sm_congr (g := fun _ => 0) fun b _ => by rw [idQ_ne ha]; grind, sm_zero], sm_one hj fun b _ hb => by rw [idQ_ne hb]; grind, idQ_eq, idQ_eq]
    grind
  · rw [sm_one hi fun a _ ha => by rw [idQ_ne ha]; grind, idQ_eq]
    by_cases q : i = j
    · subst q; rw [if_pos rfl, idQ_eq]; grind
    · rw [if_neg q, idQ_ne q]; grind
/-- A road, step by step. -/
theorem road_ex {α : Type} {P : α → Prop} {R : α → α → Prop} {a : α} (h0 : P a) (h : ∀ x, P x → ∃ y, P y ∧ R x y) : ∃ f : Nat → α, f 0 = a ∧ ∀ j, P (f j) ∧ R (f j) (f (j + 1)) := by
  let step : {x : α // P x} → {x : α // P x} := fun x => ⟨Classical.choose (h x.1 x.2), (Classical.choose_spec (h x.1 x.2)).1⟩
  let g : Nat → {x : α // P x} := fun j => Nat.rec ⟨a, h0⟩ (fun _ x => step x) j
  exact ⟨fun j => (g j).1, rfl, fun j => ⟨(g j).2, (Classical.choose_spec (h (g j).1 (g j).2)).2⟩⟩
def pwr (x : Rat) : Nat → Rat
  | 0 => 1
  | k + 1 => x * pwr x k
theorem pwr_nonneg {x : Rat} (h : 0 ≤ x) : ∀ k, 0 ≤ pwr x k
  | 0 => by show (0 : Rat) ≤ 1; decide
  | k + 1 => Rat.mul_nonneg h (pwr_nonneg h k)
theorem pwr_bern {x : Rat} (h0 : 0 ≤ x) (h1 : x ≤ 1) : ∀ k : Nat, pwr (1 - x) k * (1 + k * x) ≤ 1
  | 0 => by show (1 : Rat) * (1 + ((0 : Nat) : Rat) * x) ≤ 1; grind
  | k + 1 => by
    have ih := pwr_bern h0 h1 k
    have p := pwr_nonneg (show 0 ≤ 1 - x by grind) k
    have kk : (0 : Rat) ≤ (k : Rat) := Rat.natCast_nonneg
    have q1 : 0 ≤ pwr (1 - x) k * ((k + 1) * (x * x)) := Rat.mul_nonneg p (Rat.mul_nonneg (by grind) (sq_nonneg x))
    show (1 - x) * pwr (1 - x) k * (1 + ((k + 1 : Nat) : Rat) * x) ≤ 1
    rw [Rat.natCast_add]
    grind
theorem pwr_nul {x : Rat} (h0 : 0 < x) (h1 : x ≤ 1) : Nul (pwr (1 - x)) := fun e he => by
  obtain ⟨N, hN⟩ := arch (1 / (e * x))
  have hex : 0 < e * x := Rat.mul_pos he h0
  have e1 : 1 / (e * x) * (e * x) = 1 := by have : e * x ≠ 0 := by grind
                                            grind
  refine ⟨N, fun k hk => ?_⟩
  have p := pwr_nonneg (show 0 ≤ 1 - x by grind) k
  refine ⟨by grind, ?_⟩
  have b := pwr_bern (Rat.le_of_lt h0) h1 k
  have hk2 : (N : Rat) ≤ (k : Rat) := Rat.natCast_le_natCast.2 hk
  have b2 := Rat.mul_le_mul_of_nonneg_right (Rat.le_trans hN hk2) (Rat.le_of_lt hex)
  rw [e1] at b2
  -- 1 <= k e x
  refine Classical.byContradiction fun hc => ?_
  have b3 : 0 ≤ (pwr (1 - x) k - e) * (1 + k * x) := Rat.mul_nonneg (by grind) (by have : (0 : Rat) ≤ (k : Rat) * x := Rat.mul_nonneg Rat.natCast_nonneg (Rat.le_of_lt h0); grind)
  grind
theorem sq_le {u v : Rat} (h : u * u ≤ v * v) (hv : 0 ≤ v) : -v ≤ u ∧ u ≤ v := by
  constructor
  · refine Classical.byContradiction fun hc => ?_
    have h1 := Rat.mul_nonneg hv (show 0 ≤ -u - v by grind)
    have h2 := Rat.mul_pos (show 0 < -u - v by grind) (show 0 < -u by grind)
    grind
  · refine Classical.byContradiction fun hc => ?_
    have h1 := Rat.mul_nonneg hv (show 0 ≤ u - v by grind)
    have h2 := Rat.mul_pos (show 0 < u - v by grind) (show 0 < u by grind)
    grind
theorem nul_bound {u v : Nat → Rat} (h : ∀ j, -v j ≤ u j ∧ u j ≤ v j) (hv : Nul v) : Nul u := fun e he => by
  obtain ⟨J, hJ⟩ := hv e he
  exact ⟨J, fun j hj => by have := hJ j hj; have := h j; grind⟩
theorem cau_bound {u g : Nat → Rat} (h : ∀ j, -(g j - g (j + 1)) ≤ u (j + 1) - u j ∧ u (j + 1) - u j ≤ g j - g (j + 1)) (hg : Nul g) : Cau u := fun e he => by
  have key : ∀ j m, -(g j - g (j + m)) ≤ u (j + m) - u j ∧ u (j + m) - u j ≤ g j - g (j + m) := fun j m => by
    induction m with
    | zero => rw [Nat.add_zero]; grind
    | succ m ih => have := h (j + m); rw [show j + (m + 1) = j + m + 1 by omega]; grind
  obtain ⟨J, hJ⟩ := hg (e / 4) (by grind)
  refine ⟨J, fun i j hi hj => ?_⟩
  have k1 := key J (i - J)
  have k2 := key J (j - J)
  rw [show J + (i - J) = i by omega] at k1
  rw [show J + (j - J) = j by omega] at k2
  have := hJ i hi
  have := hJ j hj
  have := hJ J (Nat.le_refl _)
  grind
/-- A SYMMETRIC TABLE SETTLES ON ITS DIAGONAL. -/
theorem settles {n : Nat} (hn : 0 < n) {M : Nat → Nat → Rat} (hS : Sy n M) : ∃ A : Nat → Nat → Nat → Rat, (∀ j, Sy n (A j) ∧ Ort n M (A j) ∧ ∀ k, tr n (pw n (A j) k) = tr n (pw n M k)) ∧ (∀ i, i < n → Cau fun j => A j i i) ∧ ∀ i k, i < n → k < n → i ≠ k → Nul fun j => A j i k := by
  obtain ⟨A, hA0, hA⟩ := road_ex (α := Nat → Nat → Rat) (P := fun A => Sy n A ∧ Ort n M A ∧ ∀ k, tr n (pw n A k) = tr n (pw n M k)) (R := oneTurn n) (a := M) ⟨hS, ort_self n M, fun _ => rfl⟩ (fun A h => turn_ex hn h.1 h.2.1 h.2.2)
  have hN : (1 : Rat) ≤ (n : Rat) := Rat.natCast_le_natCast.2 (show 1 ≤ n from hn)
  have hN2 : 1 ≤ (n : Rat) * (n : Rat) := by
    have := Rat.mul_nonneg (show 0 ≤ (n : Rat) - 1 by grind) (show 0 ≤ (n : Rat) by grind)
    grind
  obtain ⟨x, hx⟩ : ∃ x, 3 / (8 * ((n : Rat) * (n : Rat))) = x := ⟨_, rfl⟩
  have hx0 : 0 < x := by
    rw [← hx, Rat.div_def]
    exact Rat.mul_pos (by decide) (Rat.inv_pos.2 (by grind))
  have hx1 : x ≤ 1 / 2 := by
    have e : x * (8 * ((n : Rat) * (n : Rat))) = 3 := by
      rw [← hx]
      have : 8 * ((n : Rat) * (n : Rat)) ≠ 0 := by grind
      grind
    have := Rat.mul_nonneg (show 0 ≤ x by grind) (show 0 ≤ (n : Rat) * (n : Rat) - 1 by grind)
    grind
  have hR : ∀ j, off n (A (j + 1)) ≤ (1 - 2 * x) * off n (A j) ∧ ∀ i, i < n → (A (j + 1) i i - A j i i) * (A (j + 1) i i - A j i i) ≤ 16 * off n (A j) := fun j => by
    have := (hA j).2
    unfold oneTurn at this
    rw [hx] at this
    exact this
  obtain ⟨K, hK⟩ : ∃ K, 1 + off n M = K := ⟨_, rfl⟩
  have hM0 := off_nonneg n M
  have hp0 : ∀ j, 0 ≤ pwr (1 - x) j := pwr_nonneg (by grind)
  have hoff : ∀ j, off n (A j) ≤ K * pwr (1 - x) j * (K * pwr (1 - x) j) := fun j => by
    induction j with
    | zero =>
      rw [hA0]
      show off n M ≤ K * 1 * (K * 1)
      rw [← hK]
      have := Rat.mul_nonneg hM0 hM0
      grind
    | succ j ih =>
      refine Rat.le_trans (hR j).1 ?_
      show _ ≤ K * ((1 - x) * pwr (1 - x) j) * (K * ((1 - x) * pwr (1 - x) j))
      have h1 := Rat.mul_le_mul_of_nonneg_left ih (show 0 ≤ 1 - 2 * x by grind)
      have h2 := Rat.mul_nonneg (sq_nonneg x) (sq_nonneg (K * pwr (1 - x) j))
      grind
  have hKp : ∀ j, 0 ≤ K * pwr (1 - x) j := fun j => Rat.mul_nonneg (by grind) (hp0 j)
  have hnul : ∀ c, Nul fun j => c * pwr (1 - x) j := fun c => nul_congr (nul_mul (pwr_nul hx0 (by grind)) (cau_bdd (cau_const c))) fun j => by grind
  refine ⟨A, fun j => (hA j).1, fun i hi => ?_, fun i k hi hk hik => ?_⟩
  · obtain ⟨y, hy⟩ : ∃ y, 4 * K / x = y := ⟨_, rfl⟩
    have hyx : y * x = 4 * K := by rw [← hy]; have : x ≠ 0 := by grind
                                   grind
    refine cau_bound (g := fun j => y * pwr (1 - x) j) (fun j => ?_) (hnul y)
    have e : y * pwr (1 - x) j - y * pwr (1 - x) (j + 1) = 4 * (K * pwr (1 - x) j) := by
      show y * pwr (1 - x) j - y * ((1 - x) * pwr (1 - x) j) = _
      have : y * pwr (1 - x) j - y * ((1 - x) * pwr (1 - x) j) = (y * x) * pwr (1 - x) j := by grind
      rw [this, hyx]; grind
    show -(y * pwr (1 - x) j - y * pwr (1 - x) (j + 1)) ≤ _ ∧ _ ≤ y * pwr (1 - x) j - y * pwr (1 - x) (j + 1)
    rw [e]
    refine sq_le (Rat.le_trans ((hR j).2 i hi) ?_) (by have := hKp j; grind)
    have := hoff j
    grind
  · refine nul_bound (v := fun j => K * pwr (1 - x) j) (fun j => ?_) (hnul K)
    exact sq_le (Rat.le_trans (off_term (A j) hi hk hik) (hoff j)) (hKp j)
end Go.Proofs.Ytlcogbcpmneknaa
