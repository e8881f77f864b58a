/- Sums, and a turn in a plane that makes a symmetric table's places beside the diagonal less; plain mathematics. -/
import Derived.Test.YtlcogbcpmneknaaSY1
namespace Go.Proofs.Ytlcogbcpmneknaa

def sm : Nat → (Nat → Rat) → Rat
  | 0, _ => 0
  | n + 1, f => sm n f + f n
theorem sm_congr {n : Nat} {f g : Nat → Rat} (h : ∀ i, i < n → f i = g i) : sm n f = sm n g := by
  induction n with
  | zero => rfl
  | succ n ih => show sm n f + f n = sm n g + g n; rw [ih fun i hi => h i (by omega), h n (by omega)]
theorem sm_zero (n : Nat) : sm n (fun _ => 0) = 0 := by
  induction n with
  | zero => rfl
  | succ n ih => show sm n _ + 0 = 0; rw [ih]; grind
theorem sm_add (n : Nat) (f g : Nat → Rat) : sm n (fun i => f i + g i) = sm n f + sm n g := by
  induction n with
  | zero => show (0 : Rat) = 0 + 0; grind
  | succ n ih => show sm n _ + (f n + g n) = sm n f + f n + (sm n g + g n); rw [ih]; grind
theorem sm_mul (n : Nat) (k : Rat) (f : Nat → Rat) : sm n (fun i => k * f i) = k * sm n f := by
  induction n with
  | zero => show (0 : Rat) = k * 0; grind
  | succ n ih => show sm n _ + k * f n = k * (sm n f + f n); rw [ih]; grind
theorem sm_swap (n m : Nat) (f : Nat → Nat → Rat) : sm n (fun i => sm m (fun j => f i j)) = sm m (fun j => sm n (fun i => f i j)) := by
  induction n with
  | zero => exact (sm_zero m).symm
  | succ n ih => show sm n _ + sm m (f n) = sm m (fun j => sm n (fun i => f i j) + f n j); rw [sm_add, ih]
theorem sm_le {n : Nat} {f g : Nat → Rat} (h : ∀ i, i < n → f i ≤ g i) : sm n f ≤ sm n g := by
  induction n with
  | zero => exact Rat.le_refl
  | succ n ih => show sm n f + f n ≤ sm n g + g n; have := ih fun i hi => h i (by omega); have := h n (by omega); grind
theorem sm_nonneg {n : Nat} {f : Nat → Rat} (h : ∀ i, i < n → 0 ≤ f i) : 0 ≤ sm n f := by
  have := sm_le (n := n) (f := fun _ => 0) (g := f) h
  rw [sm_zero] at this; exact this
theorem sm_term {n : Nat} {f : Nat → Rat} (h : ∀ i, i < n → 0 ≤ f i) {k : Nat} (hk : k < n) : f k ≤ sm n f := by
  induction n with
  | zero => omega
  | succ n ih =>
    show f k ≤ sm n f + f n
    have h0 := sm_nonneg (n := n) (f := f) fun i hi => h i (by omega)
    rcases Nat.lt_or_ge k n with q | q
    · have := ih (fun i hi => h i (by omega)) q
      have := h n (by omega)
      grind
    · rw [show k = n by omega]; grind
theorem sm_const (n : Nat) (k : Rat) : sm n (fun _ => k) = n * k := by
  induction n with
  | zero => show (0 : Rat) = ((0 : Nat) : Rat) * k; grind
  | succ n ih => show sm n _ + k = ((n + 1 : Nat) : Rat) * k; rw [ih, Rat.natCast_add]; grind
/-- Only one place is not nought. -/
theorem sm_one {n : Nat} {f : Nat → Rat} {p : Nat} (hp : p < n) (h : ∀ i, i < n → i ≠ p → f i = 0) : sm n f = f p := by
  induction n with
  | zero => omega
  | succ n ih =>
    show sm n f + f n = f p
    rcases Nat.lt_or_ge p n with q | q
    · rw [ih q fun i hi hn => h i (by omega) hn, h n (by omega) (by omega)]; grind
    · obtain rfl : p = n := by omega
      rw [sm_congr (g := fun _ => 0) fun i hi => h i (by omega) (by omega), sm_zero]; grind
/-- Two sums that differ at two places alone. -/
theorem sm_two {n p q : Nat} {f g : Nat → Rat} (hp : p < n) (hq : q < n) (hpq : p ≠ q) (h : ∀ i, i < n → i ≠ p → i ≠ q → f i = g i) : sm n f - sm n g = f p - g p + (f q - g q) := by
  have e1 : sm n f - sm n g = sm n (fun i => f i + -1 * g i) := by rw [sm_add, sm_mul]; grind
  have e2 : sm n (fun i => f i + -1 * g i) = sm n (fun i => (if i = p then f p - g p else 0) + (if i = q then f q - g q else 0)) := sm_congr fun i hi => by
    by_cases h1 : i = p
    · subst h1; rw [if_pos rfl, if_neg hpq]; grind
    · by_cases h2 : i = q
      · subst h2; rw [if_neg h1, if_pos rfl]; grind
      · rw [if_neg h1, if_neg h2, h i hi h1 h2]; grind
  rw [e1, e2, sm_add, sm_one hp (fun i _ hi => if_neg hi), sm_one hq (fun i _ hi => if_neg hi), if_pos rfl, if_pos rfl]
/-- A turn in the plane of p and q. -/
def rv (p q : Nat) (c s : Rat) (f : Nat → Rat) (i : Nat) : Rat := if i = p then c * f p + s * f q else if i = q then -s * f p + c * f q else f i
def rot (p q : Nat) (c s : Rat) (A : Nat → Nat → Rat) (i j : Nat) : Rat := rv p q c s (fun a => rv p q c s (A a) j) i
section
variable {n p q : Nat} {c s : Rat} (hp : p < n) (hq : q < n) (hpq : p ≠ q) (h1 : c * c + s * s = 1)
include hp hq hpq h1
theorem rv_dot (f g : Nat → Rat) : sm n (fun i => rv p q c s f i * rv p q c s g i) = sm n (fun i => f i * g i) := by
  have := sm_two (f := fun i => rv p q c s f i * rv p q c s g i) (g := fun i => f i * g i) hp hq hpq fun i _ a b => by simp only [rv, if_neg a, if_neg b]
  have e1 : rv p q c s f p = c * f p + s * f q := if_pos rfl
  have e2 : rv p q c s f q = -s * f p + c * f q := by unfold rv; rw [if_neg (Ne.symm hpq), if_pos rfl]
  have e3 : rv p q c s g p = c * g p + s * g q := if_pos rfl
  have e4 : rv p q c s g q = -s * g p + c * g q := by unfold rv; rw [if_neg (Ne.symm hpq), if_pos rfl]
  rw [e1, e2, e3, e4] at this
  have e5 : (c * f p + s * f q) * (c * g p + s * g q) - f p * g p + ((-s * f p + c * f q) * (-s * g p + c * g q) - f q * g q) = 0 := by grind
  rw [e5] at this
  grind
end
theorem rv_lin (p q : Nat) (c s : Rat) (f g : Nat → Rat) (k : Rat) (i : Nat) : rv p q c s (fun a => f a + k * g a) i = rv p q c s f i + k * rv p q c s g i := by
  unfold rv; split
  · grind
  · split <;> grind
theorem rv_sm (p q : Nat) (c s : Rat) (n : Nat) (f : Nat → Nat → Rat) (i : Nat) : rv p q c s (fun a => sm n (f a)) i = sm n (fun b => rv p q c s (fun a => f a b) i) := by
  induction n with
  | zero => show rv p q c s (fun _ => 0) i = 0; unfold rv; split; grind; split <;> grind
  | succ n ih =>
    show rv p q c s (fun a => sm n (f a) + f a n) i = _ + rv p q c s (fun a => f a n) i
    rw [← ih]
    have := rv_lin p q c s (fun a => sm n (f a)) (fun a => f a n) 1 i
    rw [show (fun a => sm n (f a) + 1 * f a n) = fun a => sm n (f a) + f a n from funext fun a => by grind] at this
    rw [this]; grind
theorem rv_mul (p q : Nat) (c s : Rat) (f : Nat → Rat) (k : Rat) (i : Nat) : rv p q c s (fun a => f a * k) i = rv p q c s f i * k := by
  unfold rv; split
  · grind
  · split <;> grind
theorem rv_swap (p q : Nat) (c s : Rat) (A : Nat → Nat → Rat) (i j : Nat) : rv p q c s (fun a => rv p q c s (A a) j) i = rv p q c s (fun b => rv p q c s (fun a => A a b) i) j := by
  unfold rv; split <;> split <;> (try split) <;> (try split) <;> (try rfl) <;> grind
theorem rot_sym {n p q : Nat} {c s : Rat} {A : Nat → Nat → Rat} (hp : p < n) (hq : q < n) (h : ∀ i j, i < n → j < n → A i j = A j i) : ∀ i j, i < n → j < n → rot p q c s A i j = rot p q c s A j i := fun i j hi hj => by
  unfold rot rv
  have e0 := h p q hp hq
  have e1 := h i p hi hp
  have e2 := h i q hi hq
  have e3 := h j p hj hp
  have e4 := h j q hj hq
  have e5 := h i j hi hj
  split <;> split <;> (try split) <;> (try split) <;> (try subst_vars) <;> grind
/-- The squares of all places together. -/
def fro (n : Nat) (A : Nat → Nat → Rat) : Rat := sm n fun i => sm n fun j => A i j * A i j
def dgs (n : Nat) (A : Nat → Nat → Rat) : Rat := sm n fun i => A i i * A i i
def off (n : Nat) (A : Nat → Nat → Rat) : Rat := fro n A - dgs n A
theorem off_is (n : Nat) (A : Nat → Nat → Rat) : off n A = sm n fun i => sm n fun j => if i = j then 0 else A i j * A i j := by
  have e1 : off n A = sm n fun i => (sm n fun j => A i j * A i j) + -1 * (A i i * A i i) := by unfold off fro dgs; rw [sm_add, sm_mul]; grind
  rw [e1]
  refine sm_congr fun i hi => ?_
  have e2 : A i i * A i i = sm n fun j => if j = i then A i j * A i j else 0 := by rw [sm_one hi fun j _ hj => if_neg hj, if_pos rfl]
  rw [e2, ← sm_mul, ← sm_add]
  refine sm_congr fun j _ => ?_
  by_cases h : i = j
  · subst h; rw [if_pos rfl, if_pos rfl]; grind
  · rw [if_neg h, if_neg (Ne.symm h)]; grind
theorem sq_nonneg (x : Rat) : 0 ≤ x * x := by
  rcases Classical.em (0 ≤ x) with h | h
  · exact Rat.mul_nonneg h h
  · have := Rat.mul_nonneg (show 0 ≤ -x by grind) (show 0 ≤ -x by grind); grind
theorem off_term {n : Nat} (A : Nat → Nat → Rat) {i j : Nat} (hi : i < n) (hj : j < n) (hij : i ≠ j) : A i j * A i j ≤ off n A := by
  rw [off_is]
  have h0 : ∀ i j : Nat, 0 ≤ (if i = j then 0 else A i j * A i j) := fun i j => by split; exact Rat.le_refl; exact sq_nonneg _
  have a1 := sm_term (n := n) (f := fun j => if i = j then 0 else A i j * A i j) (fun j _ => h0 i j) hj
  rw [if_neg hij] at a1
  exact Rat.le_trans a1 (sm_term (n := n) (f := fun i => sm n fun j => if i = j then 0 else A i j * A i j) (fun i _ => sm_nonneg fun j _ => h0 i j) hi)
theorem off_nonneg (n : Nat) (A : Nat → Nat → Rat) : 0 ≤ off n A := by
  rw [off_is]
  exact sm_nonneg fun i _ => sm_nonneg fun j _ => by split; exact Rat.le_refl; exact sq_nonneg _
theorem rot_fro {n p q : Nat} {c s : Rat} (hp : p < n) (hq : q < n) (hpq : p ≠ q) (h1 : c * c + s * s = 1) (A : Nat → Nat → Rat) : fro n (rot p q c s A) = fro n A := by
  unfold fro
  have e1 : ∀ i, i < n → (sm n fun j => rot p q c s A i j * rot p q c s A i j) = sm n fun b => rv p q c s (fun a => A a b) i * rv p q c s (fun a => A a b) i := fun i _ => by
    rw [← rv_dot hp hq hpq h1 (fun b => rv p q c s (fun a => A a b) i) (fun b => rv p q c s (fun a => A a b) i)]
    refine sm_congr fun j _ => ?_
    have e : rot p q c s A i j = rv p q c s (fun b => rv p q c s (fun a => A a b) i) j := rv_swap p q c s A i j
    rw [e]
  rw [sm_congr e1, sm_swap, sm_congr (fun b _ => rv_dot hp hq hpq h1 (fun a => A a b) (fun a => A a b)), sm_swap]
theorem rot_at {p q : Nat} (c s : Rat) (hpq : p ≠ q) (A : Nat → Nat → Rat) : rot p q c s A p p = c * (c * A p p + s * A p q) + s * (c * A q p + s * A q q) ∧ rot p q c s A q q = -s * (-s * A p p + c * A p q) + c * (-s * A q p + c * A q q) ∧ rot p q c s A p q = c * (-s * A p p + c * A p q) + s * (-s * A q p + c * A q q) := by
  unfold rot rv
  simp [Ne.symm hpq]
theorem rot_else {p q : Nat} (c s : Rat) (A : Nat → Nat → Rat) {i : Nat} (hip : i ≠ p) (hiq : i ≠ q) : rot p q c s A i i = A i i := by
  unfold rot rv
  simp [hip, hiq]
/-- The places beside the diagonal, behind a turn. -/
theorem rot_off {n p q : Nat} {c s : Rat} (hp : p < n) (hq : q < n) (hpq : p ≠ q) (h1 : c * c + s * s = 1) {A : Nat → Nat → Rat} (hs : A q p = A p q) : off n (rot p q c s A) = off n A - 2 * (A p q * A p q) + 2 * (rot p q c s A p q * rot p q c s A p q) := by
  unfold off
  rw [rot_fro hp hq hpq h1]
  have e := sm_two (f := fun i => rot p q c s A i i * rot p q c s A i i) (g := fun i => A i i * A i i) hp hq hpq fun i _ a b => by rw [rot_else c s A a b]
  have e2 : dgs n (rot p q c s A) - dgs n A = _ := e
  obtain ⟨r1, r2, r3⟩ := rot_at c s hpq A
  rw [r1, r2, hs] at e2
  rw [r3, hs]
  grind
/-- A number between, by small steps. -/
theorem between {g : Nat → Rat} {e : Rat} {N : Nat} (hs : ∀ k, k < N → g k - g (k + 1) ≤ e) (h0 : e < g 0) (hN : g N ≤ e) : ∃ k, k ≤ N ∧ 0 ≤ g k ∧ g k ≤ e := by
  have key : ∀ k, k ≤ N → (e < g k) ∨ ∃ k, k ≤ N ∧ 0 ≤ g k ∧ g k ≤ e := fun k => by
    induction k with
    | zero => exact fun _ => Or.inl h0
    | succ k ih =>
      intro hk
      rcases ih (by omega) with q | q
      · have := hs k (by omega)
        rcases Classical.em (e < g (k + 1)) with r | r
        · exact Or.inl r
        · exact Or.inr ⟨k + 1, hk, by grind, by grind⟩
      · exact Or.inr q
  rcases key N (Nat.le_refl _) with q | q
  · grind
  · exact q
theorem arch (x : Rat) : ∃ N : Nat, x ≤ (N : Rat) := by
  refine ⟨x.ceil.toNat, ?_⟩
  have h1 : x ≤ ((x.ceil : Int) : Rat) := Rat.le_ceil
  have h2 : ((x.ceil : Int) : Rat) ≤ ((x.ceil.toNat : Nat) : Rat) := by
    rw [← Rat.intCast_natCast]
    exact Rat.intCast_le_intCast.2 (by omega)
  exact Rat.le_trans h1 h2
/-- How far to turn. -/
theorem turn {a w : Rat} (ha : 0 < a) (hw : 0 ≤ w) : ∃ t : Rat, 0 ≤ t ∧ 2 * t ≤ 1 ∧ -(a / 2) ≤ (1 - 6 * (t * t) + t * t * (t * t)) * a - 2 * t * (1 - t * t) * w ∧ (1 - 6 * (t * t) + t * t * (t * t)) * a - 2 * t * (1 - t * t) * w ≤ a / 2 ∧ t * w ≤ a := by
  obtain ⟨N0, hN0⟩ := arch ((8 * a + 4 * w) / a)
  obtain ⟨N, hN, hNe⟩ : ∃ N : Nat, 0 < N ∧ (N : Rat) = N0 + 1 := ⟨N0 + 1, by omega, by rw [Rat.natCast_add]; rfl⟩
  have hNp : (0 : Rat) < (N : Rat) := by
    have : ((0 : Nat) : Rat) < (N : Rat) := Rat.natCast_lt_natCast.2 hN
    exact this
  have hK : 8 * a + 4 * w ≤ (N : Rat) * a := by
    have ha0 : a ≠ 0 := by grind
    have e1 : (8 * a + 4 * w) / a * a = 8 * a + 4 * w := by grind
    have e2 := Rat.mul_le_mul_of_nonneg_right (show (8 * a + 4 * w) / a ≤ (N : Rat) by grind) (show 0 ≤ a by grind)
    grind
  obtain ⟨h, hh⟩ : ∃ h : Rat, 1 / (2 * (N : Rat)) = h := ⟨_, rfl⟩
  have hN0' : (N : Rat) ≠ 0 := by grind
  have hh2 : 2 * (N : Rat) * h = 1 := by rw [← hh]; grind
  have hhp : 0 < h := by
    rw [← hh, Rat.div_def]
    exact Rat.mul_pos (by decide) (Rat.inv_pos.2 (by grind))
  have hst : h * (8 * a + 4 * w) ≤ a / 2 := by
    have q1 := Rat.mul_le_mul_of_nonneg_left hK (show 0 ≤ h by grind)
    have q2 : h * ((N : Rat) * a) = a / 2 := by
      have q3 : 2 * (h * ((N : Rat) * a)) = 2 * (N : Rat) * h * a := by clear hh; grind
      rw [hh2] at q3
      clear hh hN0 hK q1
      grind
    rw [q2] at q1
    exact q1
  let G : Rat → Rat := fun t => (1 - 6 * (t * t) + t * t * (t * t)) * a - 2 * t * (1 - t * t) * w
  have hG : ∀ t, G t = (1 - 6 * (t * t) + t * t * (t * t)) * a - 2 * t * (1 - t * t) * w := fun _ => rfl
  have hle : ∀ k : Nat, k ≤ N → 0 ≤ (k : Rat) * h ∧ 2 * ((k : Rat) * h) ≤ 1 := fun k hk => by
    have k0 : (0 : Rat) ≤ (k : Rat) := Rat.natCast_nonneg
    have k1 : (k : Rat) ≤ (N : Rat) := Rat.natCast_le_natCast.2 hk
    have := Rat.mul_nonneg k0 (show 0 ≤ h by grind)
    have := Rat.mul_le_mul_of_nonneg_right k1 (show 0 ≤ h by grind)
    grind
  obtain ⟨k, hk, g0, g1⟩ := between (g := fun k => G ((k : Rat) * h)) (e := a / 2) (N := N) (fun k hk => by
    obtain ⟨t0, t1⟩ := hle k (by omega)
    obtain ⟨u0, u1⟩ := hle (k + 1) hk
    obtain ⟨t, ht⟩ : ∃ t, (k : Rat) * h = t := ⟨_, rfl⟩
    have hu : ((k + 1 : Nat) : Rat) * h = t + h := by rw [Rat.natCast_add]; grind
    show G ((k : Rat) * h) - G (((k + 1 : Nat) : Rat) * h) ≤ a / 2
    rw [hu] at u0 u1 ⊢
    rw [ht] at t0 t1 ⊢
    rw [hG, hG]
    obtain ⟨u, hu2⟩ : ∃ u, t + h = u := ⟨_, rfl⟩
    rw [hu2] at u0 u1 ⊢
    have b1 : 0 ≤ (1 - (t + u)) * a := Rat.mul_nonneg (by grind) (by grind)
    have tt := sq_nonneg t
    have uu := sq_nonneg u
    have tu := Rat.mul_nonneg t0 u0
    have b2 : 0 ≤ (t + u) * (t * t + u * u) * a := Rat.mul_nonneg (Rat.mul_nonneg (by grind) (by grind)) (by grind)
    have b3 : 0 ≤ w * (t * t + t * u + u * u) := Rat.mul_nonneg hw (by grind)
    have b4 : 0 ≤ h * ((8 * a + 4 * w) - (6 * (t + u) * a - (t + u) * (t * t + u * u) * a + 2 * w - 2 * (w * (t * t + t * u + u * u)))) := Rat.mul_nonneg (by grind) (by grind)
    have e : (1 - 6 * (t * t) + t * t * (t * t)) * a - 2 * t * (1 - t * t) * w - ((1 - 6 * (u * u) + u * u * (u * u)) * a - 2 * u * (1 - u * u) * w) = h * (6 * (t + u) * a - (t + u) * (t * t + u * u) * a + 2 * w - 2 * (w * (t * t + t * u + u * u))) := by
      rw [← hu2]; grind
    rw [e]
    grind) (by
    show a / 2 < G (((0 : Nat) : Rat) * h)
    rw [show ((0 : Nat) : Rat) * h = 0 by grind, hG]
    grind) (by
    show G ((N : Rat) * h) ≤ a / 2
    rw [show (N : Rat) * h = 1 / 2 by grind, hG]
    grind)
  obtain ⟨t0, t1⟩ := hle k hk
  obtain ⟨t, ht⟩ : ∃ t, (k : Rat) * h = t := ⟨_, rfl⟩
  have g0' : 0 ≤ G ((k : Rat) * h) := g0
  have g1' : G ((k : Rat) * h) ≤ a / 2 := g1
  rw [ht] at t0 t1 g0' g1'
  rw [hG] at g0' g1'
  refine ⟨t, t0, t1, by grind, g1', ?_⟩
  have tt := sq_nonneg t
  have t4 : 0 ≤ (1 / 4 - t * t) := by
    have := Rat.mul_nonneg (show 0 ≤ 1 / 2 - t by grind) (show 0 ≤ 1 / 2 + t by grind)
    grind
  have b1 : 0 ≤ t * w * (1 / 4 - t * t) := Rat.mul_nonneg (Rat.mul_nonneg t0 hw) t4
  have b2 : 0 ≤ t * t * (6 - t * t) * a := Rat.mul_nonneg (Rat.mul_nonneg tt (by grind)) (by grind)
  grind
end Go.Proofs.Ytlcogbcpmneknaa
