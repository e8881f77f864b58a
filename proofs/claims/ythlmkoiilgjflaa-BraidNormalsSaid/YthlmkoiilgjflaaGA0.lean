/- Permutations of few places as rows of numbers; the greatest beginning that may go over to the one ahead: plain mathematics. -/
import Derived.Test.YthlmkoiilgjflaaBase
namespace Go.Proofs.Ythlmkoiilgjflaa

/-- What stands at a place. -/
def pa (p : List Nat) (i : Nat) : Nat := p.getD i 0
/-- A row of n numbers. -/
def pk (n : Nat) (f : Nat → Nat) : List Nat := (List.range n).map f
theorem pk_len (n : Nat) (f : Nat → Nat) : (pk n f).length = n := by simp [pk]
theorem pk_at {n : Nat} {f : Nat → Nat} {i : Nat} (h : i < n) : pa (pk n f) i = f i := by
  unfold pa pk
  simp [List.getD_eq_getElem?_getD, h]
theorem pa_ext {n : Nat} {p q : List Nat} (hp : p.length = n) (hq : q.length = n) (h : ∀ i, i < n → pa p i = pa q i) : p = q := by
  apply List.ext_getElem (by omega)
  intro i h1 h2
  have := h i (by omega)
  unfold pa at this
  rw [List.getD_eq_getElem?_getD, List.getD_eq_getElem?_getD, List.getElem?_eq_getElem h1, List.getElem?_eq_getElem h2] at this
  exact this
/-- A permutation of the numbers below n. -/
structure IsP (n : Nat) (p : List Nat) : Prop where
  len : p.length = n
  lt : ∀ i, i < n → pa p i < n
  inj : ∀ i j, i < n → j < n → pa p i = pa p j → i = j
  sur : ∀ j, j < n → ∃ i, i < n ∧ pa p i = j
/-- The other way round. -/
def pv (n : Nat) (p : List Nat) : List Nat := pk n fun j => p.findIdx (· == j)
theorem pv_at {n : Nat} {p : List Nat} (h : IsP n p) {i : Nat} (hi : i < n) : pa (pv n p) (pa p i) = i := by
  unfold pv
  rw [pk_at (h.lt i hi)]
  have hil : i < p.length := by rw [h.len]; exact hi
  have hg : ∀ j (hj : j < p.length), p[j] = pa p j := fun j hj => by unfold pa; rw [List.getD_eq_getElem?_getD, List.getElem?_eq_getElem hj]; rfl
  rw [List.findIdx_eq hil]
  refine ⟨by rw [hg]; simp, fun j hj => ?_⟩
  rw [hg]
  simp only [beq_eq_false_iff_ne]
  intro e
  have := h.inj j i (by omega) hi e
  omega
theorem pv_lt {n : Nat} {p : List Nat} (h : IsP n p) {j : Nat} (hj : j < n) : pa (pv n p) j < n ∧ pa p (pa (pv n p) j) = j := by
  obtain ⟨i, hi, rfl⟩ := h.sur j hj
  rw [pv_at h hi]
  exact ⟨hi, rfl⟩
theorem IsP.pv {n : Nat} {p : List Nat} (h : IsP n p) : IsP n (pv n p) := by
  refine ⟨pk_len _ _, fun i hi => (pv_lt h hi).1, fun i j hi hj e => ?_, fun j hj => ⟨pa p j, h.lt j hj, pv_at h hj⟩⟩
  rw [← (pv_lt h hi).2, ← (pv_lt h hj).2, e]
/-- One behind the other. -/
def pm (n : Nat) (p q : List Nat) : List Nat := pk n fun i => pa q (pa p i)
theorem pm_at {n : Nat} {p q : List Nat} {i : Nat} (h : i < n) : pa (pm n p q) i = pa q (pa p i) := pk_at h
theorem IsP.pm {n : Nat} {p q : List Nat} (hp : IsP n p) (hq : IsP n q) : IsP n (pm n p q) := by
  refine ⟨pk_len _ _, fun i hi => ?_, fun i j hi hj e => ?_, fun j hj => ?_⟩
  · rw [pm_at hi]; exact hq.lt _ (hp.lt _ hi)
  · rw [pm_at hi, pm_at hj] at e
    exact hp.inj i j hi hj (hq.inj _ _ (hp.lt _ hi) (hp.lt _ hj) e)
  · obtain ⟨k, hk, rfl⟩ := hq.sur j hj
    obtain ⟨i, hi, rfl⟩ := hp.sur k hk
    exact ⟨i, hi, pm_at hi⟩
theorem pm_assoc {n : Nat} {p q r : List Nat} (hp : IsP n p) : pm n (pm n p q) r = pm n p (pm n q r) :=
  pa_ext (pk_len _ _) (pk_len _ _) fun i hi => by rw [pm_at hi, pm_at hi, pm_at hi, pm_at (hp.lt i hi)]
theorem pv_pm {n : Nat} {x p : List Nat} (hx : IsP n x) (hp : IsP n p) {k : Nat} (hk : k < n) : pa (pv n (pm n x p)) k = pa (pv n x) (pa (pv n p) k) := by
  obtain ⟨h1, h2⟩ := pv_lt hp hk
  obtain ⟨h3, h4⟩ := pv_lt hx h1
  have : pa (pm n x p) (pa (pv n x) (pa (pv n p) k)) = k := by rw [pm_at h3, h4, h2]
  have h5 := pv_at (hx.pm hp) h3
  rw [this] at h5
  exact h5
theorem pm_cancel {n : Nat} {p q r : List Nat} (hp : IsP n p) (hq : IsP n q) (hr : IsP n r) (h : pm n p q = pm n p r) : q = r :=
  pa_ext hq.len hr.len fun i hi => by
    obtain ⟨h1, h2⟩ := pv_lt hp hi
    have := congrArg (fun l => pa l (pa (pv n p) i)) h
    simp only [pm_at h1, h2] at this
    exact this
/-- None changes places. -/
def pid (n : Nat) : List Nat := pk n fun i => i
theorem pid_at {n i : Nat} (h : i < n) : pa (pid n) i = i := pk_at h
theorem isP_pid (n : Nat) : IsP n (pid n) := ⟨pk_len _ _, fun i hi => by rw [pid_at hi]; exact hi, fun i j hi hj e => by rwa [pid_at hi, pid_at hj] at e, fun j hj => ⟨j, hj, pid_at hj⟩⟩
theorem pm_pid {n : Nat} {p : List Nat} (hp : IsP n p) : pm n p (pid n) = p := pa_ext (pk_len _ _) hp.len fun i hi => by rw [pm_at hi, pid_at (hp.lt i hi)]
theorem pid_pm {n : Nat} {p : List Nat} (hp : IsP n p) : pm n (pid n) p = p := pa_ext (pk_len _ _) hp.len fun i hi => by rw [pm_at hi, pid_at hi]
theorem pv_pid {n k : Nat} (h : k < n) : pa (pv n (pid n)) k = k := by
  have := pv_at (isP_pid n) h
  rwa [pid_at h] at this
theorem pm_pv {n : Nat} {p : List Nat} (hp : IsP n p) : pm n p (pv n p) = pid n := pa_ext (pk_len _ _) (pk_len _ _) fun i hi => by rw [pm_at hi, pv_at hp hi, pid_at hi]
theorem pv_pm_self {n : Nat} {p : List Nat} (hp : IsP n p) : pm n (pv n p) p = pid n := pa_ext (pk_len _ _) (pk_len _ _) fun i hi => by rw [pm_at hi, (pv_lt hp hi).2, pid_at hi]
theorem pv_pv {n : Nat} {p : List Nat} (hp : IsP n p) : pv n (pv n p) = p := pa_ext (pk_len _ _) hp.len fun i hi => by
  have := pv_at hp.pv (hp.lt i hi)
  rwa [pv_at hp hi] at this

/-- What changes places in x goes on changed behind p. -/
def Add (n : Nat) (x p : List Nat) : Prop := ∀ a b, a < b → b < n → pa x b < pa x a → pa p (pa x b) < pa p (pa x a)
/-- With what y begins x ends. -/
def Sd (n : Nat) (x y : List Nat) : Prop := ∀ i, i + 1 < n → pa y (i + 1) < pa y i → pa (pv n x) (i + 1) < pa (pv n x) i
/-- What changes places in p does so in y. -/
def LeP (n : Nat) (p y : List Nat) : Prop := ∀ c d, c < d → d < n → pa p d < pa p c → pa y d < pa y c
theorem add_bx {n : Nat} {x p : List Nat} (hx : IsP n x) (hp : IsP n p) : Add n x p ↔ ∀ c d, c < d → d < n → pa p d < pa p c → pa (pv n x) c < pa (pv n x) d := by
  constructor
  · intro h c d hcd hd hlt
    obtain ⟨a1, a2⟩ := pv_lt hx (show c < n by omega)
    obtain ⟨b1, b2⟩ := pv_lt hx hd
    rcases Nat.lt_trichotomy (pa (pv n x) c) (pa (pv n x) d) with g | g | g
    · exact g
    · rw [g, b2] at a2; omega
    · have := h _ _ g a1 (by rw [a2, b2]; exact hcd)
      rw [a2, b2] at this
      omega
  · intro h a b hab hb hlt
    have h1 := hx.lt a (by omega)
    have h2 := hx.lt b hb
    rcases Nat.lt_trichotomy (pa p (pa x b)) (pa p (pa x a)) with g | g | g
    · exact g
    · have := hp.inj _ _ h2 h1 g; omega
    · have := h _ _ hlt h1 g
      rw [pv_at hx (i := a) (by omega), pv_at hx hb] at this
      omega
theorem add_le {n : Nat} {p y : List Nat} : Add n p y ↔ LeP n p (pm n p y) := by
  constructor
  · intro h c d hcd hd hlt
    rw [pm_at hd, pm_at (by omega)]
    exact h c d hcd hd hlt
  · intro h a b hab hb hlt
    have := h a b hab hb hlt
    rwa [pm_at hb, pm_at (by omega)] at this

/-- The meeting of what goes behind two ways of one. -/
theorem kk (n : Nat) (f q p g t m : Nat → Nat) (hm1 : ∀ a, a < n → m a = p (f a)) (hm2 : ∀ a, a < n → m a = g (q a)) (fl : ∀ a, a < n → f a < n) (ql : ∀ a, a < n → q a < n)
    (fi : ∀ a b, a < n → b < n → f a = f b → a = b) (qi : ∀ a b, a < n → b < n → q a = q b → a = b) (mi : ∀ a b, a < n → b < n → m a = m b → a = b)
    (A1 : ∀ a b, a < b → b < n → f b < f a → m b < m a) (A2 : ∀ a b, a < b → b < n → q b < q a → m b < m a)
    (P : ∀ c d, c < d → d < n → p d < p c → t (p d) < t (p c)) (G : ∀ c d, c < d → d < n → g d < g c → t (g d) < t (g c))
    (N : ∀ i, i + 1 < n → f (i + 1) < f i → q (i + 1) < q i → False) : ∀ k a b, b ≤ a + k → a < b → b < n → m b < m a → t (m b) < t (m a)
  | 0, a, b, h1, h2, _, _ => by omega
  | k + 1, a, b, h1, h2, hb, hm => by
    have ih := kk n f q p g t m hm1 hm2 fl ql fi qi mi A1 A2 P G N k
    have ha : a < n := by omega
    refine Nat.lt_of_not_le fun hno => ?_
    have hf : f b < f a := by
      rcases Nat.lt_trichotomy (f a) (f b) with e | e | e
      · have := P _ _ e (fl b hb) (by rw [← hm1 a ha, ← hm1 b hb]; exact hm)
        rw [← hm1 a ha, ← hm1 b hb] at this
        omega
      · have := fi a b ha hb e; omega
      · exact e
    have hq : q b < q a := by
      rcases Nat.lt_trichotomy (q a) (q b) with e | e | e
      · have := G _ _ e (ql b hb) (by rw [← hm2 a ha, ← hm2 b hb]; exact hm)
        rw [← hm2 a ha, ← hm2 b hb] at this
        omega
      · have := qi a b ha hb e; omega
      · exact e
    have mid : ∀ c, a < c → c < b → (f a < f c ∧ q a < q c) ∨ (f c < f b ∧ q c < q b) := by
      intro c hac hcb
      have hc : c < n := by omega
      rcases Nat.lt_trichotomy (m a) (m c) with e | e | e
      · refine Or.inl ⟨?_, ?_⟩
        · rcases Nat.lt_trichotomy (f a) (f c) with e2 | e2 | e2
          · exact e2
          · have := fi a c ha hc e2; omega
          · have := A1 a c hac hc e2; omega
        · rcases Nat.lt_trichotomy (q a) (q c) with e2 | e2 | e2
          · exact e2
          · have := qi a c ha hc e2; omega
          · have := A2 a c hac hc e2; omega
      · have := mi a c ha hc e; omega
      · rcases Nat.lt_trichotomy (m c) (m b) with e2 | e2 | e2
        · refine Or.inr ⟨?_, ?_⟩
          · rcases Nat.lt_trichotomy (f c) (f b) with e3 | e3 | e3
            · exact e3
            · have := fi c b hc hb e3; omega
            · have := A1 c b hcb hb e3; omega
          · rcases Nat.lt_trichotomy (q c) (q b) with e3 | e3 | e3
            · exact e3
            · have := qi c b hc hb e3; omega
            · have := A2 c b hcb hb e3; omega
        · have := mi c b hc hb e2; omega
        · have i1 := ih a c (by omega) hac hc e
          have i2 := ih c b (by omega) hcb hb e2
          omega
    have walk : ∀ j, a + j ≤ b → f a ≤ f (a + j) ∧ q a ≤ q (a + j) := by
      intro j
      induction j with
      | zero => intro _; exact ⟨Nat.le_refl _, Nat.le_refl _⟩
      | succ j ihj =>
        intro hj
        obtain ⟨w1, w2⟩ := ihj (by omega)
        have low : f (a + (j + 1)) ≤ f b → q (a + (j + 1)) ≤ q b → False := fun l1 l2 => N (a + j) (by omega) (by rw [Nat.add_assoc]; omega) (by rw [Nat.add_assoc]; omega)
        by_cases e : a + (j + 1) = b
        · rw [e] at low
          exact (low (Nat.le_refl _) (Nat.le_refl _)).elim
        · rcases mid (a + (j + 1)) (by omega) (by omega) with c1 | c1
          · exact ⟨by omega, by omega⟩
          · exact (low (by omega) (by omega)).elim
    have := walk (b - a) (by omega)
    rw [show a + (b - a) = b by omega] at this
    omega

/-- What is settled is the greatest. -/
theorem mm (n : Nat) (y bx p p' pi : Nat → Nat) (hpi : ∀ c, c < n → pi (p c) = c ∧ p c < n) (hip : ∀ k, k < n → p (pi k) = k ∧ pi k < n)
    (LY : ∀ c d, c < d → d < n → p d < p c → y d < y c) (LB : ∀ c d, c < d → d < n → p d < p c → bx c < bx d)
    (S : ∀ k, k + 1 < n → y (pi (k + 1)) < y (pi k) → bx (pi (k + 1)) < bx (pi k))
    (LY' : ∀ c d, c < d → d < n → p' d < p' c → y d < y c) (LB' : ∀ c d, c < d → d < n → p' d < p' c → bx c < bx d) :
    ∀ g a b, a < b → b < n → p b ≤ p a + g → p' b < p' a → p b < p a
  | 0, a, b, h1, hb, h2, _ => by
    have e1 := hpi a (by omega)
    have e2 := hpi b hb
    rcases Nat.lt_or_ge (p b) (p a) with g | g
    · exact g
    · have : p a = p b := by omega
      rw [this, e2.1] at e1
      omega
  | g + 1, a, b, h1, hb, h2, hp' => by
    have ih := mm n y bx p p' pi hpi hip LY LB S LY' LB' g
    have ha : a < n := by omega
    have e1 := hpi a ha
    have e2 := hpi b hb
    refine Nat.lt_of_not_le fun hno => ?_
    have mid : ∀ c, a < c → c < b → p a < p c → p c < p b → False := by
      intro c hac hcb h3 h4
      rcases Nat.lt_or_ge (p' c) (p' a) with e | e
      · have := ih a c hac (by omega) (by omega) e; omega
      · have := ih c b hcb hb (by omega) (by omega); omega
    have walk : ∀ j, p a + j ≤ p b → pi (p a + j) ≤ a := by
      intro j
      induction j with
      | zero => intro _; rw [Nat.add_zero, e1.1]; exact Nat.le_refl _
      | succ j ihj =>
        intro hj
        have w1 := ihj (by omega)
        rw [show p a + (j + 1) = p a + j + 1 by omega]
        generalize hk : p a + j = k at w1
        have hk1 : k + 1 ≤ p b := by omega
        have u1 := hip k (by omega)
        have v1 := hip (k + 1) (by omega)
        refine Nat.le_of_not_lt fun hlt => ?_
        have hS := S k (by omega)
        generalize pi k = u at w1 u1 hS
        generalize pi (k + 1) = v at hlt v1 hS
        have hv : b ≤ v := by
          refine Nat.le_of_not_lt fun hvb => ?_
          by_cases e : k + 1 = p b
          · have h5 := (hpi v v1.2).1
            rw [v1.1, e, e2.1] at h5
            omega
          · exact mid v hlt hvb (by omega) (by omega)
        have hu : y a ≤ y u ∧ bx u ≤ bx a := by
          by_cases e : u = a
          · rw [e]; exact ⟨Nat.le_refl _, Nat.le_refl _⟩
          · have h6 : p a < p u := by
              have h5 := (hpi u u1.2).1
              rcases Nat.lt_or_ge (p a) (p u) with g | g
              · exact g
              · have : p u = p a := by omega
                rw [this, e1.1] at h5
                omega
            have h7 := LY u a (by omega) ha h6
            have h8 := LB u a (by omega) ha h6
            omega
        have hw : y v ≤ y b ∧ bx b ≤ bx v := by
          by_cases e : v = b
          · rw [e]; exact ⟨Nat.le_refl _, Nat.le_refl _⟩
          · have h6 : p v < p b := by
              have h5 := (hpi v v1.2).1
              rcases Nat.lt_or_ge (p v) (p b) with g | g
              · exact g
              · have : p v = p b := by omega
                rw [this, e2.1] at h5
                omega
            have h7 := LY b v (by omega) v1.2 h6
            have h8 := LB b v (by omega) v1.2 h6
            omega
        have h9 := LY' a b h1 hb hp'
        have h10 := LB' a b h1 hb hp'
        have h11 := hS (by omega)
        omega
    have := walk (p b - p a) (by omega)
    rw [show p a + (p b - p a) = p b by omega, e2.1] at this
    omega
theorem inv_eq {n : Nat} {p q : List Nat} (hp : IsP n p) (hq : IsP n q) (h1 : ∀ a b, a < b → b < n → pa p b < pa p a → pa q b < pa q a) (h2 : ∀ a b, a < b → b < n → pa q b < pa q a → pa p b < pa p a) : p = q := by
  have mono : ∀ k, k + 1 < n → pa q (pa (pv n p) k) < pa q (pa (pv n p) (k + 1)) := by
    intro k hk
    obtain ⟨u1, u2⟩ := pv_lt hp (show k < n by omega)
    obtain ⟨v1, v2⟩ := pv_lt hp hk
    generalize pa (pv n p) k = u at u1 u2
    generalize pa (pv n p) (k + 1) = v at v1 v2
    rcases Nat.lt_trichotomy u v with g | g | g
    · rcases Nat.lt_trichotomy (pa q u) (pa q v) with e | e | e
      · exact e
      · have := hq.inj u v u1 v1 e; omega
      · have := h2 u v g v1 e; omega
    · rw [g] at u2; omega
    · exact h1 v u g u1 (by omega)
  have up : ∀ k, k < n → k ≤ pa q (pa (pv n p) k) := by
    intro k
    induction k with
    | zero => intro _; exact Nat.zero_le _
    | succ k ih => intro hk; have := ih (by omega); have := mono k hk; omega
  have down : ∀ j k, k + j + 1 = n → pa q (pa (pv n p) k) + j < n := by
    intro j
    induction j with
    | zero => intro k hk; exact hq.lt _ (pv_lt hp (by omega)).1
    | succ j ih => intro k hk; have := ih (k + 1) (by omega); have := mono k (by omega); omega
  refine pa_ext hp.len hq.len fun i hi => ?_
  have h3 := up (pa p i) (hp.lt i hi)
  have h4 := down (n - 1 - pa p i) (pa p i) (by have := hp.lt i hi; omega)
  have h5 := hp.lt i hi
  rw [pv_at hp hi] at h3 h4
  omega

/-- What two neighbours settle to. -/
def Stl (n : Nat) (x y x' y' : List Nat) : Prop := ∃ p, IsP n p ∧ IsP n y' ∧ x' = pm n x p ∧ y = pm n p y' ∧ Add n x p ∧ Add n p y' ∧ Sd n x' y'
/-- The greatest one. -/
theorem stl_le {n : Nat} {x y p y' q : List Nat} (hx : IsP n x) (hp : IsP n p) (hq : IsP n q) (hy : y = pm n p y') (h1 : Add n x p) (h2 : Add n p y') (h3 : Sd n (pm n x p) y') (h4 : Add n x q) (h5 : LeP n q y) : LeP n q p := by
  have hle : LeP n p y := by rw [hy]; exact add_le.1 h2
  intro a b hab hb hlt
  refine mm n (pa y) (pa (pv n x)) (pa p) (pa q) (pa (pv n p)) (fun c hc => ⟨pv_at hp hc, hp.lt c hc⟩) (fun k hk => ⟨(pv_lt hp hk).2, (pv_lt hp hk).1⟩) hle ((add_bx hx hp).1 h1) (fun k hk hlt => ?_) h5 ((add_bx hx hq).1 h4) (pa p b) a b hab hb (by omega) hlt
  have := h3 k hk
  rw [pv_pm hx hp (by omega), pv_pm hx hp (by omega)] at this
  refine this ?_
  rw [hy, pm_at (pv_lt hp (by omega)).1, pm_at (pv_lt hp (by omega)).1, (pv_lt hp (by omega)).2, (pv_lt hp (by omega)).2] at hlt
  exact hlt
theorem stl_one {n : Nat} {x y x1 y1 x2 y2 : List Nat} (hx : IsP n x) (a : Stl n x y x1 y1) (b : Stl n x y x2 y2) : x1 = x2 ∧ y1 = y2 := by
  obtain ⟨p, p1, p2, rfl, p3, p4, p5, p6⟩ := a
  obtain ⟨q, q1, q2, rfl, q3, q4, q5, q6⟩ := b
  have e1 := stl_le hx p1 q1 p3 p4 p5 p6 q4 (by rw [q3]; exact add_le.1 q5)
  have e2 := stl_le hx q1 p1 q3 q4 q5 q6 p4 (by rw [p3]; exact add_le.1 p5)
  obtain rfl : p = q := inv_eq p1 q1 e2 e1
  exact ⟨rfl, pm_cancel p1 p2 q2 (p3.symm.trans q3)⟩
end Go.Proofs.Ythlmkoiilgjflaa
