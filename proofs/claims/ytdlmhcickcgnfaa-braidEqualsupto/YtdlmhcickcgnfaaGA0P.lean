/- Several texts of the proof, one behind the other. -/
import Derived.Test.YtdlmhcickcgnfaaBase
/- Permutations of few places as rows of numbers; the greatest beginning that may go over to the one ahead: plain mathematics. -/
namespace Go.Proofs.Ytdlmhcickcgnfaa

/-- What stands at a place. -/
def pa (p : List Nat) (i : Nat) : Nat := p.getD i 0
/-- A row of n numbers. -/
def pk (n : Nat) (f : Nat → Nat) : List Nat := (List.range n).map f
theorem pk_len (n : Nat) (f : Nat → Nat) : (pk n f).length = n := by simp [pk]
theorem pk_at {n : Nat} {f : Nat → Nat} {i : Nat} (h : i < n) : pa (pk n f) i = f i := by
  unfold pa pk
  simp [List.getD_eq_getElem?_getD, h]
theorem pa_ext {n : Nat} {p q : List Nat} (hp : p.length = n) (hq : q.length = n) (h : ∀ i, i < n → pa p i = pa q i) : p = q := by
  apply List.ext_getElem (by omega)
  intro i h1 h2
  have := h i (by omega)
  unfold pa at this
  rw [List.getD_eq_getElem?_getD, List.getD_eq_getElem?_getD, List.getElem?_eq_getElem h1, List.getElem?_eq_getElem h2] at this
  exact this
/-- A permutation of the numbers below n. -/
structure IsP (n : Nat) (p : List Nat) : Prop where
  len : p.length = n
  lt : ∀ i, i < n → pa p i < n
  inj : ∀ i j, i < n → j < n → pa p i = pa p j → i = j
  sur : ∀ j, j < n → ∃ i, i < n ∧ pa p i = j
/-- The other way round. -/
def pv (n : Nat) (p : List Nat) : List Nat := pk n fun j => p.findIdx (· == j)
theorem pv_at {n : Nat} {p : List Nat} (h : IsP n p) {i : Nat} (hi : i < n) : pa (pv n p) (pa p i) = i := by
  unfold pv
  rw [pk_at (h.lt i hi)]
  have hil : i < p.length := by rw [h.len]; exact hi
  have hg : ∀ j (hj : j < p.length), p[j] = pa p j := fun j hj => by unfold pa; rw [List.getD_eq_getElem?_getD, List.getElem?_eq_getElem hj]; rfl
  rw [List.findIdx_eq hil]
  refine ⟨by rw [hg]; simp, fun j hj => ?_⟩
  rw [hg]
  simp only [beq_eq_false_iff_ne]
  intro e
  have := h.inj j i (by omega) hi e
  omega
theorem pv_lt {n : Nat} {p : List Nat} (h : IsP n p) {j : Nat} (hj : j < n) : pa (pv n p) j < n ∧ pa p (pa (pv n p) j) = j := by
  obtain ⟨i, hi, rfl⟩ := h.sur j hj
  rw [pv_at h hi]
  exact ⟨hi, rfl⟩
theorem IsP.pv {n : Nat} {p : List Nat} (h : IsP n p) : IsP n (pv n p) := by
  refine ⟨pk_len _ _, fun i hi => (pv_lt h hi).1, fun i j hi hj e => ?_, fun j hj => ⟨pa p j, h.lt j hj, pv_at h hj⟩⟩
  rw [← (pv_lt h hi).2, ← (pv_lt h hj).2, e]
/-- One behind the other. -/
def pm (n : Nat) (p q : List Nat) : List Nat := pk n fun i => pa q (pa p i)
theorem pm_at {n : Nat} {p q : List Nat} {i : Nat} (h : i < n) : pa (pm n p q) i = pa q (pa p i) := pk_at h
theorem IsP.pm {n : Nat} {p q : List Nat} (hp : IsP n p) (hq : IsP n q) : IsP n (pm n p q) := by
  refine ⟨pk_len _ _, fun i hi => ?_, fun i j hi hj e => ?_, fun j hj => ?_⟩
  · rw [pm_at hi]; exact hq.lt _ (hp.lt _ hi)
  · rw [pm_at hi, pm_at hj] at e
    exact hp.inj i j hi hj (hq.inj _ _ (hp.lt _ hi) (hp.lt _ hj) e)
  · obtain ⟨k, hk, rfl⟩ := hq.sur j hj
    obtain ⟨i, hi, rfl⟩ := hp.sur k hk
    exact ⟨i, hi, pm_at hi⟩
theorem pm_assoc {n : Nat} {p q r : List Nat} (hp : IsP n p) : pm n (pm n p q) r = pm n p (pm n q r) :=
  pa_ext (pk_len _ _) (pk_len _ _) fun i hi => by rw [pm_at hi, pm_at hi, pm_at hi, pm_at (hp.lt i hi)]
theorem pv_pm {n : Nat} {x p : List Nat} (hx : IsP n x) (hp : IsP n p) {k : Nat} (hk : k < n) : pa (pv n (pm n x p)) k = pa (pv n x) (pa (pv n p) k) := by
  obtain ⟨h1, h2⟩ := pv_lt hp hk
  obtain ⟨h3, h4⟩ := pv_lt hx h1
  have : pa (pm n x p) (pa (pv n x) (pa (pv n p) k)) = k := by rw [pm_at h3, h4, h2]
  have h5 := pv_at (hx.pm hp) h3
  rw [this] at h5
  exact h5
theorem pm_cancel {n : Nat} {p q r : List Nat} (hp : IsP n p) (hq : IsP n q) (hr : IsP n r) (h : pm n p q = pm n p r) : q = r :=
  pa_ext hq.len hr.len fun i hi => by
    obtain ⟨h1, h2⟩ := pv_lt hp hi
    have := congrArg (fun l => pa l (pa (pv n p) i)) h
    simp only [pm_at h1, h2] at this
    exact this
/-- None changes places. -/
def pid (n : Nat) : List Nat := pk n fun i => i
theorem pid_at {n i : Nat} (h : i < n) : pa (pid n) i = i := pk_at h
theorem isP_pid (n : Nat) : IsP n (pid n) := ⟨pk_len _ _, fun i hi => by rw [pid_at hi]; exact hi, fun i j hi hj e => by rwa [pid_at hi, pid_at hj] at e, fun j hj => ⟨j, hj, pid_at hj⟩⟩
theorem pm_pid {n : Nat} {p : List Nat} (hp : IsP n p) : pm n p (pid n) = p := pa_ext (pk_len _ _) hp.len fun i hi => by rw [pm_at hi, pid_at (hp.lt i hi)]
theorem pid_pm {n : Nat} {p : List Nat} (hp : IsP n p) : pm n (pid n) p = p := pa_ext (pk_len _ _) hp.len fun i hi => by rw [pm_at hi, pid_at hi]
theorem pv_pid {n k : Nat} (h : k < n) : pa (pv n (pid n)) k = k := by
  have := pv_at (isP_pid n) h
  rwa [pid_at h] at this
theorem pm_pv {n : Nat} {p : List Nat} (hp : IsP n p) : pm n p (pv n p) = pid n := pa_ext (pk_len _ _) (pk_len _ _) fun i hi => by rw [pm_at hi, pv_at hp hi, pid_at hi]
theorem pv_pm_self {n : Nat} {p : List Nat} (hp : IsP n p) : pm n (pv n p) p = pid n := pa_ext (pk_len _ _) (pk_len _ _) fun i hi => by rw [pm_at hi, (pv_lt hp hi).2, pid_at hi]
theorem pv_pv {n : Nat} {p : List Nat} (hp : IsP n p) : pv n (pv n p) = p := pa_ext (pk_len _ _) hp.len fun i hi => by
  have := pv_at hp.pv (hp.lt i hi)
  rwa [pv_at hp hi] at this

/-- What changes places in x goes on changed behind p. -/
def Add (n : Nat) (x p : List Nat) : Prop := ∀ a b, a < b → b < n → pa x b < pa x a → pa p (pa x b) < pa p (pa x a)
/-- With what y begins x ends. -/
def Sd (n : Nat) (x y : List Nat) : Prop := ∀ i, i + 1 < n → pa y (i + 1) < pa y i → pa (pv n x) (i + 1) < pa (pv n x) i
/-- What changes places in p does so in y. -/
def LeP (n : Nat) (p y : List Nat) : Prop := ∀ c d, c < d → d < n → pa p d < pa p c → pa y d < pa y c
theorem add_bx {n : Nat} {x p : List Nat} (hx : IsP n x) (hp : IsP n p) : Add n x p ↔ ∀ c d, c < d → d < n → pa p d < pa p c → pa (pv n x) c < pa (pv n x) d := by
  constructor
  · intro h c d hcd hd hlt
    obtain ⟨a1, a2⟩ := pv_lt hx (show c < n by omega)
    obtain ⟨b1, b2⟩ := pv_lt hx hd
    rcases Nat.lt_trichotomy (pa (pv n x) c) (pa (pv n x) d) with g | g | g
    · exact g
    · rw [g, b2] at a2; omega
    · have := h _ _ g a1 (by rw [a2, b2]; exact hcd)
      rw [a2, b2] at this
      omega
  · intro h a b hab hb hlt
    have h1 := hx.lt a (by omega)
    have h2 := hx.lt b hb
    rcases Nat.lt_trichotomy (pa p (pa x b)) (pa p (pa x a)) with g | g | g
    · exact g
    · have := hp.inj _ _ h2 h1 g; omega
    · have := h _ _ hlt h1 g
      rw [pv_at hx (i := a) (by omega), pv_at hx hb] at this
      omega
theorem add_le {n : Nat} {p y : List Nat} : Add n p y ↔ LeP n p (pm n p y) := by
  constructor
  · intro h c d hcd hd hlt
    rw [pm_at hd, pm_at (by omega)]
    exact h c d hcd hd hlt
  · intro h a b hab hb hlt
    have := h a b hab hb hlt
    rwa [pm_at hb, pm_at (by omega)] at this

/-- The meeting of what goes behind two ways of one. -/
theorem kk (n : Nat) (f q p g t m : Nat → Nat) (hm1 : ∀ a, a < n → m a = p (f a)) (hm2 : ∀ a, a < n → m a = g (q a)) (fl : ∀ a, a < n → f a < n) (ql : ∀ a, a < n → q a < n)
    (fi : ∀ a b, a < n → b < n → f a = f b → a = b) (qi : ∀ a b, a < n → b < n → q a = q b → a = b) (mi : ∀ a b, a < n → b < n → m a = m b → a = b)
    (A1 : ∀ a b, a < b → b < n → f b < f a → m b < m a) (A2 : ∀ a b, a < b → b < n → q b < q a → m b < m a)
    (P : ∀ c d, c < d → d < n → p d < p c → t (p d) < t (p c)) (G : ∀ c d, c < d → d < n → g d < g c → t (g d) < t (g c))
    (N : ∀ i, i + 1 < n → f (i + 1) < f i → q (i + 1) < q i → False) : ∀ k a b, b ≤ a + k → a < b → b < n → m b < m a → t (m b) < t (m a)
  | 0, a, b, h1, h2, _, _ => by omega
  | k + 1, a, b, h1, h2, hb, hm => by
    have ih := kk n f q p g t m hm1 hm2 fl ql fi qi mi A1 A2 P G N k
    have ha : a < n := by omega
    refine Nat.lt_of_not_le fun hno => ?_
    have hf : f b < f a := by
      rcases Nat.lt_trichotomy (f a) (f b) with e | e | e
      · have := P _ _ e (fl b hb) (by rw [← hm1 a ha, ← hm1 b hb]; exact hm)
        rw [← hm1 a ha, ← hm1 b hb] at this
        omega
      · have := fi a b ha hb e; omega
      · exact e
    have hq : q b < q a := by
      rcases Nat.lt_trichotomy (q a) (q b) with e | e | e
      · have := G _ _ e (ql b hb) (by rw [← hm2 a ha, ← hm2 b hb]; exact hm)
        rw [← hm2 a ha, ← hm2 b hb] at this
        omega
      · have := qi a b ha hb e; omega
      · exact e
    have mid : ∀ c, a < c → c < b → (f a < f c ∧ q a < q c) ∨ (f c < f b ∧ q c < q b) := by
      intro c hac hcb
      have hc : c < n := by omega
      rcases Nat.lt_trichotomy (m a) (m c) with e | e | e
      · refine Or.inl ⟨?_, ?_⟩
        · rcases Nat.lt_trichotomy (f a) (f c) with e2 | e2 | e2
          · exact e2
          · have := fi a c ha hc e2; omega
          · have := A1 a c hac hc e2; omega
        · rcases Nat.lt_trichotomy (q a) (q c) with e2 | e2 | e2
          · exact e2
          · have := qi a c ha hc e2; omega
          · have := A2 a c hac hc e2; omega
      · have := mi a c ha hc e; omega
      · rcases Nat.lt_trichotomy (m c) (m b) with e2 | e2 | e2
        · refine Or.inr ⟨?_, ?_⟩
          · rcases Nat.lt_trichotomy (f c) (f b) with e3 | e3 | e3
            · exact e3
            · have := fi c b hc hb e3; omega
            · have := A1 c b hcb hb e3; omega
          · rcases Nat.lt_trichotomy (q c) (q b) with e3 | e3 | e3
            · exact e3
            · have := qi c b hc hb e3; omega
            · have := A2 c b hcb hb e3; omega
        · have := mi c b hc hb e2; omega
        · have i1 := ih a c (by omega) hac hc e
          have i2 := ih c b (by omega) hcb hb e2
          omega
    have walk : ∀ j, a + j ≤ b → f a ≤ f (a + j) ∧ q a ≤ q (a + j) := by
      intro j
      induction j with
      | zero => intro _; exact ⟨Nat.le_refl _, Nat.le_refl _⟩
      | succ j ihj =>
        intro hj
        obtain ⟨w1, w2⟩ := ihj (by omega)
        have low : f (a + (j + 1)) ≤ f b → q (a + (j + 1)) ≤ q b → False := fun l1 l2 => N (a + j) (by omega) (by rw [Nat.add_assoc]; omega) (by rw [Nat.add_assoc]; omega)
        by_cases e : a + (j + 1) = b
        · rw [e] at low
          exact (low (Nat.le_refl _) (Nat.le_refl _)).elim
        · rcases mid (a + (j + 1)) (by omega) (by omega) with c1 | c1
          · exact ⟨by omega, by omega⟩
          · exact (low (by omega) (by omega)).elim
    have := walk (b - a) (by omega)
    rw [show a + (b - a) = b by omega] at this
    omega

/-- What is settled is the greatest. -/
theorem mm (n : Nat) (y bx p p' pi : Nat → Nat) (hpi : ∀ c, c < n → pi (p c) = c ∧ p c < n) (hip : ∀ k, k < n → p (pi k) = k ∧ pi k < n)
    (LY : ∀ c d, c < d → d < n → p d < p c → y d < y c) (LB : ∀ c d, c < d → d < n → p d < p c → bx c < bx d)
    (S : ∀ k, k + 1 < n → y (pi (k + 1)) < y (pi k) → bx (pi (k + 1)) < bx (pi k))
    (LY' : ∀ c d, c < d → d < n → p' d < p' c → y d < y c) (LB' : ∀ c d, c < d → d < n → p' d < p' c → bx c < bx d) :
    ∀ g a b, a < b → b < n → p b ≤ p a + g → p' b < p' a → p b < p a
  | 0, a, b, h1, hb, h2, _ => by
    have e1 := hpi a (by omega)
    have e2 := hpi b hb
    rcases Nat.lt_or_ge (p b) (p a) with g | g
    · exact g
    · have : p a = p b := by omega
      rw [this, e2.1] at e1
      omega
  | g + 1, a, b, h1, hb, h2, hp' => by
    have ih := mm n y bx p p' pi hpi hip LY LB S LY' LB' g
    have ha : a < n := by omega
    have e1 := hpi a ha
    have e2 := hpi b hb
    refine Nat.lt_of_not_le fun hno => ?_
    have mid : ∀ c, a < c → c < b → p a < p c → p c < p b → False := by
      intro c hac hcb h3 h4
      rcases Nat.lt_or_ge (p' c) (p' a) with e | e
      · have := ih a c hac (by omega) (by omega) e; omega
      · have := ih c b hcb hb (by omega) (by omega); omega
    have walk : ∀ j, p a + j ≤ p b → pi (p a + j) ≤ a := by
      intro j
      induction j with
      | zero => intro _; rw [Nat.add_zero, e1.1]; exact Nat.le_refl _
      | succ j ihj =>
        intro hj
        have w1 := ihj (by omega)
        rw [show p a + (j + 1) = p a + j + 1 by omega]
        generalize hk : p a + j = k at w1
        have hk1 : k + 1 ≤ p b := by omega
        have u1 := hip k (by omega)
        have v1 := hip (k + 1) (by omega)
        refine Nat.le_of_not_lt fun hlt => ?_
        have hS := S k (by omega)
        generalize pi k = u at w1 u1 hS
        generalize pi (k + 1) = v at hlt v1 hS
        have hv : b ≤ v := by
          refine Nat.le_of_not_lt fun hvb => ?_
          by_cases e : k + 1 = p b
          · have h5 := (hpi v v1.2).1
            rw [v1.1, e, e2.1] at h5
            omega
          · exact mid v hlt hvb (by omega) (by omega)
        have hu : y a ≤ y u ∧ bx u ≤ bx a := by
          by_cases e : u = a
          · rw [e]; exact ⟨Nat.le_refl _, Nat.le_refl _⟩
          · have h6 : p a < p u := by
              have h5 := (hpi u u1.2).1
              rcases Nat.lt_or_ge (p a) (p u) with g | g
              · exact g
              · have : p u = p a := by omega
                rw [this, e1.1] at h5
                omega
            have h7 := LY u a (by omega) ha h6
            have h8 := LB u a (by omega) ha h6
            omega
        have hw : y v ≤ y b ∧ bx b ≤ bx v := by
          by_cases e : v = b
          · rw [e]; exact ⟨Nat.le_refl _, Nat.le_refl _⟩
          · have h6 : p v < p b := by
              have h5 := (hpi v v1.2).1
              rcases Nat.lt_or_ge (p v) (p b) with g | g
              · exact g
              · have : p v = p b := by omega
                rw [this, e2.1] at h5
                omega
            have h7 := LY b v (by omega) v1.2 h6
            have h8 := LB b v (by omega) v1.2 h6
            omega
        have h9 := LY' a b h1 hb hp'
        have h10 := LB' a b h1 hb hp'
        have h11 := hS (by omega)
        omega
    have := walk (p b - p a) (by omega)
    rw [show p a + (p b - p a) = p b by omega, e2.1] at this
    omega
theorem inv_eq {n : Nat} {p q : List Nat} (hp : IsP n p) (hq : IsP n q) (h1 : ∀ a b, a < b → b < n → pa p b < pa p a → pa q b < pa q a) (h2 : ∀ a b, a < b → b < n → pa q b < pa q a → pa p b < pa p a) : p = q := by
  have mono : ∀ k, k + 1 < n → pa q (pa (pv n p) k) < pa q (pa (pv n p) (k + 1)) := by
    intro k hk
    obtain ⟨u1, u2⟩ := pv_lt hp (show k < n by omega)
    obtain ⟨v1, v2⟩ := pv_lt hp hk
    generalize pa (pv n p) k = u at u1 u2
    generalize pa (pv n p) (k + 1) = v at v1 v2
    rcases Nat.lt_trichotomy u v with g | g | g
    · rcases Nat.lt_trichotomy (pa q u) (pa q v) with e | e | e
      · exact e
      · have := hq.inj u v u1 v1 e; omega
      · have := h2 u v g v1 e; omega
    · rw [g] at u2; omega
    · exact h1 v u g u1 (by omega)
  have up : ∀ k, k < n → k ≤ pa q (pa (pv n p) k) := by
    intro k
    induction k with
    | zero => intro _; exact Nat.zero_le _
    | succ k ih => intro hk; have := ih (by omega); have := mono k hk; omega
  have down : ∀ j k, k + j + 1 = n → pa q (pa (pv n p) k) + j < n := by
    intro j
    induction j with
    | zero => intro k hk; exact hq.lt _ (pv_lt hp (by omega)).1
    | succ j ih => intro k hk; have := ih (k + 1) (by omega); have := mono k (by omega); omega
  refine pa_ext hp.len hq.len fun i hi => ?_
  have h3 := up (pa p i) (hp.lt i hi)
  have h4 := down (n - 1 - pa p i) (pa p i) (by have := hp.lt i hi; omega)
  have h5 := hp.lt i hi
  rw [pv_at hp hi] at h3 h4
  omega

/-- What two neighbours settle to. -/
def Stl (n : Nat) (x y x' y' : List Nat) : Prop := ∃ p, IsP n p ∧ IsP n y' ∧ x' = pm n x p ∧ y = pm n p y' ∧ Add n x p ∧ Add n p y' ∧ Sd n x' y'
/-- The greatest one. -/
theorem stl_le {n : Nat} {x y p y' q : List Nat} (hx : IsP n x) (hp : IsP n p) (hq : IsP n q) (hy : y = pm n p y') (h1 : Add n x p) (h2 : Add n p y') (h3 : Sd n (pm n x p) y') (h4 : Add n x q) (h5 : LeP n q y) : LeP n q p := by
  have hle : LeP n p y := by rw [hy]; exact add_le.1 h2
  intro a b hab hb hlt
  refine mm n (pa y) (pa (pv n x)) (pa p) (pa q) (pa (pv n p)) (fun c hc => ⟨pv_at hp hc, hp.lt c hc⟩) (fun k hk => ⟨(pv_lt hp hk).2, (pv_lt hp hk).1⟩) hle ((add_bx hx hp).1 h1) (fun k hk hlt => ?_) h5 ((add_bx hx hq).1 h4) (pa p b) a b hab hb (by omega) hlt
  have := h3 k hk
  rw [pv_pm hx hp (by omega), pv_pm hx hp (by omega)] at this
  refine this ?_
  rw [hy, pm_at (pv_lt hp (by omega)).1, pm_at (pv_lt hp (by omega)).1, (pv_lt hp (by omega)).2, (pv_lt hp (by omega)).2] at hlt
  exact hlt
theorem stl_one {n : Nat} {x y x1 y1 x2 y2 : List Nat} (hx : IsP n x) (a : Stl n x y x1 y1) (b : Stl n x y x2 y2) : x1 = x2 ∧ y1 = y2 := by
  obtain ⟨p, p1, p2, rfl, p3, p4, p5, p6⟩ := a
  obtain ⟨q, q1, q2, rfl, q3, q4, q5, q6⟩ := b
  have e1 := stl_le hx p1 q1 p3 p4 p5 p6 q4 (by rw [q3]; exact add_le.1 q5)
  have e2 := stl_le hx q1 p1 q3 q4 q5 q6 p4 (by rw [p3]; exact add_le.1 p5)
  obtain rfl : p = q := inv_eq p1 q1 e2 e1
  exact ⟨rfl, pm_cancel p1 p2 q2 (p3.symm.trans q3)⟩
end Go.Proofs.Ytdlmhcickcgnfaa
/- Two neighbours settled, letter by letter; turned by Delta: plain mathematics. -/
namespace Go.Proofs.Ytdlmhcickcgnfaa

/-- Two neighbours changed for each other. -/
def swp (i j : Nat) : Nat := if j = i then i + 1 else if j = i + 1 then i else j
theorem swp_swp (i j : Nat) : swp i (swp i j) = j := by unfold swp; split <;> split <;> (try split) <;> omega
theorem swp_lt {n i j : Nat} (hi : i + 1 < n) (hj : j < n) : swp i j < n := by unfold swp; split <;> (try split) <;> omega
theorem swp_inj {i j k : Nat} (h : swp i j = swp i k) : j = k := by rw [← swp_swp i j, h, swp_swp]
theorem swp_mono {i u v : Nat} (h : u < v) (hn : ¬ (u = i ∧ v = i + 1)) : swp i u < swp i v := by unfold swp; (repeat' split) <;> omega
theorem swp_fst (i : Nat) : swp i i = i + 1 := by unfold swp; rw [if_pos rfl]
theorem swp_snd (i : Nat) : swp i (i + 1) = i := by unfold swp; rw [if_neg (by omega), if_pos rfl]
/-- A letter. -/
def psg (n i : Nat) : List Nat := pk n (swp i)
theorem psg_at {n i j : Nat} (h : j < n) : pa (psg n i) j = swp i j := pk_at h
theorem isP_psg {n i : Nat} (hi : i + 1 < n) : IsP n (psg n i) := ⟨pk_len _ _, fun j hj => by rw [psg_at hj]; exact swp_lt hi hj, fun j k hj hk e => by rw [psg_at hj, psg_at hk] at e; exact swp_inj e, fun j hj => ⟨swp i j, swp_lt hi hj, by rw [psg_at (swp_lt hi hj), swp_swp]⟩⟩
/-- A letter ahead of ends, or behind begins. -/
def psw (n : Nat) (l : List Nat) (i : Nat) : List Nat := pk n fun j => pa l (swp i j)
theorem psw_at {n i j : Nat} {l : List Nat} (h : j < n) : pa (psw n l i) j = pa l (swp i j) := pk_at h
theorem isP_psw {n i : Nat} {l : List Nat} (hi : i + 1 < n) (hl : IsP n l) : IsP n (psw n l i) := ⟨pk_len _ _, fun j hj => by rw [psw_at hj]; exact hl.lt _ (swp_lt hi hj), fun j k hj hk e => by rw [psw_at hj, psw_at hk] at e; exact swp_inj (hl.inj _ _ (swp_lt hi hj) (swp_lt hi hk) e), fun j hj => by
  obtain ⟨k, hk, rfl⟩ := hl.sur j hj
  exact ⟨swp i k, swp_lt hi hk, by rw [psw_at (swp_lt hi hk), swp_swp]⟩⟩
theorem psw_psg {n i : Nat} {l : List Nat} : psw n l i = pm n (psg n i) l := pa_ext (pk_len _ _) (pk_len _ _) fun j hj => by rw [psw_at hj, pm_at hj, psg_at hj]
theorem pv_pmg {n i : Nat} {x : List Nat} (hx : IsP n x) (hi : i + 1 < n) : psw n (pv n x) i = pv n (pm n x (psg n i)) := pa_ext (pk_len _ _) (pk_len _ _) fun j hj => by
  rw [psw_at hj, pv_pm hx (isP_psg hi) hj]
  have h1 := pv_at (isP_psg hi) (swp_lt hi hj)
  rw [psg_at (swp_lt hi hj), swp_swp] at h1
  rw [h1]

/-- The first letter that may go over. -/
def lsM (n : Nat) (b y : List Nat) : Option Nat := (List.range (n - 1)).find? fun i => decide (pa y (i + 1) < pa y i) && !decide (pa b (i + 1) < pa b i)
theorem lsM_none {n : Nat} {b y : List Nat} (h : lsM n b y = none) {i : Nat} (hi : i + 1 < n) (hy : pa y (i + 1) < pa y i) : pa b (i + 1) < pa b i := by
  have := List.find?_eq_none.1 h i (List.mem_range.2 (by omega))
  simpa [hy] using this
theorem lsM_some {n : Nat} {b y : List Nat} {i : Nat} (h : lsM n b y = some i) : i + 1 < n ∧ pa y (i + 1) < pa y i ∧ ¬ pa b (i + 1) < pa b i := by
  have h1 := List.find?_some h
  have h2 := List.mem_of_find?_eq_some h
  rw [List.mem_range] at h2
  simp only [Bool.and_eq_true, decide_eq_true_eq, Bool.not_eq_true', decide_eq_false_iff_not] at h1
  exact ⟨by omega, h1.1, h1.2⟩
/-- Letters go over, so many at most. -/
def stG (n : Nat) : Nat → List Nat → List Nat → List Nat × List Nat
  | 0, b, y => (b, y)
  | k + 1, b, y => match lsM n b y with
    | none => (b, y)
    | some i => stG n k (psw n b i) (psw n y i)
def pw (f : Nat → Nat) : Nat → Nat
  | 0 => 0
  | k + 1 => pw f k + k * f k
theorem pw_congr {f g : Nat → Nat} : ∀ k, (∀ j, j < k → f j = g j) → pw f k = pw g k
  | 0, _ => rfl
  | k + 1, h => by unfold pw; rw [pw_congr k (fun j hj => h j (by omega)), h k (by omega)]
theorem pw_swp {f : Nat → Nat} {i : Nat} (h : f (i + 1) < f i) : ∀ d, pw f (i + 2 + d) < pw (fun j => f (swp i j)) (i + 2 + d)
  | 0 => by
    show pw f i + i * f i + (i + 1) * f (i + 1) < pw (fun j => f (swp i j)) i + i * f (swp i i) + (i + 1) * f (swp i (i + 1))
    rw [swp_fst, swp_snd, pw_congr (f := fun j => f (swp i j)) (g := f) i (fun j hj => by show f (swp i j) = f j; unfold swp; rw [if_neg (by omega), if_neg (by omega)]), Nat.add_mul, Nat.add_mul, Nat.one_mul, Nat.one_mul]
    omega
  | d + 1 => by
    have := pw_swp h d
    show pw f (i + 2 + d) + (i + 2 + d) * f (i + 2 + d) < pw (fun j => f (swp i j)) (i + 2 + d) + (i + 2 + d) * f (swp i (i + 2 + d))
    rw [show swp i (i + 2 + d) = i + 2 + d by unfold swp; rw [if_neg (by omega), if_neg (by omega)]]
    omega
theorem pw_le {f : Nat → Nat} {n : Nat} : ∀ k, k ≤ n → (∀ j, j < k → f j < n) → pw f k ≤ k * (n * n)
  | 0, _, _ => Nat.zero_le _
  | k + 1, hk, h => by
    have h1 := pw_le k (by omega) (fun j hj => h j (by omega))
    have h2 : k * f k ≤ n * n := Nat.mul_le_mul (by omega) (Nat.le_of_lt (h k (by omega)))
    show pw f k + k * f k ≤ _
    rw [Nat.add_mul, Nat.one_mul]
    omega
/-- Two neighbours settled. -/
def settle (n : Nat) (x y : List Nat) : List Nat × List Nat := (pv n (stG n (n * (n * n)) (pv n x) y).1, (stG n (n * (n * n)) (pv n x) y).2)
/-- On the way. -/
def StI (n : Nat) (x y b c : List Nat) : Prop := ∃ p, IsP n p ∧ IsP n c ∧ b = pv n (pm n x p) ∧ y = pm n p c ∧ Add n x p ∧ Add n p c
theorem StI.step {n : Nat} {x y b c : List Nat} (hx : IsP n x) (h : StI n x y b c) {i : Nat} (hi : i + 1 < n) (h1 : pa c (i + 1) < pa c i) (h2 : ¬ pa b (i + 1) < pa b i) : StI n x y (psw n b i) (psw n c i) := by
  obtain ⟨p, p1, p2, rfl, rfl, p5, p6⟩ := h
  have hs := isP_psg (n := n) hi
  have hb : ∀ k, k < n → pa (pv n (pm n x p)) k = pa (pv n x) (pa (pv n p) k) := fun k hk => pv_pm hx p1 hk
  have key : ∀ c' d, c' < d → d < n → pa (pm n p (psg n i)) d < pa (pm n p (psg n i)) c' → pa p d < pa p c' ∨ (pa p c' = i ∧ pa p d = i + 1) := by
    intro c' d hcd hd hlt
    rw [pm_at hd, pm_at (by omega), psg_at (p1.lt _ hd), psg_at (p1.lt _ (by omega))] at hlt
    rcases Nat.lt_trichotomy (pa p c') (pa p d) with g | g | g
    · by_cases e : pa p c' = i ∧ pa p d = i + 1
      · exact Or.inr e
      · have := swp_mono g e; omega
    · have := p1.inj _ _ (by omega) hd g; omega
    · exact Or.inl g
  refine ⟨pm n p (psg n i), p1.pm hs, isP_psw hi p2, ?_, ?_, ?_, ?_⟩
  · rw [pv_pmg (hx.pm p1) hi, pm_assoc hx]
  · exact pa_ext (pk_len _ _) (pk_len _ _) fun k hk => by rw [pm_at hk, pm_at hk, psw_at ((p1.pm hs).lt k hk), pm_at hk, psg_at (p1.lt k hk), swp_swp]
  · rw [add_bx hx (p1.pm hs)]
    intro c' d hcd hd hlt
    rcases key c' d hcd hd hlt with g | ⟨g1, g2⟩
    · exact (add_bx hx p1).1 p5 c' d hcd hd g
    · rw [hb _ hi, hb _ (by omega)] at h2
      have e1 := pv_at p1 (show c' < n by omega)
      have e2 := pv_at p1 hd
      rw [g1] at e1
      rw [g2] at e2
      rw [e1, e2] at h2
      rcases Nat.lt_trichotomy (pa (pv n x) c') (pa (pv n x) d) with g | g | g
      · exact g
      · have := hx.pv.inj _ _ (by omega) hd g; omega
      · exact (h2 g).elim
  · intro c' d hcd hd hlt
    have hc : c' < n := by omega
    have h3 := key c' d hcd hd hlt
    rw [psw_at ((p1.pm hs).lt _ hd), psw_at ((p1.pm hs).lt _ hc), pm_at hd, pm_at hc, psg_at (p1.lt _ hd), psg_at (p1.lt _ hc), swp_swp, swp_swp]
    rcases h3 with g | ⟨g1, g2⟩
    · exact p6 c' d hcd hd g
    · rw [g1, g2]; exact h1
theorem stG_ok {n : Nat} {x y : List Nat} (hx : IsP n x) : ∀ k b c, StI n x y b c → n * (n * n) ≤ k + pw (pa c) n → StI n x y (stG n k b c).1 (stG n k b c).2 ∧ lsM n (stG n k b c).1 (stG n k b c).2 = none
  | 0, b, c, h, hk => by
    refine ⟨h, ?_⟩
    show lsM n b c = none
    cases e : lsM n b c with
    | none => rfl
    | some i =>
      exfalso
      obtain ⟨hi, h1, h2⟩ := lsM_some e
      obtain ⟨p, p1, p2, -⟩ := h
      have h3 := pw_swp h1 (n - (i + 2))
      rw [show i + 2 + (n - (i + 2)) = n by omega] at h3
      have h4 := pw_le (f := fun j => pa c (swp i j)) n (Nat.le_refl n) (fun j hj => p2.lt _ (swp_lt hi hj))
      omega
  | k + 1, b, c, h, hk => by
    unfold stG
    cases e : lsM n b c with
    | none => exact ⟨h, e⟩
    | some i =>
      obtain ⟨hi, h1, h2⟩ := lsM_some e
      refine stG_ok hx k _ _ (h.step hx hi h1 h2) ?_
      have h3 := pw_swp h1 (n - (i + 2))
      rw [show i + 2 + (n - (i + 2)) = n by omega] at h3
      rw [pw_congr (f := pa (psw n c i)) (g := fun j => pa c (swp i j)) n (fun j hj => psw_at hj)]
      omega
theorem StI.start {n : Nat} {x y : List Nat} (hx : IsP n x) (hy : IsP n y) : StI n x y (pv n x) y := by
  refine ⟨pid n, isP_pid n, hy, by rw [pm_pid hx], (pid_pm hy).symm, ?_, ?_⟩
  · rw [add_bx hx (isP_pid n)]
    intro c d hcd hd hlt
    rw [pid_at hd, pid_at (by omega)] at hlt
    omega
  · intro c d hcd hd hlt
    rw [pid_at hd, pid_at (by omega)] at hlt
    omega
theorem StI.fin {n : Nat} {x y b c : List Nat} (hx : IsP n x) (h : StI n x y b c) (he : lsM n b c = none) : Stl n x y (pv n b) c := by
  obtain ⟨p, p1, p2, rfl, p4, p5, p6⟩ := h
  rw [pv_pv (hx.pm p1)]
  exact ⟨p, p1, p2, rfl, p4, p5, p6, fun i hi hlt => lsM_none he hi hlt⟩
theorem stl_settle {n : Nat} {x y : List Nat} (hx : IsP n x) (hy : IsP n y) : Stl n x y (settle n x y).1 (settle n x y).2 := by
  have h := stG_ok hx (n * (n * n)) _ _ (StI.start hx hy) (by omega)
  exact h.1.fin hx h.2
theorem settle_is {n : Nat} {x y x' y' : List Nat} (hx : IsP n x) (hy : IsP n y) (h : Stl n x y x' y') : settle n x y = (x', y') := by
  have := stl_one hx (stl_settle hx hy) h
  exact Prod.ext this.1 this.2
theorem isP_settle {n : Nat} {x y : List Nat} (hx : IsP n x) (hy : IsP n y) : IsP n (settle n x y).1 ∧ IsP n (settle n x y).2 := by
  obtain ⟨p, p1, p2, p3, -⟩ := stl_settle hx hy
  exact ⟨by rw [p3]; exact hx.pm p1, p2⟩
theorem add_pid {n : Nat} {x : List Nat} (hx : IsP n x) : Add n x (pid n) := fun a b hab hb hlt => by
  rw [pid_at (hx.lt _ hb), pid_at (hx.lt _ (by omega))]
  exact hlt
theorem pid_add {n : Nat} {x : List Nat} : Add n (pid n) x := fun a b hab hb hlt => by
  rw [pid_at hb, pid_at (by omega)] at hlt
  omega
theorem sd_pid {n : Nat} {x : List Nat} : Sd n x (pid n) := fun i hi hlt => by
  rw [pid_at hi, pid_at (by omega)] at hlt
  omega
/-- What may go over goes over whole. -/
theorem settle_add {n : Nat} {y z : List Nat} (hy : IsP n y) (hz : IsP n z) (h : Add n y z) : settle n y z = (pm n y z, pid n) :=
  settle_is hy hz ⟨z, hz, isP_pid n, rfl, (pm_pid hz).symm, h, add_pid hz, sd_pid⟩
theorem settle_sd {n : Nat} {y z : List Nat} (hy : IsP n y) (hz : IsP n z) (h : Sd n y z) : settle n y z = (y, z) :=
  settle_is hy hz ⟨pid n, isP_pid n, hz, (pm_pid hy).symm, (pid_pm hz).symm, add_pid hy, pid_add, h⟩

/-- Delta. -/
def pdl (n : Nat) : List Nat := pk n fun i => n - 1 - i
theorem pdl_at {n i : Nat} (h : i < n) : pa (pdl n) i = n - 1 - i := pk_at h
theorem isP_pdl (n : Nat) : IsP n (pdl n) := ⟨pk_len _ _, fun i hi => by rw [pdl_at hi]; omega, fun i j hi hj e => by rw [pdl_at hi, pdl_at hj] at e; omega, fun j hj => ⟨n - 1 - j, by omega, by rw [pdl_at (by omega)]; omega⟩⟩
theorem pv_pdl {n : Nat} : pv n (pdl n) = pdl n := pa_ext (pk_len _ _) (pk_len _ _) fun i hi => by
  have := pv_at (isP_pdl n) (show n - 1 - i < n by omega)
  rw [pdl_at (by omega), show n - 1 - (n - 1 - i) = i by omega] at this
  rw [this, pdl_at hi]
/-- What it becomes on Delta's other side. -/
def pta (n : Nat) (x : List Nat) : List Nat := pk n fun i => n - 1 - pa x (n - 1 - i)
theorem pta_at {n i : Nat} {x : List Nat} (h : i < n) : pa (pta n x) i = n - 1 - pa x (n - 1 - i) := pk_at h
theorem isP_pta {n : Nat} {x : List Nat} (hx : IsP n x) : IsP n (pta n x) := by
  refine ⟨pk_len _ _, fun i hi => by rw [pta_at hi]; omega, fun i j hi hj e => ?_, fun j hj => ?_⟩
  · rw [pta_at hi, pta_at hj] at e
    have h1 := hx.lt (n - 1 - i) (by omega)
    have h2 := hx.lt (n - 1 - j) (by omega)
    have := hx.inj (n - 1 - i) (n - 1 - j) (by omega) (by omega) (by omega)
    omega
  · obtain ⟨k, hk, e⟩ := hx.sur (n - 1 - j) (by omega)
    refine ⟨n - 1 - k, by omega, ?_⟩
    rw [pta_at (by omega), show n - 1 - (n - 1 - k) = k by omega, e]
    omega
theorem pta_pta {n : Nat} {x : List Nat} (hx : IsP n x) : pta n (pta n x) = x := pa_ext (pk_len _ _) hx.len fun i hi => by
  have := hx.lt i hi
  rw [pta_at hi, pta_at (by omega), show n - 1 - (n - 1 - i) = i by omega]
  omega
theorem pta_pm {n : Nat} {x y : List Nat} (hx : IsP n x) : pta n (pm n x y) = pm n (pta n x) (pta n y) := pa_ext (pk_len _ _) (pk_len _ _) fun i hi => by
  have := hx.lt (n - 1 - i) (by omega)
  rw [pta_at hi, pm_at (by omega), pm_at hi, pta_at hi, pta_at (by omega), show n - 1 - (n - 1 - pa x (n - 1 - i)) = pa x (n - 1 - i) by omega]
theorem pv_pta {n : Nat} {x : List Nat} (hx : IsP n x) : pv n (pta n x) = pta n (pv n x) := pa_ext (pk_len _ _) (pk_len _ _) fun i hi => by
  obtain ⟨h1, h2⟩ := pv_lt hx (show n - 1 - i < n by omega)
  have := pv_at (isP_pta hx) (show n - 1 - pa (pv n x) (n - 1 - i) < n by omega)
  rw [pta_at (by omega), show n - 1 - (n - 1 - pa (pv n x) (n - 1 - i)) = pa (pv n x) (n - 1 - i) by omega, h2, show n - 1 - (n - 1 - i) = i by omega] at this
  rw [this, pta_at hi]
theorem add_pta {n : Nat} {x p : List Nat} (hx : IsP n x) (hp : IsP n p) (h : Add n x p) : Add n (pta n x) (pta n p) := by
  intro a b hab hb hlt
  have h1 := hx.lt (n - 1 - a) (by omega)
  have h2 := hx.lt (n - 1 - b) (by omega)
  rw [pta_at hb, pta_at (i := a) (by omega)] at hlt
  rw [pta_at hb, pta_at (i := a) (by omega)]
  rw [pta_at (by omega), pta_at (by omega), show n - 1 - (n - 1 - pa x (n - 1 - a)) = pa x (n - 1 - a) by omega, show n - 1 - (n - 1 - pa x (n - 1 - b)) = pa x (n - 1 - b) by omega]
  have h3 := h (n - 1 - b) (n - 1 - a) (by omega) (by omega) (by omega)
  have h4 := hp.lt _ h1
  have h5 := hp.lt _ h2
  omega
theorem sd_pta {n : Nat} {x y : List Nat} (hx : IsP n x) (hy : IsP n y) (h : Sd n x y) : Sd n (pta n x) (pta n y) := by
  intro i hi hlt
  rw [pv_pta hx]
  rw [pta_at hi, pta_at (i := i) (by omega)] at hlt
  rw [pta_at hi, pta_at (i := i) (by omega)]
  have e : n - 1 - i = n - 1 - (i + 1) + 1 := by omega
  have h1 := hy.lt (n - 1 - i) (by omega)
  have h2 := hy.lt (n - 1 - (i + 1)) (by omega)
  have h3 := h (n - 1 - (i + 1)) (by omega) (by rw [← e]; omega)
  rw [← e] at h3
  have h4 := (pv_lt hx (show n - 1 - i < n by omega)).1
  have h5 := (pv_lt hx (show n - 1 - (i + 1) < n by omega)).1
  omega
theorem settle_pta {n : Nat} {x y : List Nat} (hx : IsP n x) (hy : IsP n y) : settle n (pta n x) (pta n y) = (pta n (settle n x y).1, pta n (settle n x y).2) := by
  obtain ⟨p, p1, p2, p3, p4, p5, p6, p7⟩ := stl_settle hx hy
  have hx' := (isP_settle hx hy).1
  refine settle_is (isP_pta hx) (isP_pta hy) ⟨pta n p, isP_pta p1, isP_pta p2, by rw [p3, pta_pm hx], ?_, add_pta hx p1 p5, add_pta p1 p2 p6, sd_pta hx' p2 p7⟩
  rw [← pta_pm p1, ← p4]
/-- Delta goes ahead of all. -/
theorem settle_pdl {n : Nat} {x : List Nat} (hx : IsP n x) : settle n x (pdl n) = (pdl n, pta n x) := by
  have hp := hx.pv.pm (isP_pdl n)
  have hat : ∀ k, k < n → pa (pm n (pv n x) (pdl n)) k = n - 1 - pa (pv n x) k := fun k hk => by rw [pm_at hk, pdl_at (pv_lt hx hk).1]
  refine settle_is hx (isP_pdl n) ⟨pm n (pv n x) (pdl n), hp, isP_pta hx, ?_, ?_, ?_, ?_, ?_⟩
  · rw [← pm_assoc hx, pm_pv hx, pid_pm (isP_pdl n)]
  · refine pa_ext (pk_len _ _) (pk_len _ _) fun i hi => ?_
    obtain ⟨h1, h2⟩ := pv_lt hx hi
    rw [pm_at hi, hat i hi, pta_at (by omega), show n - 1 - (n - 1 - pa (pv n x) i) = pa (pv n x) i by omega, h2, pdl_at hi]
  · intro a b hab hb hlt
    rw [hat _ (hx.lt _ hb), hat _ (hx.lt _ (by omega)), pv_at hx hb, pv_at hx (i := a) (by omega)]
    omega
  · intro a b hab hb hlt
    obtain ⟨h1, h2⟩ := pv_lt hx hb
    obtain ⟨h3, h4⟩ := pv_lt hx (show a < n by omega)
    rw [hat b hb, hat a (by omega), pta_at (by omega), pta_at (by omega), show n - 1 - (n - 1 - pa (pv n x) b) = pa (pv n x) b by omega, show n - 1 - (n - 1 - pa (pv n x) a) = pa (pv n x) a by omega, h2, h4]
    omega
  · intro i hi hlt
    rw [pv_pdl, pdl_at hi, pdl_at (by omega)]
    omega
theorem pdl_settle {n : Nat} {y : List Nat} (hy : IsP n y) : settle n (pdl n) y = (pdl n, y) := settle_sd (isP_pdl n) hy fun i hi hlt => by
  rw [pv_pdl, pdl_at hi, pdl_at (by omega)]
  omega
theorem pid_settle {n : Nat} {y : List Nat} (hy : IsP n y) : settle n (pid n) y = (y, pid n) := by
  rw [settle_add (isP_pid n) hy pid_add, pid_pm hy]
end Go.Proofs.Ytdlmhcickcgnfaa
/- A permutation braid behind a settled row, and what goes on ahead: letters one by one are the same as all at once: plain mathematics. -/
namespace Go.Proofs.Ytdlmhcickcgnfaa

/-- A row, told from its end on, with one more behind it: settled from the last one on. -/
def pas (n : Nat) : List (List Nat) → List Nat → List (List Nat)
  | [], y => [y]
  | f :: F, y => (settle n f y).2 :: pas n F (settle n f y).1
/-- Neighbours are settled. -/
def SetL (n : Nat) : List (List Nat) → Prop
  | [] => True
  | f :: F => (∀ e ∈ F.head?, Sd n e f) ∧ SetL n F
def AllP (n : Nat) (F : List (List Nat)) : Prop := ∀ x ∈ F, IsP n x
theorem pas_all {n : Nat} : ∀ {F : List (List Nat)} {y : List Nat}, AllP n F → IsP n y → AllP n (pas n F y)
  | [], y, _, hy => fun x hx => by rw [List.mem_singleton.1 hx]; exact hy
  | f :: F, y, h, hy => fun x hx => by
    have h1 := isP_settle (h f (.head _)) hy
    rcases List.mem_cons.1 hx with e | e
    · rw [e]; exact h1.2
    · exact pas_all (fun z hz => h z (.tail _ hz)) h1.1 x e
theorem pas_len {n : Nat} : ∀ (F : List (List Nat)) (y : List Nat), (pas n F y).length = F.length + 1
  | [], _ => rfl
  | f :: F, y => by show (pas n F _).length + 1 = _; rw [pas_len F]; rfl

/-- A function that keeps what changes places in g changed. -/
def TA (n : Nat) (g : List Nat) (t : Nat → Nat) : Prop := ∀ c d, c < d → d < n → pa g d < pa g c → t (pa g d) < t (pa g c)
theorem add_suf {n : Nat} {p y z : List Nat} (hp : IsP n p) (h1 : Add n p y) (h2 : Add n (pm n p y) z) : Add n y z := by
  intro c d hcd hd hlt
  obtain ⟨u1, u2⟩ := pv_lt hp (show c < n by omega)
  obtain ⟨v1, v2⟩ := pv_lt hp hd
  generalize pa (pv n p) c = u at u1 u2
  generalize pa (pv n p) d = v at v1 v2
  rcases Nat.lt_trichotomy u v with g | g | g
  · have := h2 u v g v1 (by rw [pm_at v1, pm_at u1, u2, v2]; exact hlt)
    rwa [pm_at v1, pm_at u1, u2, v2] at this
  · rw [g, v2] at u2; omega
  · have := h1 v u g u1 (by rw [u2, v2]; exact hcd)
    rw [u2, v2] at this
    omega
theorem add_mid {n : Nat} {f p t : List Nat} (hf : IsP n f) (h1 : Add n f (pm n p t)) (h2 : Add n p t) : Add n (pm n f p) t := by
  intro a b hab hb hlt
  have ha : a < n := by omega
  rw [pm_at hb, pm_at ha] at hlt ⊢
  rcases Nat.lt_trichotomy (pa f a) (pa f b) with g | g | g
  · exact h2 _ _ g (hf.lt _ hb) hlt
  · have := hf.inj _ _ ha hb g; omega
  · have := h1 a b hab hb g
    rwa [pm_at (hf.lt _ hb), pm_at (hf.lt _ ha)] at this
/-- What the last one of a row with one more is. -/
structure Core (n : Nat) (p m g : List Nat) : Prop where
  gp : IsP n g
  q : ∃ q, IsP n q ∧ m = pm n q g ∧ Add n q g
  up : ∀ t : Nat → Nat, TA n p t → TA n g t → TA n m t
theorem core {n : Nat} {F : List (List Nat)} {f p : List Nat} (hF : AllP n F) (hs : SetL n (f :: F)) (hf : IsP n f) (hp : IsP n p) (ha : Add n f p) : ∃ g G, pas n F (pm n f p) = g :: G ∧ Core n p (pm n f p) g := by
  have hm := hf.pm hp
  cases F with
  | nil => exact ⟨_, _, rfl, hm, ⟨pid n, isP_pid n, (pid_pm hm).symm, pid_add⟩, fun t _ h => h⟩
  | cons e F =>
    have he := hF e (.head _)
    have hsd : Sd n e f := hs.1 e rfl
    obtain ⟨q, q1, q2, q3, q4, q5, q6, q7⟩ := stl_settle he hm
    refine ⟨_, _, rfl, q2, ⟨q, q1, q4, q6⟩, fun t h1 h2 => ?_⟩
    have hmi : ∀ a, a < n → pa (pm n f p) a = pa (settle n e (pm n f p)).2 (pa q a) := fun a hn => by
      have := congrArg (fun l => pa l a) q4
      simp only [pm_at (p := q) hn] at this
      exact this
    intro a b hab hb hlt
    refine kk n (pa f) (pa q) (pa p) (pa (settle n e (pm n f p)).2) t (pa (pm n f p)) (fun a hn => pm_at hn) hmi (fun a hn => hf.lt a hn) (fun a hn => q1.lt a hn) (fun a b h3 h4 => hf.inj a b h3 h4) (fun a b h3 h4 => q1.inj a b h3 h4) (fun a b h3 h4 => hm.inj a b h3 h4) ?_ ?_ h1 h2 ?_ b a b (by omega) hab hb hlt
    · intro a b h3 h4 h5
      rw [pm_at h4, pm_at (by omega)]
      exact ha a b h3 h4 h5
    · intro a b h3 h4 h5
      rw [hmi b h4, hmi a (by omega)]
      exact q6 a b h3 h4 h5
    · intro i hi h3 h4
      have h5 := hsd i hi h3
      have h6 := (add_bx he q1).1 q5 i (i + 1) (by omega) hi h4
      omega
theorem dom {n : Nat} {p m g t x : List Nat} (hp : IsP n p) (hm : IsP n m) (ht : IsP n t) (hc : Core n p m g) (h1 : Add n g t) (h2 : Add n p t) (h4 : Add n p (pm n t x)) (h5 : Sd n (pm n m t) x) : Sd n (pm n g t) x := by
  obtain ⟨hg, ⟨q, q1, q2, q3⟩, hup⟩ := hc
  intro i hi hlt
  have hgt := hg.pm ht
  have hmt := hm.pm ht
  obtain ⟨u1, u2⟩ := pv_lt hgt (show i < n by omega)
  obtain ⟨v1, v2⟩ := pv_lt hgt hi
  generalize hu : pa (pv n (pm n g t)) i = u at u1 u2
  generalize hv : pa (pv n (pm n g t)) (i + 1) = v at v1 v2
  refine Nat.lt_of_not_le fun hno => ?_
  have huv : u < v := by
    rcases Nat.lt_or_ge u v with g | g
    · exact g
    · have : u = v := by omega
      rw [this, v2] at u2
      omega
  rw [pm_at u1] at u2
  rw [pm_at v1] at v2
  have tg : TA n g (fun k => swp i (pa t k)) := by
    intro c d hcd hd hl
    refine swp_mono (h1 c d hcd hd hl) fun ⟨e1, e2⟩ => ?_
    have hc : c < n := by omega
    have a1 := hg.inj c v hc v1 (ht.inj _ _ (hg.lt _ hc) (hg.lt _ v1) (by rw [e2, v2]))
    have a2 := hg.inj d u hd u1 (ht.inj _ _ (hg.lt _ hd) (hg.lt _ u1) (by rw [e1, u2]))
    omega
  have tp : TA n p (fun k => swp i (pa t k)) := by
    intro c d hcd hd hl
    have hc : c < n := by omega
    refine swp_mono (h2 c d hcd hd hl) fun ⟨e1, e2⟩ => ?_
    have := h4 c d hcd hd hl
    rw [pm_at (hp.lt _ hd), pm_at (hp.lt _ hc), e1, e2] at this
    omega
  have tm := hup _ tp tg
  have h6 := h5 i hi hlt
  obtain ⟨b1, b2⟩ := pv_lt hmt (show i < n by omega)
  obtain ⟨a1, a2⟩ := pv_lt hmt hi
  generalize pa (pv n (pm n m t)) i = b at b1 b2 h6
  generalize pa (pv n (pm n m t)) (i + 1) = a at a1 a2 h6
  rw [pm_at b1] at b2
  rw [pm_at a1] at a2
  rcases Nat.lt_trichotomy (pa m b) (pa m a) with e | e | e
  · have := tm a b h6 b1 e
    simp only [b2, a2, swp_fst, swp_snd] at this
    omega
  · rw [e, a2] at b2; omega
  · have c1 := hg.inj (pa q a) v (q1.lt _ a1) v1 (ht.inj _ _ (hg.lt _ (q1.lt _ a1)) (hg.lt _ v1) (by rw [v2, ← pm_at (q := g) a1, ← q2, a2]))
    have c2 := hg.inj (pa q b) u (q1.lt _ b1) u1 (ht.inj _ _ (hg.lt _ (q1.lt _ b1)) (hg.lt _ u1) (by rw [u2, ← pm_at (q := g) b1, ← q2, b2]))
    have e1 : pa m a = pa g v := by rw [q2, pm_at a1, c1]
    have e2 : pa m b = pa g u := by rw [q2, pm_at b1, c2]
    have := h1 u v huv v1 (by rw [← e1, ← e2]; exact e)
    omega
/-- Settled rows stay so. -/
theorem pas_set {n : Nat} : ∀ {F : List (List Nat)} {y : List Nat}, AllP n F → SetL n F → IsP n y → SetL n (pas n F y)
  | [], y, _, _, _ => ⟨fun e he => (nomatch he), trivial⟩
  | f :: F, y, hF, hs, hy => by
    have hf := hF f (.head _)
    have hF' : AllP n F := fun z hz => hF z (.tail _ hz)
    obtain ⟨p, p1, p2, p3, p4, p5, p6, p7⟩ := stl_settle hf hy
    refine ⟨fun e he => ?_, pas_set hF' hs.2 (isP_settle hf hy).1⟩
    rw [p3] at he p7
    obtain ⟨g, G, hG, hc⟩ := core hF' hs hf p1 p5
    rw [hG] at he
    obtain rfl : g = e := Option.some.inj he
    have h := dom p1 (hf.pm p1) (isP_pid n) hc (add_pid hc.gp) (add_pid p1) (by rw [pid_pm p2]; exact p6) (by rw [pm_pid (hf.pm p1)]; exact p7)
    rwa [pm_pid hc.gp] at h
/-- LETTERS ONE BY ONE ARE THE SAME AS ALL AT ONCE. -/
theorem pas_pas {n : Nat} : ∀ (F : List (List Nat)), AllP n F → SetL n F → ∀ y z, IsP n y → IsP n z → Add n y z → pas n (pas n F y) z = pid n :: pas n F (pm n y z)
  | [], _, _, y, z, hy, hz, h => by
    show (settle n y z).2 :: pas n [] (settle n y z).1 = _
    rw [settle_add hy hz h]
  | f :: F, hF, hs, y, z, hy, hz, h => by
    have hf := hF f (.head _)
    have hF' : AllP n F := fun z hz => hF z (.tail _ hz)
    have hyz := hy.pm hz
    have h1 := stl_settle hf hy
    have h2 := stl_settle hf hyz
    show (settle n (settle n f y).2 z).2 :: pas n (pas n F (settle n f y).1) (settle n (settle n f y).2 z).1 = pid n :: (settle n f (pm n y z)).2 :: pas n F (settle n f (pm n y z)).1
    generalize (settle n f y).1 = x1 at h1
    generalize (settle n f y).2 = y1 at h1
    generalize (settle n f (pm n y z)).1 = x2 at h2
    generalize (settle n f (pm n y z)).2 = y2 at h2
    obtain ⟨p, p1, p2, rfl, p4, p5, p6, p7⟩ := h1
    obtain ⟨p', q1, q2, rfl, q4, q5, q6, q7⟩ := h2
    have hy1z := p2.pm hz
    have a1 : Add n y1 z := add_suf p1 p6 (by rw [← p4]; exact h)
    rw [settle_add p2 hz a1]
    congr 1
    have hle : LeP n p p' := stl_le hf q1 p1 q4 q5 q6 q7 p5 (by
      have e1 : LeP n p y := by rw [p4]; exact add_le.1 p6
      have e2 : LeP n y (pm n y z) := add_le.1 h
      exact fun c d h1 h2 h3 => e2 c d h1 h2 (e1 c d h1 h2 h3))
    have ht := p1.pv.pm q1
    have et : p' = pm n p (pm n (pv n p) p') := by rw [← pm_assoc p1, pm_pv p1, pid_pm q1]
    generalize pm n (pv n p) p' = t at ht et
    subst et
    have b1 : Add n p t := add_le.2 hle
    have e3 : pm n y1 z = pm n t y2 := by
      refine pm_cancel p1 hy1z (ht.pm q2) ?_
      rw [← pm_assoc p1, ← p4, q4, pm_assoc p1]
    have b2 : Add n t y2 := add_suf p1 b1 q6
    have b3 : Add n (pm n f p) t := add_mid hf q5 b1
    have hm := hf.pm p1
    have ih := pas_pas F hF' hs.2 (pm n f p) t hm ht b3
    obtain ⟨g, G, hG, hc⟩ := core hF' hs hf p1 p5
    obtain ⟨q, r1, r2, r3⟩ := hc.q
    have b4 : Add n g t := add_suf r1 r3 (by rw [← r2]; exact b3)
    rw [hG] at ih ⊢
    have i1 : pas n (g :: G) t = pid n :: pas n G (pm n g t) := by
      show (settle n g t).2 :: pas n G (settle n g t).1 = _
      rw [settle_add hc.gp ht b4]
    have i2 : settle n g (pm n y1 z) = (pm n g t, y2) := by
      refine settle_is hc.gp hy1z ⟨t, ht, q2, rfl, e3, b4, b2, ?_⟩
      refine dom p1 hm ht hc b4 b1 ?_ (by rw [pm_assoc hf]; exact q7)
      rw [← e3]
      have e1 : LeP n p y := by rw [p4]; exact add_le.1 p6
      have e2 : LeP n y (pm n y z) := add_le.1 h
      refine add_le.2 fun c d h1 h2 h3 => ?_
      rw [← pm_assoc p1, ← p4]
      exact e2 c d h1 h2 (e1 c d h1 h2 h3)
    show (settle n g (pm n y1 z)).2 :: pas n G (settle n g (pm n y1 z)).1 = _
    rw [i2]
    rw [i1] at ih
    rw [(List.cons.inj ih).2, pm_assoc hf]
end Go.Proofs.Ytdlmhcickcgnfaa
/- Normal forms, and what a letter makes of them; relations: plain mathematics. -/
namespace Go.Proofs.Ytdlmhcickcgnfaa

/-- How many are Delta, and those that are neither Delta nor nothing. -/
def nfL (n : Nat) : List (List Nat) → Nat × List (List Nat)
  | [] => (0, [])
  | f :: F => if f = pdl n then ((nfL n F).1 + 1, (nfL n F).2) else if f = pid n then nfL n F else ((nfL n F).1, f :: (nfL n F).2)
theorem nf_idl {n : Nat} {F : List (List Nat)} (h : ¬ pid n = pdl n) : nfL n (pid n :: F) = nfL n F := by
  conv => lhs; unfold nfL
  rw [if_neg h, if_pos rfl]
theorem nf_new {n : Nat} {f : List Nat} {F : List (List Nat)} (h1 : ¬ f = pdl n) (h2 : ¬ f = pid n) : nfL n (f :: F) = ((nfL n F).1, f :: (nfL n F).2) := by
  conv => lhs; unfold nfL
  rw [if_neg h1, if_neg h2]
theorem pid_pdl {n : Nat} (h : 2 ≤ n) : pid n ≠ pdl n := fun e => by
  have := congrArg (fun l => pa l 0) e
  simp only [pid_at (show 0 < n by omega), pdl_at (show 0 < n by omega)] at this
  omega
theorem sd_id {n : Nat} {f : List Nat} (hf : IsP n f) (h : Sd n (pid n) f) : f = pid n := by
  refine inv_eq hf (isP_pid n) (fun a b hab hb hlt => ?_) (fun a b hab hb hlt => ?_)
  · exfalso
    have mono : ∀ j, a + j ≤ b → pa f a ≤ pa f (a + j) := by
      intro j
      induction j with
      | zero => intro _; exact Nat.le_refl _
      | succ j ih =>
        intro hj
        have h1 := ih (by omega)
        refine Nat.le_of_not_lt fun hl => ?_
        have := h (a + j) (by omega) (by rw [Nat.add_assoc]; omega)
        rw [pv_pid (by omega), pv_pid (by omega)] at this
        omega
    have := mono (b - a) (by omega)
    rw [show a + (b - a) = b by omega] at this
    omega
  · rw [pid_at hb, pid_at (by omega)] at hlt
    omega
theorem sd_dl {n : Nat} {e : List Nat} (he : IsP n e) (h : Sd n e (pdl n)) : e = pdl n := by
  have mono : ∀ j a, a + j < n → 0 < j → pa (pv n e) (a + j) < pa (pv n e) a := by
    intro j
    induction j with
    | zero => intro a _ h0; omega
    | succ j ih =>
      intro a ha _
      have h1 := h (a + j) (by omega) (by rw [pdl_at (by omega), pdl_at (by omega)]; omega)
      rw [Nat.add_assoc] at h1
      by_cases hj : j = 0
      · subst hj; exact h1
      · have := ih a (by omega) (by omega)
        omega
  have : pv n e = pdl n := inv_eq he.pv (isP_pdl n) (fun a b hab hb _ => by rw [pdl_at hb, pdl_at (by omega)]; omega) (fun a b hab hb _ => by
    have := mono (b - a) a (by omega) (by omega)
    rwa [show a + (b - a) = b by omega] at this)
  rw [← pv_pv he, this, pv_pdl]
theorem nf_dl {n : Nat} : ∀ {F : List (List Nat)}, AllP n F → SetL n (pdl n :: F) → nfL n F = (F.length, []) ∧ pas n F (pdl n) = F ++ [pdl n]
  | [], _, _ => ⟨rfl, rfl⟩
  | e :: F, hF, hs => by
    have he : e = pdl n := sd_dl (hF e (.head _)) (hs.1 e rfl)
    subst he
    obtain ⟨h1, h2⟩ := nf_dl (fun z hz => hF z (.tail _ hz)) hs.2
    refine ⟨?_, ?_⟩
    · show (if pdl n = pdl n then ((nfL n F).1 + 1, (nfL n F).2) else _) = _
      rw [if_pos rfl, h1]
      rfl
    · show (settle n (pdl n) (pdl n)).2 :: pas n F (settle n (pdl n) (pdl n)).1 = _
      rw [pdl_settle (isP_pdl n)]
      show pdl n :: pas n F (pdl n) = _
      rw [h2]
      rfl
theorem nf_rep {n : Nat} (k : Nat) : nfL n (List.replicate k (pdl n)) = (k, []) := by
  induction k with
  | zero => rfl
  | succ k ih =>
    rw [List.replicate_succ]
    show (if pdl n = pdl n then ((nfL n _).1 + 1, (nfL n _).2) else _) = _
    rw [if_pos rfl, ih]
theorem nf_mem {n : Nat} : ∀ {F : List (List Nat)} {x : List Nat}, x ∈ (nfL n F).2 → x ∈ F ∧ x ≠ pdl n ∧ x ≠ pid n
  | [], _, h => nomatch h
  | f :: F, x, h => by
    unfold nfL at h
    split at h
    · have := nf_mem h; exact ⟨.tail _ this.1, this.2⟩
    · split at h
      · have := nf_mem h; exact ⟨.tail _ this.1, this.2⟩
      · rcases List.mem_cons.1 h with e | e
        · subst e; exact ⟨.head _, by assumption, by assumption⟩
        · have := nf_mem e; exact ⟨.tail _ this.1, this.2⟩
theorem nf_set {n : Nat} : ∀ {F : List (List Nat)}, AllP n F → SetL n F → SetL n (nfL n F).2
  | [], _, _ => trivial
  | f :: F, hF, hs => by
    have hF' : AllP n F := fun z hz => hF z (.tail _ hz)
    have ih := nf_set hF' hs.2
    unfold nfL
    split
    · exact ih
    · split
      · exact ih
      · rename_i h1 h2
        refine ⟨fun e he => ?_, ih⟩
        cases F with
        | nil => cases he
        | cons g F =>
          have hg := hs.1 g rfl
          by_cases g1 : g = pdl n
          · subst g1
            have h3 := (nf_dl (fun z hz => hF' z (.tail _ hz)) hs.2).1
            have h4 : (nfL n (pdl n :: F)).2 = [] := by
              show (if pdl n = pdl n then ((nfL n F).1 + 1, (nfL n F).2) else _).2 = _
              rw [if_pos rfl, h3]
            rw [h4] at he
            cases he
          · by_cases g2 : g = pid n
            · subst g2
              exact (h2 (sd_id (hF f (.head _)) hg)).elim
            · have h4 : (nfL n (g :: F)).2 = g :: (nfL n F).2 := by
                conv => lhs; unfold nfL
                rw [if_neg g1, if_neg g2]
              rw [h4] at he
              obtain rfl : g = e := Option.some.inj he
              exact hg
/-- What is Delta or nothing may be left out ahead of more letters. -/
theorem nf_pas {n : Nat} : ∀ {F : List (List Nat)} {y : List Nat}, AllP n F → SetL n F → IsP n y → nfL n (pas n F y) = ((nfL n F).1 + (nfL n (pas n (nfL n F).2 y)).1, (nfL n (pas n (nfL n F).2 y)).2)
  | [], y, _, _, _ => by
    show nfL n (pas n [] y) = (0 + (nfL n (pas n [] y)).1, (nfL n (pas n [] y)).2)
    rw [Nat.zero_add]
  | f :: F, y, hF, hs, hy => by
    have hf := hF f (.head _)
    have hF' : AllP n F := fun z hz => hF z (.tail _ hz)
    have cons : ∀ (g : List Nat) (X Y : List (List Nat)) (k : Nat), nfL n X = (k + (nfL n Y).1, (nfL n Y).2) → nfL n (g :: X) = (k + (nfL n (g :: Y)).1, (nfL n (g :: Y)).2) := by
      intro g X Y k h
      unfold nfL
      split
      · rw [h]; simp only [Nat.add_assoc]
      · split
        · exact h
        · rw [h]
    by_cases g1 : f = pdl n
    · subst g1
      obtain ⟨h1, h2⟩ := nf_dl hF' hs
      have e1 : nfL n (pdl n :: F) = (F.length + 1, []) := by
        show (if pdl n = pdl n then ((nfL n F).1 + 1, (nfL n F).2) else _) = _
        rw [if_pos rfl, h1]
      rw [e1]
      show nfL n ((settle n (pdl n) y).2 :: pas n F (settle n (pdl n) y).1) = (F.length + 1 + (nfL n [y]).1, (nfL n [y]).2)
      rw [pdl_settle hy]
      refine cons y _ [] _ ?_
      rw [h2]
      have h3 : ∀ X : List (List Nat), nfL n X = (X.length, []) → nfL n (X ++ [pdl n]) = (X.length + 1, []) := by
        intro X
        induction X with
        | nil => intro _; show (if pdl n = pdl n then _ else _) = _; rw [if_pos rfl]; rfl
        | cons g X ih =>
          intro h
          have le : ∀ X : List (List Nat), (nfL n X).1 + (nfL n X).2.length ≤ X.length := by
            intro X
            induction X with
            | nil => exact Nat.le_refl _
            | cons a X ihx => unfold nfL; split <;> (try split) <;> simp only [List.length_cons] <;> omega
          rw [List.cons_append]
          have l1 := le X
          unfold nfL at h ⊢
          by_cases c1 : g = pdl n
          · rw [if_pos c1] at h ⊢
            have a1 := congrArg Prod.fst h
            have a2 := congrArg Prod.snd h
            simp only [List.length_cons] at a1 a2
            rw [ih (Prod.ext (by show (nfL n X).1 = X.length; omega) a2)]
            simp
          · rw [if_neg c1] at h ⊢
            by_cases c2 : g = pid n
            · rw [if_pos c2] at h
              have a1 := congrArg Prod.fst h
              simp only [List.length_cons] at a1
              omega
            · rw [if_neg c2] at h
              have a2 := congrArg Prod.snd h
              simp at a2
      rw [h3 F h1]
      rfl
    · by_cases g2 : f = pid n
      · subst g2
        rw [nf_idl g1]
        show nfL n ((settle n (pid n) y).2 :: pas n F (settle n (pid n) y).1) = _
        rw [pid_settle hy]
        show nfL n (pid n :: pas n F y) = _
        rw [nf_idl g1]
        exact nf_pas hF' hs.2 hy
      · rw [nf_new g1 g2]
        exact cons _ _ _ _ (nf_pas hF' hs.2 (isP_settle hf hy).1)
end Go.Proofs.Ytdlmhcickcgnfaa
/- What letters make of normal forms: relations of braids: plain mathematics. -/
namespace Go.Proofs.Ytdlmhcickcgnfaa

/-- A normal form. -/
structure CanS (n : Nat) (S : Int × List (List Nat)) : Prop where
  all : AllP n S.2
  set : SetL n S.2
  no : ∀ x ∈ S.2, x ≠ pdl n ∧ x ≠ pid n
/-- A permutation braid behind it. -/
def psh (n : Nat) (S : Int × List (List Nat)) (y : List Nat) : Int × List (List Nat) := (S.1 + ((nfL n (pas n S.2 y)).1 : Nat), (nfL n (pas n S.2 y)).2)
/-- Delta to the power of -1 behind it. -/
def tws (n : Nat) (S : Int × List (List Nat)) : Int × List (List Nat) := (S.1 - 1, S.2.map (pta n))
/-- Delta without a letter at its end. -/
def pdg (n i : Nat) : List Nat := pm n (pdl n) (psg n i)
/-- What a letter makes of a normal form. -/
def cst (n : Nat) (S : Int × List (List Nat)) (x : Int) : Int × List (List Nat) := if 0 < x then psh n S (psg n (x.natAbs - 1)) else psh n (tws n S) (pdg n (x.natAbs - 1))
/-- The normal form of a word. -/
def nfW (n : Nat) (w : List Int) : Int × List (List Nat) := w.foldl (cst n) (0, [])
theorem canS_nil (n : Nat) (p : Int) : CanS n (p, []) := ⟨fun _ h => (nomatch h), trivial, fun _ h => (nomatch h)⟩
theorem CanS.psh {n : Nat} {S : Int × List (List Nat)} (h : CanS n S) {y : List Nat} (hy : IsP n y) : CanS n (psh n S y) :=
  ⟨fun x hx => pas_all h.all hy x (nf_mem hx).1, nf_set (pas_all h.all hy) (pas_set h.all h.set hy), fun _ hx => (nf_mem hx).2⟩
theorem pta_pdl {n : Nat} : pta n (pdl n) = pdl n := pa_ext (pk_len _ _) (pk_len _ _) fun i hi => by rw [pta_at hi, pdl_at (by omega), pdl_at hi]; omega
theorem pta_pid {n : Nat} : pta n (pid n) = pid n := pa_ext (pk_len _ _) (pk_len _ _) fun i hi => by rw [pta_at hi, pid_at (by omega), pid_at hi]; omega
theorem pta_inj {n : Nat} {x y : List Nat} (hx : IsP n x) (hy : IsP n y) (h : pta n x = pta n y) : x = y := by rw [← pta_pta hx, h, pta_pta hy]
theorem set_map {n : Nat} : ∀ {F : List (List Nat)}, AllP n F → SetL n F → SetL n (F.map (pta n))
  | [], _, _ => trivial
  | f :: F, hF, hs => by
    refine ⟨fun e he => ?_, set_map (fun z hz => hF z (.tail _ hz)) hs.2⟩
    cases F with
    | nil => cases he
    | cons g F =>
      obtain rfl : pta n g = e := Option.some.inj he
      exact sd_pta (hF g (.tail _ (.head _))) (hF f (.head _)) (hs.1 g rfl)
theorem CanS.tws {n : Nat} {S : Int × List (List Nat)} (h : CanS n S) : CanS n (tws n S) := by
  refine ⟨fun x hx => ?_, set_map h.all h.set, fun x hx => ?_⟩
  · obtain ⟨y, hy, rfl⟩ := List.mem_map.1 hx
    exact isP_pta (h.all y hy)
  · obtain ⟨y, hy, rfl⟩ := List.mem_map.1 hx
    refine ⟨fun e => (h.no y hy).1 (pta_inj (h.all y hy) (isP_pdl n) (by rw [e, pta_pdl])), fun e => (h.no y hy).2 (pta_inj (h.all y hy) (isP_pid n) (by rw [e, pta_pid]))⟩
theorem isP_pdg {n i : Nat} (hi : i + 1 < n) : IsP n (pdg n i) := (isP_pdl n).pm (isP_psg hi)
/-- A letter of n strands. -/
def LtN (n : Nat) (x : Int) : Prop := 1 ≤ x.natAbs ∧ x.natAbs < n
theorem CanS.cst {n : Nat} {S : Int × List (List Nat)} (h : CanS n S) {x : Int} (hx : LtN n x) : CanS n (cst n S x) := by
  have := hx.1
  have := hx.2
  unfold Go.Proofs.Ytdlmhcickcgnfaa.cst
  split
  · exact h.psh (isP_psg (by omega))
  · exact h.tws.psh (isP_pdg (by omega))
theorem CanS.fold {n : Nat} : ∀ {w : List Int} {S : Int × List (List Nat)}, CanS n S → (∀ x ∈ w, LtN n x) → CanS n (w.foldl (Go.Proofs.Ytdlmhcickcgnfaa.cst n) S)
  | [], _, h, _ => h
  | x :: w, S, h, hw => CanS.fold (w := w) (S := Go.Proofs.Ytdlmhcickcgnfaa.cst n S x) (h.cst (hw x (.head _))) (fun y hy => hw y (.tail _ hy))
/-- Two that may be one are one. -/
theorem psh_psh {n : Nat} (h2 : 2 ≤ n) {S : Int × List (List Nat)} (h : CanS n S) {y z : List Nat} (hy : IsP n y) (hz : IsP n z) (ha : Add n y z) : psh n (psh n S y) z = psh n S (pm n y z) := by
  have h1 := nf_pas (pas_all h.all hy) (pas_set h.all h.set hy) hz
  rw [pas_pas S.2 h.all h.set y z hy hz ha, nf_idl (pid_pdl h2)] at h1
  unfold psh
  rw [h1]
  refine Prod.ext ?_ rfl
  show S.1 + ((nfL n (pas n S.2 y)).1 : Nat) + ((nfL n (pas n (nfL n (pas n S.2 y)).2 z)).1 : Nat) = S.1 + (((nfL n (pas n S.2 y)).1 + (nfL n (pas n (nfL n (pas n S.2 y)).2 z)).1 : Nat) : Int)
  omega
theorem pas_map {n : Nat} : ∀ {F : List (List Nat)} {y : List Nat}, AllP n F → IsP n y → pas n (F.map (pta n)) (pta n y) = (pas n F y).map (pta n)
  | [], _, _, _ => rfl
  | f :: F, y, hF, hy => by
    have hf := hF f (.head _)
    show (settle n (pta n f) (pta n y)).2 :: pas n (F.map (pta n)) (settle n (pta n f) (pta n y)).1 = pta n (settle n f y).2 :: (pas n F (settle n f y).1).map (pta n)
    rw [settle_pta hf hy]
    show _ :: pas n (F.map (pta n)) (pta n (settle n f y).1) = _
    rw [pas_map (fun z hz => hF z (.tail _ hz)) (isP_settle hf hy).1]
theorem nf_map {n : Nat} : ∀ {F : List (List Nat)}, AllP n F → nfL n (F.map (pta n)) = ((nfL n F).1, (nfL n F).2.map (pta n))
  | [], _ => rfl
  | f :: F, hF => by
    have ih := nf_map (fun z hz => hF z (List.Mem.tail f hz))
    have hf := hF f (.head _)
    have e1 : (pta n f = pdl n) ↔ (f = pdl n) := ⟨fun e => pta_inj hf (isP_pdl n) (by rw [e, pta_pdl]), fun e => by rw [e, pta_pdl]⟩
    have e2 : (pta n f = pid n) ↔ (f = pid n) := ⟨fun e => pta_inj hf (isP_pid n) (by rw [e, pta_pid]), fun e => by rw [e, pta_pid]⟩
    rw [List.map_cons]
    unfold nfL
    rw [ih]
    simp only [e1, e2]
    split
    · rfl
    · split
      · rfl
      · rfl
theorem tws_psh {n : Nat} {S : Int × List (List Nat)} (h : CanS n S) {y : List Nat} (hy : IsP n y) : tws n (psh n S y) = psh n (tws n S) (pta n y) := by
  unfold tws psh
  rw [pas_map h.all hy, nf_map (pas_all h.all hy)]
  refine Prod.ext ?_ rfl
  show S.1 + ((nfL n (pas n S.2 y)).1 : Nat) - 1 = S.1 - 1 + ((nfL n (pas n S.2 y)).1 : Nat)
  omega
theorem pas_dl {n : Nat} : ∀ {F : List (List Nat)}, AllP n F → pas n F (pdl n) = F.map (pta n) ++ [pdl n]
  | [], _ => rfl
  | f :: F, hF => by
    show (settle n f (pdl n)).2 :: pas n F (settle n f (pdl n)).1 = _
    rw [settle_pdl (hF f (.head _))]
    show pta n f :: pas n F (pdl n) = _
    rw [pas_dl (fun z hz => hF z (.tail _ hz))]
    rfl
theorem nf_own {n : Nat} : ∀ {F : List (List Nat)}, (∀ x ∈ F, x ≠ pdl n ∧ x ≠ pid n) → nfL n (F ++ [pdl n]) = (1, F)
  | [], _ => by
    show (if pdl n = pdl n then _ else _) = _
    rw [if_pos rfl]; rfl
  | f :: F, h => by
    have h1 := h f (.head _)
    rw [List.cons_append, nf_new h1.1 h1.2, nf_own (fun x hx => h x (.tail _ hx))]
theorem tws_dl {n : Nat} {S : Int × List (List Nat)} (h : CanS n S) : psh n (tws n S) (pdl n) = S := by
  unfold psh
  rw [pas_dl h.tws.all]
  have e : (tws n S).2.map (pta n) = S.2 := by
    show (S.2.map (pta n)).map (pta n) = S.2
    rw [List.map_map]
    conv => rhs; rw [← List.map_id S.2]
    exact List.map_congr_left fun x hx => pta_pta (h.all x hx)
  rw [e, nf_own h.no]
  refine Prod.ext ?_ rfl
  show S.1 - 1 + ((1 : Nat) : Int) = S.1
  omega
theorem add_dl {n : Nat} {x y : List Nat} (h : pm n x y = pdl n) : Add n x y := fun a b hab hb _ => by
  have e1 := congrArg (fun l => pa l a) h
  have e2 := congrArg (fun l => pa l b) h
  simp only [pm_at hb, pm_at (show a < n by omega), pdl_at hb, pdl_at (show a < n by omega)] at e1 e2
  omega
theorem pdg_psg {n i : Nat} (hi : i + 1 < n) : pm n (pdg n i) (psg n i) = pdl n := pa_ext (pk_len _ _) (pk_len _ _) fun j hj => by
  unfold pdg
  have e0 : pa (psg n i) (n - 1 - j) = swp i (n - 1 - j) := psg_at (by omega)
  rw [pm_at hj, pm_at hj, pdl_at hj, e0, psg_at (swp_lt hi (by omega)), swp_swp]
theorem tau_pdg {n i : Nat} (hi : i + 1 < n) : pm n (pta n (psg n i)) (pdg n i) = pdl n := pa_ext (pk_len _ _) (pk_len _ _) fun j hj => by
  have h1 := swp_lt (j := n - 1 - j) hi (by omega)
  unfold pdg
  have e0 : pa (psg n i) (n - 1 - j) = swp i (n - 1 - j) := psg_at (by omega)
  rw [pm_at hj, pta_at hj, e0, pm_at (by omega), pdl_at (by omega), show n - 1 - (n - 1 - swp i (n - 1 - j)) = swp i (n - 1 - j) by omega, psg_at h1, swp_swp, pdl_at hj]
/-- A letter and its reciprocal. -/
theorem cst_neg {n : Nat} (h2 : 2 ≤ n) {S : Int × List (List Nat)} (h : CanS n S) {x : Int} (hx : LtN n x) : cst n (cst n S x) (-x) = S := by
  have h1 := hx.1
  have h3 := hx.2
  have hi : x.natAbs - 1 + 1 < n := by omega
  unfold cst
  rw [Int.natAbs_neg]
  by_cases hp : 0 < x
  · rw [if_pos hp, if_neg (by omega), tws_psh h (isP_psg hi), psh_psh h2 h.tws (isP_pta (isP_psg hi)) (isP_pdg hi) (add_dl (tau_pdg hi)), tau_pdg hi, tws_dl h]
  · rw [if_neg hp, if_pos (by omega), psh_psh h2 h.tws (isP_pdg hi) (isP_psg hi) (add_dl (pdg_psg hi)), pdg_psg hi, tws_dl h]
theorem add_gg {n a b : Nat} (ha : a + 1 < n) (hab : a ≠ b) : Add n (psg n a) (psg n b) := by
  intro c d hcd hd hlt
  rw [psg_at hd, psg_at (show c < n by omega)] at hlt
  rw [psg_at hd, psg_at (show c < n by omega), psg_at (swp_lt ha hd), psg_at (swp_lt ha (show c < n by omega))]
  by_cases e : c = a ∧ d = a + 1
  · rw [e.1, e.2, swp_fst, swp_snd]
    exact swp_mono (by omega) (fun q => hab q.1)
  · have := swp_mono hcd e
    omega
theorem far_gg {n a b : Nat} (ha : a + 1 < n) (hb : b + 1 < n) (hab : a + 1 < b ∨ b + 1 < a) : pm n (psg n a) (psg n b) = pm n (psg n b) (psg n a) := pa_ext (pk_len _ _) (pk_len _ _) fun j hj => by
  rw [pm_at hj, pm_at hj, psg_at hj, psg_at hj, psg_at (swp_lt ha hj), psg_at (swp_lt hb hj)]
  unfold swp
  (repeat' split) <;> omega
theorem add_ggg {n a b : Nat} (ha : a + 1 < n) (hb : b + 1 < n) (hab : a + 1 = b ∨ b + 1 = a) : Add n (pm n (psg n a) (psg n b)) (psg n a) := by
  intro c d hcd hd hlt
  have hc : c < n := by omega
  have l1 := swp_lt hb (swp_lt ha hd)
  have l2 := swp_lt hb (swp_lt ha hc)
  rw [pm_at hd, pm_at hc, psg_at hd, psg_at hc, psg_at (swp_lt ha hd), psg_at (swp_lt ha hc)] at hlt ⊢
  rw [psg_at l1, psg_at l2]
  refine swp_mono hlt fun ⟨e1, e2⟩ => ?_
  have f1 := congrArg (fun k => swp a (swp b k)) e1
  have f2 := congrArg (fun k => swp a (swp b k)) e2
  simp only [swp_swp] at f1 f2
  have : swp a (swp b a) < swp a (swp b (a + 1)) := by
    rcases hab with e | e
    · subst e
      rw [swp_fst, show swp (a + 1) a = a by unfold swp; rw [if_neg (by omega), if_neg (by omega)], swp_fst, show swp a (a + 1 + 1) = a + 1 + 1 by unfold swp; rw [if_neg (by omega), if_neg (by omega)]]
      omega
    · subst e
      rw [swp_snd, show swp b (b + 1 + 1) = b + 1 + 1 by unfold swp; rw [if_neg (by omega), if_neg (by omega)], swp_snd, show swp (b + 1) b = b by unfold swp; rw [if_neg (by omega), if_neg (by omega)]]
      omega
  omega
theorem near_gg {n a b : Nat} (ha : a + 1 < n) (hb : b + 1 < n) (hab : a + 1 = b ∨ b + 1 = a) : pm n (pm n (psg n a) (psg n b)) (psg n a) = pm n (pm n (psg n b) (psg n a)) (psg n b) := pa_ext (pk_len _ _) (pk_len _ _) fun j hj => by
  rw [pm_at hj, pm_at hj, pm_at hj, pm_at hj, psg_at hj, psg_at hj, psg_at (swp_lt ha hj), psg_at (swp_lt hb hj), psg_at (swp_lt hb (swp_lt ha hj)), psg_at (swp_lt ha (swp_lt hb hj))]
  have key : ∀ a j, swp a (swp (a + 1) (swp a j)) = swp (a + 1) (swp a (swp (a + 1) j)) := by
    intro a j
    have o : ∀ i k, k ≠ i → k ≠ i + 1 → swp i k = k := fun i k h1 h2 => by unfold swp; rw [if_neg h1, if_neg h2]
    by_cases e1 : j = a
    · subst e1
      rw [swp_fst, swp_fst, o j (j + 1 + 1) (by omega) (by omega), o (j + 1) j (by omega) (by omega), swp_fst, swp_fst]
    · by_cases e2 : j = a + 1
      · subst e2
        rw [swp_snd, o (a + 1) a (by omega) (by omega), swp_fst, swp_fst, o a (a + 1 + 1) (by omega) (by omega), swp_snd]
      · by_cases e3 : j = a + 1 + 1
        · subst e3
          rw [o a (a + 1 + 1) (by omega) (by omega), swp_snd, swp_snd, o (a + 1) a (by omega) (by omega)]
        · rw [o a j e1 e2, o (a + 1) j e2 e3, o a j e1 e2, o (a + 1) j e2 e3]
  rcases hab with e | e
  · subst e; exact key a j
  · subst e; exact (key b j).symm
/-- Letters that are far change places. -/
theorem cst_far {n : Nat} (h2 : 2 ≤ n) {S : Int × List (List Nat)} (h : CanS n S) {a b : Nat} (ha : a + 1 < n) (hb : b + 1 < n) (hab : a + 1 < b ∨ b + 1 < a) : cst n (cst n S (a + 1 : Nat)) (b + 1 : Nat) = cst n (cst n S (b + 1 : Nat)) (a + 1 : Nat) := by
  unfold cst
  rw [if_pos (by omega), if_pos (by omega), if_pos (by omega), if_pos (by omega)]
  simp only [Int.natAbs_natCast, Nat.add_sub_cancel]
  rw [psh_psh h2 h (isP_psg ha) (isP_psg hb) (add_gg ha (by omega)), psh_psh h2 h (isP_psg hb) (isP_psg ha) (add_gg hb (by omega)), far_gg ha hb hab]
/-- Three letters of neighbours. -/
theorem cst_near {n : Nat} (h2 : 2 ≤ n) {S : Int × List (List Nat)} (h : CanS n S) {a b : Nat} (ha : a + 1 < n) (hb : b + 1 < n) (hab : a + 1 = b ∨ b + 1 = a) : cst n (cst n (cst n S (a + 1 : Nat)) (b + 1 : Nat)) (a + 1 : Nat) = cst n (cst n (cst n S (b + 1 : Nat)) (a + 1 : Nat)) (b + 1 : Nat) := by
  have sa := isP_psg (n := n) ha
  have sb := isP_psg (n := n) hb
  unfold cst
  rw [if_pos (by omega), if_pos (by omega), if_pos (by omega), if_pos (by omega), if_pos (by omega), if_pos (by omega)]
  simp only [Int.natAbs_natCast, Nat.add_sub_cancel]
  rw [psh_psh h2 h sa sb (add_gg ha (by omega)), psh_psh h2 h sb sa (add_gg hb (by omega)), psh_psh h2 h (sa.pm sb) sa (add_ggg ha hb hab), psh_psh h2 h (sb.pm sa) sb (add_ggg hb ha hab.symm), near_gg ha hb hab]
end Go.Proofs.Ytdlmhcickcgnfaa
