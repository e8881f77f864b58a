/- Two neighbours settled, letter by letter; turned by Delta: plain mathematics. -/
import Derived.Test.YthlmkoiilgjflaaGA0
namespace Go.Proofs.Ythlmkoiilgjflaa

/-- Two neighbours changed for each other. -/
def swp (i j : Nat) : Nat := if j = i then i + 1 else if j = i + 1 then i else j
theorem swp_swp (i j : Nat) : swp i (swp i j) = j := by unfold swp; split <;> split <;> (try split) <;> omega
theorem swp_lt {n i j : Nat} (hi : i + 1 < n) (hj : j < n) : swp i j < n := by unfold swp; split <;> (try split) <;> omega
theorem swp_inj {i j k : Nat} (h : swp i j = swp i k) : j = k := by rw [← swp_swp i j, h, swp_swp]
theorem swp_mono {i u v : Nat} (h : u < v) (hn : ¬ (u = i ∧ v = i + 1)) : swp i u < swp i v := by unfold swp; (repeat' split) <;> omega
theorem swp_fst (i : Nat) : swp i i = i + 1 := by unfold swp; rw [if_pos rfl]
theorem swp_snd (i : Nat) : swp i (i + 1) = i := by unfold swp; rw [if_neg (by omega), if_pos rfl]
/-- A letter. -/
def psg (n i : Nat) : List Nat := pk n (swp i)
theorem psg_at {n i j : Nat} (h : j < n) : pa (psg n i) j = swp i j := pk_at h
theorem isP_psg {n i : Nat} (hi : i + 1 < n) : IsP n (psg n i) := ⟨pk_len _ _, fun j hj => by rw [psg_at hj]; exact swp_lt hi hj, fun j k hj hk e => by rw [psg_at hj, psg_at hk] at e; exact swp_inj e, fun j hj => ⟨swp i j, swp_lt hi hj, by rw [psg_at (swp_lt hi hj), swp_swp]⟩⟩
/-- A letter ahead of ends, or behind begins. -/
def psw (n : Nat) (l : List Nat) (i : Nat) : List Nat := pk n fun j => pa l (swp i j)
theorem psw_at {n i j : Nat} {l : List Nat} (h : j < n) : pa (psw n l i) j = pa l (swp i j) := pk_at h
theorem isP_psw {n i : Nat} {l : List Nat} (hi : i + 1 < n) (hl : IsP n l) : IsP n (psw n l i) := ⟨pk_len _ _, fun j hj => by rw [psw_at hj]; exact hl.lt _ (swp_lt hi hj), fun j k hj hk e => by rw [psw_at hj, psw_at hk] at e; exact swp_inj (hl.inj _ _ (swp_lt hi hj) (swp_lt hi hk) e), fun j hj => by
  obtain ⟨k, hk, rfl⟩ := hl.sur j hj
  exact ⟨swp i k, swp_lt hi hk, by rw [psw_at (swp_lt hi hk), swp_swp]⟩⟩
theorem psw_psg {n i : Nat} {l : List Nat} : psw n l i = pm n (psg n i) l := pa_ext (pk_len _ _) (pk_len _ _) fun j hj => by rw [psw_at hj, pm_at hj, psg_at hj]
theorem pv_pmg {n i : Nat} {x : List Nat} (hx : IsP n x) (hi : i + 1 < n) : psw n (pv n x) i = pv n (pm n x (psg n i)) := pa_ext (pk_len _ _) (pk_len _ _) fun j hj => by
  rw [psw_at hj, pv_pm hx (isP_psg hi) hj]
  have h1 := pv_at (isP_psg hi) (swp_lt hi hj)
  rw [psg_at (swp_lt hi hj), swp_swp] at h1
  rw [h1]

/-- The first letter that may go over. -/
def lsM (n : Nat) (b y : List Nat) : Option Nat := (List.range (n - 1)).find? fun i => decide (pa y (i + 1) < pa y i) && !decide (pa b (i + 1) < pa b i)
theorem lsM_none {n : Nat} {b y : List Nat} (h : lsM n b y = none) {i : Nat} (hi : i + 1 < n) (hy : pa y (i + 1) < pa y i) : pa b (i + 1) < pa b i := by
  have := List.find?_eq_none.1 h i (List.mem_range.2 (by omega))
  simpa [hy] using this
theorem lsM_some {n : Nat} {b y : List Nat} {i : Nat} (h : lsM n b y = some i) : i + 1 < n ∧ pa y (i + 1) < pa y i ∧ ¬ pa b (i + 1) < pa b i := by
  have h1 := List.find?_some h
  have h2 := List.mem_of_find?_eq_some h
  rw [List.mem_range] at h2
  simp only [Bool.and_eq_true, decide_eq_true_eq, Bool.not_eq_true', decide_eq_false_iff_not] at h1
  exact ⟨by omega, h1.1, h1.2⟩
/-- Letters go over, so many at most. -/
def stG (n : Nat) : Nat → List Nat → List Nat → List Nat × List Nat
  | 0, b, y => (b, y)
  | k + 1, b, y => match lsM n b y with
    | none => (b, y)
    | some i => stG n k (psw n b i) (psw n y i)
def pw (f : Nat → Nat) : Nat → Nat
  | 0 => 0
  | k + 1 => pw f k + k * f k
theorem pw_congr {f g : Nat → Nat} : ∀ k, (∀ j, j < k → f j = g j) → pw f k = pw g k
  | 0, _ => rfl
  | k + 1, h => by unfold pw; rw [pw_congr k (fun j hj => h j (by omega)), h k (by omega)]
theorem pw_swp {f : Nat → Nat} {i : Nat} (h : f (i + 1) < f i) : ∀ d, pw f (i + 2 + d) < pw (fun j => f (swp i j)) (i + 2 + d)
  | 0 => by
    show pw f i + i * f i + (i + 1) * f (i + 1) < pw (fun j => f (swp i j)) i + i * f (swp i i) + (i + 1) * f (swp i (i + 1))
    rw [swp_fst, swp_snd, pw_congr (f := fun j => f (swp i j)) (g := f) i (fun j hj => by show f (swp i j) = f j; unfold swp; rw [if_neg (by omega), if_neg (by omega)]), Nat.add_mul, Nat.add_mul, Nat.one_mul, Nat.one_mul]
    omega
  | d + 1 => by
    have := pw_swp h d
    show pw f (i + 2 + d) + (i + 2 + d) * f (i + 2 + d) < pw (fun j => f (swp i j)) (i + 2 + d) + (i + 2 + d) * f (swp i (i + 2 + d))
    rw [show swp i (i + 2 + d) = i + 2 + d by unfold swp; rw [if_neg (by omega), if_neg (by omega)]]
    omega
theorem pw_le {f : Nat → Nat} {n : Nat} : ∀ k, k ≤ n → (∀ j, j < k → f j < n) → pw f k ≤ k * (n * n)
  | 0, _, _ => Nat.zero_le _
  | k + 1, hk, h => by
    have h1 := pw_le k (by omega) (fun j hj => h j (by omega))
    have h2 : k * f k ≤ n * n := Nat.mul_le_mul (by omega) (Nat.le_of_lt (h k (by omega)))
    show pw f k + k * f k ≤ _
    rw [Nat.add_mul, Nat.one_mul]
    omega
/-- Two neighbours settled. -/
def settle (n : Nat) (x y : List Nat) : List Nat × List Nat := (pv n (stG n (n * (n * n)) (pv n x) y).1, (stG n (n * (n * n)) (pv n x) y).2)
/-- On the way. -/
def StI (n : Nat) (x y b c : List Nat) : Prop := ∃ p, IsP n p ∧ IsP n c ∧ b = pv n (pm n x p) ∧ y = pm n p c ∧ Add n x p ∧ Add n p c
theorem StI.step {n : Nat} {x y b c : List Nat} (hx : IsP n x) (h : StI n x y b c) {i : Nat} (hi : i + 1 < n) (h1 : pa c (i + 1) < pa c i) (h2 : ¬ pa b (i + 1) < pa b i) : StI n x y (psw n b i) (psw n c i) := by
  obtain ⟨p, p1, p2, rfl, rfl, p5, p6⟩ := h
  have hs := isP_psg (n := n) hi
  have hb : ∀ k, k < n → pa (pv n (pm n x p)) k = pa (pv n x) (pa (pv n p) k) := fun k hk => pv_pm hx p1 hk
  have key : ∀ c' d, c' < d → d < n → pa (pm n p (psg n i)) d < pa (pm n p (psg n i)) c' → pa p d < pa p c' ∨ (pa p c' = i ∧ pa p d = i + 1) := by
    intro c' d hcd hd hlt
    rw [pm_at hd, pm_at (by omega), psg_at (p1.lt _ hd), psg_at (p1.lt _ (by omega))] at hlt
    rcases Nat.lt_trichotomy (pa p c') (pa p d) with g | g | g
    · by_cases e : pa p c' = i ∧ pa p d = i + 1
      · exact Or.inr e
      · have := swp_mono g e; omega
    · have := p1.inj _ _ (by omega) hd g; omega
    · exact Or.inl g
  refine ⟨pm n p (psg n i), p1.pm hs, isP_psw hi p2, ?_, ?_, ?_, ?_⟩
  · rw [pv_pmg (hx.pm p1) hi, pm_assoc hx]
  · exact pa_ext (pk_len _ _) (pk_len _ _) fun k hk => by rw [pm_at hk, pm_at hk, psw_at ((p1.pm hs).lt k hk), pm_at hk, psg_at (p1.lt k hk), swp_swp]
  · rw [add_bx hx (p1.pm hs)]
    intro c' d hcd hd hlt
    rcases key c' d hcd hd hlt with g | ⟨g1, g2⟩
    · exact (add_bx hx p1).1 p5 c' d hcd hd g
    · rw [hb _ hi, hb _ (by omega)] at h2
      have e1 := pv_at p1 (show c' < n by omega)
      have e2 := pv_at p1 hd
      rw [g1] at e1
      rw [g2] at e2
      rw [e1, e2] at h2
      rcases Nat.lt_trichotomy (pa (pv n x) c') (pa (pv n x) d) with g | g | g
      · exact g
      · have := hx.pv.inj _ _ (by omega) hd g; omega
      · exact (h2 g).elim
  · intro c' d hcd hd hlt
    have hc : c' < n := by omega
    have h3 := key c' d hcd hd hlt
    rw [psw_at ((p1.pm hs).lt _ hd), psw_at ((p1.pm hs).lt _ hc), pm_at hd, pm_at hc, psg_at (p1.lt _ hd), psg_at (p1.lt _ hc), swp_swp, swp_swp]
    rcases h3 with g | ⟨g1, g2⟩
    · exact p6 c' d hcd hd g
    · rw [g1, g2]; exact h1
theorem stG_ok {n : Nat} {x y : List Nat} (hx : IsP n x) : ∀ k b c, StI n x y b c → n * (n * n) ≤ k + pw (pa c) n → StI n x y (stG n k b c).1 (stG n k b c).2 ∧ lsM n (stG n k b c).1 (stG n k b c).2 = none
  | 0, b, c, h, hk => by
    refine ⟨h, ?_⟩
    show lsM n b c = none
    cases e : lsM n b c with
    | none => rfl
    | some i =>
      exfalso
      obtain ⟨hi, h1, h2⟩ := lsM_some e
      obtain ⟨p, p1, p2, -⟩ := h
      have h3 := pw_swp h1 (n - (i + 2))
      rw [show i + 2 + (n - (i + 2)) = n by omega] at h3
      have h4 := pw_le (f := fun j => pa c (swp i j)) n (Nat.le_refl n) (fun j hj => p2.lt _ (swp_lt hi hj))
      omega
  | k + 1, b, c, h, hk => by
    unfold stG
    cases e : lsM n b c with
    | none => exact ⟨h, e⟩
    | some i =>
      obtain ⟨hi, h1, h2⟩ := lsM_some e
      refine stG_ok hx k _ _ (h.step hx hi h1 h2) ?_
      have h3 := pw_swp h1 (n - (i + 2))
      rw [show i + 2 + (n - (i + 2)) = n by omega] at h3
      rw [pw_congr (f := pa (psw n c i)) (g := fun j => pa c (swp i j)) n (fun j hj => psw_at hj)]
      omega
theorem StI.start {n : Nat} {x y : List Nat} (hx : IsP n x) (hy : IsP n y) : StI n x y (pv n x) y := by
  refine ⟨pid n, isP_pid n, hy, by rw [pm_pid hx], (pid_pm hy).symm, ?_, ?_⟩
  · rw [add_bx hx (isP_pid n)]
    intro c d hcd hd hlt
    rw [pid_at hd, pid_at (by omega)] at hlt
    omega
  · intro c d hcd hd hlt
    rw [pid_at hd, pid_at (by omega)] at hlt
    omega
theorem StI.fin {n : Nat} {x y b c : List Nat} (hx : IsP n x) (h : StI n x y b c) (he : lsM n b c = none) : Stl n x y (pv n b) c := by
  obtain ⟨p, p1, p2, rfl, p4, p5, p6⟩ := h
  rw [pv_pv (hx.pm p1)]
  exact ⟨p, p1, p2, rfl, p4, p5, p6, fun i hi hlt => lsM_none he hi hlt⟩
theorem stl_settle {n : Nat} {x y : List Nat} (hx : IsP n x) (hy : IsP n y) : Stl n x y (settle n x y).1 (settle n x y).2 := by
  have h := stG_ok hx (n * (n * n)) _ _ (StI.start hx hy) (by omega)
  exact h.1.fin hx h.2
theorem settle_is {n : Nat} {x y x' y' : List Nat} (hx : IsP n x) (hy : IsP n y) (h : Stl n x y x' y') : settle n x y = (x', y') := by
  have := stl_one hx (stl_settle hx hy) h
  exact Prod.ext this.1 this.2
theorem isP_settle {n : Nat} {x y : List Nat} (hx : IsP n x) (hy : IsP n y) : IsP n (settle n x y).1 ∧ IsP n (settle n x y).2 := by
  obtain ⟨p, p1, p2, p3, -⟩ := stl_settle hx hy
  exact ⟨by rw [p3]; exact hx.pm p1, p2⟩
theorem add_pid {n : Nat} {x : List Nat} (hx : IsP n x) : Add n x (pid n) := fun a b hab hb hlt => by
  rw [pid_at (hx.lt _ hb), pid_at (hx.lt _ (by omega))]
  exact hlt
theorem pid_add {n : Nat} {x : List Nat} : Add n (pid n) x := fun a b hab hb hlt => by
  rw [pid_at hb, pid_at (by omega)] at hlt
  omega
theorem sd_pid {n : Nat} {x : List Nat} : Sd n x (pid n) := fun i hi hlt => by
  rw [pid_at hi, pid_at (by omega)] at hlt
  omega
/-- What may go over goes over whole. -/
theorem settle_add {n : Nat} {y z : List Nat} (hy : IsP n y) (hz : IsP n z) (h : Add n y z) : settle n y z = (pm n y z, pid n) :=
  settle_is hy hz ⟨z, hz, isP_pid n, rfl, (pm_pid hz).symm, h, add_pid hz, sd_pid⟩
theorem settle_sd {n : Nat} {y z : List Nat} (hy : IsP n y) (hz : IsP n z) (h : Sd n y z) : settle n y z = (y, z) :=
  settle_is hy hz ⟨pid n, isP_pid n, hz, (pm_pid hy).symm, (pid_pm hz).symm, add_pid hy, pid_add, h⟩

/-- Delta. -/
def pdl (n : Nat) : List Nat := pk n fun i => n - 1 - i
theorem pdl_at {n i : Nat} (h : i < n) : pa (pdl n) i = n - 1 - i := pk_at h
theorem isP_pdl (n : Nat) : IsP n (pdl n) := ⟨pk_len _ _, fun i hi => by rw [pdl_at hi]; omega, fun i j hi hj e => by rw [pdl_at hi, pdl_at hj] at e; omega, fun j hj => ⟨n - 1 - j, by omega, by rw [pdl_at (by omega)]; omega⟩⟩
theorem pv_pdl {n : Nat} : pv n (pdl n) = pdl n := pa_ext (pk_len _ _) (pk_len _ _) fun i hi => by
  have := pv_at (isP_pdl n) (show n - 1 - i < n by omega)
  rw [pdl_at (by omega), show n - 1 - (n - 1 - i) = i by omega] at this
  rw [this, pdl_at hi]
/-- What it becomes on Delta's other side. -/
def pta (n : Nat) (x : List Nat) : List Nat := pk n fun i => n - 1 - pa x (n - 1 - i)
theorem pta_at {n i : Nat} {x : List Nat} (h : i < n) : pa (pta n x) i = n - 1 - pa x (n - 1 - i) := pk_at h
theorem isP_pta {n : Nat} {x : List Nat} (hx : IsP n x) : IsP n (pta n x) := by
  refine ⟨pk_len _ _, fun i hi => by rw [pta_at hi]; omega, fun i j hi hj e => ?_, fun j hj => ?_⟩
  · rw [pta_at hi, pta_at hj] at e
    have h1 := hx.lt (n - 1 - i) (by omega)
    have h2 := hx.lt (n - 1 - j) (by omega)
    have := hx.inj (n - 1 - i) (n - 1 - j) (by omega) (by omega) (by omega)
    omega
  · obtain ⟨k, hk, e⟩ := hx.sur (n - 1 - j) (by omega)
    refine ⟨n - 1 - k, by omega, ?_⟩
    rw [pta_at (by omega), show n - 1 - (n - 1 - k) = k by omega, e]
    omega
theorem pta_pta {n : Nat} {x : List Nat} (hx : IsP n x) : pta n (pta n x) = x := pa_ext (pk_len _ _) hx.len fun i hi => by
  have := hx.lt i hi
  rw [pta_at hi, pta_at (by omega), show n - 1 - (n - 1 - i) = i by omega]
  omega
theorem pta_pm {n : Nat} {x y : List Nat} (hx : IsP n x) : pta n (pm n x y) = pm n (pta n x) (pta n y) := pa_ext (pk_len _ _) (pk_len _ _) fun i hi => by
  have := hx.lt (n - 1 - i) (by omega)
  rw [pta_at hi, pm_at (by omega), pm_at hi, pta_at hi, pta_at (by omega), show n - 1 - (n - 1 - pa x (n - 1 - i)) = pa x (n - 1 - i) by omega]
theorem pv_pta {n : Nat} {x : List Nat} (hx : IsP n x) : pv n (pta n x) = pta n (pv n x) := pa_ext (pk_len _ _) (pk_len _ _) fun i hi => by
  obtain ⟨h1, h2⟩ := pv_lt hx (show n - 1 - i < n by omega)
  have := pv_at (isP_pta hx) (show n - 1 - pa (pv n x) (n - 1 - i) < n by omega)
  rw [pta_at (by omega), show n - 1 - (n - 1 - pa (pv n x) (n - 1 - i)) = pa (pv n x) (n - 1 - i) by omega, h2, show n - 1 - (n - 1 - i) = i by omega] at this
  rw [this, pta_at hi]
theorem add_pta {n : Nat} {x p : List Nat} (hx : IsP n x) (hp : IsP n p) (h : Add n x p) : Add n (pta n x) (pta n p) := by
  intro a b hab hb hlt
  have h1 := hx.lt (n - 1 - a) (by omega)
  have h2 := hx.lt (n - 1 - b) (by omega)
  rw [pta_at hb, pta_at (i := a) (by omega)] at hlt
  rw [pta_at hb, pta_at (i := a) (by omega)]
  rw [pta_at (by omega), pta_at (by omega), show n - 1 - (n - 1 - pa x (n - 1 - a)) = pa x (n - 1 - a) by omega, show n - 1 - (n - 1 - pa x (n - 1 - b)) = pa x (n - 1 - b) by omega]
  have h3 := h (n - 1 - b) (n - 1 - a) (by omega) (by omega) (by omega)
  have h4 := hp.lt _ h1
  have h5 := hp.lt _ h2
  omega
theorem sd_pta {n : Nat} {x y : List Nat} (hx : IsP n x) (hy : IsP n y) (h : Sd n x y) : Sd n (pta n x) (pta n y) := by
  intro i hi hlt
  rw [pv_pta hx]
  rw [pta_at hi, pta_at (i := i) (by omega)] at hlt
  rw [pta_at hi, pta_at (i := i) (by omega)]
  have e : n - 1 - i = n - 1 - (i + 1) + 1 := by omega
  have h1 := hy.lt (n - 1 - i) (by omega)
  have h2 := hy.lt (n - 1 - (i + 1)) (by omega)
  have h3 := h (n - 1 - (i + 1)) (by omega) (by rw [← e]; omega)
  rw [← e] at h3
  have h4 := (pv_lt hx (show n - 1 - i < n by omega)).1
  have h5 := (pv_lt hx (show n - 1 - (i + 1) < n by omega)).1
  omega
theorem settle_pta {n : Nat} {x y : List Nat} (hx : IsP n x) (hy : IsP n y) : settle n (pta n x) (pta n y) = (pta n (settle n x y).1, pta n (settle n x y).2) := by
  obtain ⟨p, p1, p2, p3, p4, p5, p6, p7⟩ := stl_settle hx hy
  have hx' := (isP_settle hx hy).1
  refine settle_is (isP_pta hx) (isP_pta hy) ⟨pta n p, isP_pta p1, isP_pta p2, by rw [p3, pta_pm hx], ?_, add_pta hx p1 p5, add_pta p1 p2 p6, sd_pta hx' p2 p7⟩
  rw [← pta_pm p1, ← p4]
/-- Delta goes ahead of all. -/
theorem settle_pdl {n : Nat} {x : List Nat} (hx : IsP n x) : settle n x (pdl n) = (pdl n, pta n x) := by
  have hp := hx.pv.pm (isP_pdl n)
  have hat : ∀ k, k < n → pa (pm n (pv n x) (pdl n)) k = n - 1 - pa (pv n x) k := fun k hk => by rw [pm_at hk, pdl_at (pv_lt hx hk).1]
  refine settle_is hx (isP_pdl n) ⟨pm n (pv n x) (pdl n), hp, isP_pta hx, ?_, ?_, ?_, ?_, ?_⟩
  · rw [← pm_assoc hx, pm_pv hx, pid_pm (isP_pdl n)]
  · refine pa_ext (pk_len _ _) (pk_len _ _) fun i hi => ?_
    obtain ⟨h1, h2⟩ := pv_lt hx hi
    rw [pm_at hi, hat i hi, pta_at (by omega), show n - 1 - (n - 1 - pa (pv n x) i) = pa (pv n x) i by omega, h2, pdl_at hi]
  · intro a b hab hb hlt
    rw [hat _ (hx.lt _ hb), hat _ (hx.lt _ (by omega)), pv_at hx hb, pv_at hx (i := a) (by omega)]
    omega
  · intro a b hab hb hlt
    obtain ⟨h1, h2⟩ := pv_lt hx hb
    obtain ⟨h3, h4⟩ := pv_lt hx (show a < n by omega)
    rw [hat b hb, hat a (by omega), pta_at (by omega), pta_at (by omega), show n - 1 - (n - 1 - pa (pv n x) b) = pa (pv n x) b by omega, show n - 1 - (n - 1 - pa (pv n x) a) = pa (pv n x) a by omega, h2, h4]
    omega
  · intro i hi hlt
    rw [pv_pdl, pdl_at hi, pdl_at (by omega)]
    omega
theorem pdl_settle {n : Nat} {y : List Nat} (hy : IsP n y) : settle n (pdl n) y = (pdl n, y) := settle_sd (isP_pdl n) hy fun i hi hlt => by
  rw [pv_pdl, pdl_at hi, pdl_at (by omega)]
  omega
theorem pid_settle {n : Nat} {y : List Nat} (hy : IsP n y) : settle n (pid n) y = (y, pid n) := by
  rw [settle_add (isP_pid n) hy pid_add, pid_pm hy]
end Go.Proofs.Ythlmkoiilgjflaa
