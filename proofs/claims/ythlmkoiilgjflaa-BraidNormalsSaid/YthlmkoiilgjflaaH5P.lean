/- Several texts of the proof, one behind the other. -/
import Derived.Test.YthlmkoiilgjflaaH3P
import Derived.Test.YthlmkoiilgjflaaGA1
/- A diagram may be just if no arc stands twice where strands come in, nor where they go out, and none is out of range. Plain mathematics: no program is named here. -/
namespace Go.Proofs.Ythlmkoiilgjflaa

/-- At how many of the first k sides a stands, coming in (p) or going out. -/
def sd (x : Cr) (a : Int) (p : Bool) : Nat → Nat
  | 0 => 0
  | k + 1 => sd x a p k + (if x.arc k = a ∧ x.comes k = p then 1 else 0)
def sdTo (C : List Cr) (a : Int) (p : Bool) : Nat → Nat
  | 0 => 0
  | i + 1 => sdTo C a p i + sd (C.getD i Cr.none) a p 4
theorem sd_in (x : Cr) (a : Int) (k : Nat) : sd x a true k = sideIn x a k := by
  induction k with
  | zero => rfl
  | succ k ih => simp only [sd, sideIn, ih]
theorem sd_out (x : Cr) (a : Int) (k : Nat) : sd x a false k = sideOut x a k := by
  induction k with
  | zero => rfl
  | succ k ih => simp only [sd, sideOut, ih]
theorem sdTo_in (C : List Cr) (a : Int) (i : Nat) : sdTo C a true i = inTo C a i := by
  induction i with
  | zero => rfl
  | succ i ih => simp only [sdTo, inTo, ih, sd_in]
theorem sdTo_out (C : List Cr) (a : Int) (i : Nat) : sdTo C a false i = outTo C a i := by
  induction i with
  | zero => rfl
  | succ i ih => simp only [sdTo, outTo, ih, sd_out]

/-- The sum over the numbers from 1 to m. -/
def sumA (f : Nat → Nat) : Nat → Nat
  | 0 => 0
  | m + 1 => sumA f m + f (m + 1)
theorem sumA_add (f g : Nat → Nat) (m : Nat) : sumA (fun a => f a + g a) m = sumA f m + sumA g m := by
  induction m with
  | zero => rfl
  | succ m ih => simp only [sumA, ih]; omega
theorem sumA_congr {f g : Nat → Nat} (m : Nat) (h : ∀ a, 1 ≤ a → a ≤ m → f a = g a) : sumA f m = sumA g m := by
  induction m with
  | zero => rfl
  | succ m ih => simp only [sumA]; rw [ih fun a h1 h2 => h a h1 (by omega), h (m + 1) (by omega) (Nat.le_refl _)]
theorem sumA_zero (m : Nat) : sumA (fun _ => 0) m = 0 := by
  induction m with
  | zero => rfl
  | succ m ih => simp only [sumA, ih]
theorem sumA_one (m : Nat) : sumA (fun _ => 1) m = m := by
  induction m with
  | zero => rfl
  | succ m ih => simp only [sumA, ih]
theorem sumA_at (v : Int) (m : Nat) : sumA (fun a => if v = (a : Int) then 1 else 0) m = if 1 ≤ v ∧ v ≤ m then 1 else 0 := by
  induction m with
  | zero => simp only [sumA]; rw [if_neg (by omega)]
  | succ m ih =>
    simp only [sumA, ih]
    by_cases h1 : 1 ≤ v ∧ v ≤ m
    · rw [if_pos h1, if_neg (by omega), if_pos (by omega)]
    · rw [if_neg h1]
      by_cases h2 : v = ((m + 1 : Nat) : Int)
      · rw [if_pos h2, if_pos (by omega)]
      · rw [if_neg h2, if_neg (by omega)]
theorem sumA_all {f : Nat → Nat} {m : Nat} (h1 : ∀ a, 1 ≤ a → a ≤ m → f a ≤ 1) (hs : sumA f m = m) : ∀ a, 1 ≤ a → a ≤ m → f a = 1 := by
  have hle : ∀ k, k ≤ m → sumA f k ≤ k := by
    intro k
    induction k with
    | zero => intro _; exact Nat.le_refl _
    | succ k ih =>
      intro hk
      have := ih (by omega)
      have := h1 (k + 1) (by omega) hk
      simp only [sumA]
      omega
  induction m with
  | zero => intro a h2 h3; omega
  | succ m ih =>
    have hm := hle m (by omega)
    have hl := h1 (m + 1) (by omega) (Nat.le_refl _)
    simp only [sumA] at hs
    intro a h2 h3
    by_cases e : a = m + 1
    · rw [e]; omega
    · exact ih (fun b hb1 hb2 => h1 b hb1 (by omega)) (by omega) (fun k hk => hle k (by omega)) a h2 (by omega)

/-- How many of the first k sides come in (p), or go out. -/
def cnt (x : Cr) (p : Bool) : Nat → Nat
  | 0 => 0
  | k + 1 => cnt x p k + (if x.comes k = p then 1 else 0)
theorem cnt_four (x : Cr) (p : Bool) : cnt x p 4 = 2 := by
  obtain ⟨a, b, c, d, q⟩ := x
  cases p <;> cases q <;> rfl
/-- How many of them are in range. -/
def rng (x : Cr) (p : Bool) (m : Nat) : Nat → Nat
  | 0 => 0
  | k + 1 => rng x p m k + (if x.comes k = p ∧ 1 ≤ x.arc k ∧ x.arc k ≤ m then 1 else 0)
def rngTo (C : List Cr) (p : Bool) (m : Nat) : Nat → Nat
  | 0 => 0
  | i + 1 => rngTo C p m i + rng (C.getD i Cr.none) p m 4
theorem sum_sd (x : Cr) (p : Bool) (m k : Nat) : sumA (fun a => sd x a p k) m = rng x p m k := by
  induction k with
  | zero => exact sumA_zero m
  | succ k ih =>
    simp only [sd, rng, sumA_add, ih]
    congr 1
    by_cases h : x.comes k = p
    · rw [sumA_congr m (g := fun a => if x.arc k = (a : Int) then 1 else 0) (fun a _ _ => by simp [h]), sumA_at]
      simp [h]
    · rw [sumA_congr m (g := fun _ => 0) (fun a _ _ => by simp [h]), sumA_zero, if_neg (fun e => h e.1)]
theorem sum_sdTo (C : List Cr) (p : Bool) (m i : Nat) : sumA (fun a => sdTo C a p i) m = rngTo C p m i := by
  induction i with
  | zero => exact sumA_zero m
  | succ i ih => simp only [sdTo, rngTo, sumA_add, ih, sum_sd]
theorem rng_le (x : Cr) (p : Bool) (m k : Nat) : rng x p m k ≤ cnt x p k := by
  induction k with
  | zero => exact Nat.le_refl _
  | succ k ih =>
    simp only [rng, cnt]
    by_cases h : x.comes k = p
    · rw [if_pos h]; split <;> omega
    · rw [if_neg h, if_neg (fun e => h e.1)]; omega
theorem rng_lt (x : Cr) (p : Bool) (m k j : Nat) (hj : j < k) (hc : x.comes j = p) (ho : ¬(1 ≤ x.arc j ∧ x.arc j ≤ m)) : rng x p m k < cnt x p k := by
  induction k with
  | zero => omega
  | succ k ih =>
    simp only [rng, cnt]
    by_cases e : j = k
    · subst e
      have := rng_le x p m j
      rw [if_pos hc, if_neg (fun e => ho e.2)]
      omega
    · have := ih (by omega)
      by_cases h : x.comes k = p
      · rw [if_pos h]; split <;> omega
      · rw [if_neg h, if_neg (fun e => h e.1)]; omega
theorem rng_all (x : Cr) (p : Bool) (m k : Nat) (h : ∀ j, j < k → x.comes j = p → 1 ≤ x.arc j ∧ x.arc j ≤ m) : rng x p m k = cnt x p k := by
  induction k with
  | zero => rfl
  | succ k ih =>
    simp only [rng, cnt]
    rw [ih fun j hj => h j (by omega)]
    by_cases hc : x.comes k = p
    · rw [if_pos hc, if_pos ⟨hc, h k (by omega) hc⟩]
    · rw [if_neg hc, if_neg (fun e => hc e.1)]
theorem rngTo_le (C : List Cr) (p : Bool) (m i : Nat) : rngTo C p m i ≤ 2 * i := by
  induction i with
  | zero => exact Nat.le_refl _
  | succ i ih =>
    have := rng_le (C.getD i Cr.none) p m 4
    rw [cnt_four] at this
    simp only [rngTo]
    omega
theorem rngTo_lt (C : List Cr) (p : Bool) (m n i k : Nat) (hi : i < n) (hk : k < 4) (hc : (C.getD i Cr.none).comes k = p) (ho : ¬(1 ≤ (C.getD i Cr.none).arc k ∧ (C.getD i Cr.none).arc k ≤ m)) : rngTo C p m n < 2 * n := by
  induction n with
  | zero => omega
  | succ n ih =>
    simp only [rngTo]
    by_cases e : i = n
    · subst e
      have h1 := rng_lt (C.getD i Cr.none) p m 4 k hk hc ho
      have h2 := rngTo_le C p m i
      rw [cnt_four] at h1
      omega
    · have h1 := ih (by omega)
      have h2 := rng_le (C.getD n Cr.none) p m 4
      rw [cnt_four] at h2
      omega
theorem rngTo_all (C : List Cr) (p : Bool) (m n : Nat) (h : ∀ i k, i < n → k < 4 → (C.getD i Cr.none).comes k = p → 1 ≤ (C.getD i Cr.none).arc k ∧ (C.getD i Cr.none).arc k ≤ m) : rngTo C p m n = 2 * n := by
  induction n with
  | zero => rfl
  | succ n ih =>
    simp only [rngTo]
    rw [ih fun i k hi => h i k (by omega), rng_all _ p m 4 (fun j hj hc => h n j (by omega) hj hc), cnt_four]
    omega

/-- How often a stood, coming in or going out, ahead of side k of crossing i. -/
def ahd (C : List Cr) (a : Int) (p : Bool) (i k : Nat) : Nat := sdTo C a p i + sd (C.getD i Cr.none) a p k
theorem ahd_next (C : List Cr) (a : Int) (p : Bool) (i k : Nat) : ahd C a p i (k + 1) = ahd C a p i k + (if (C.getD i Cr.none).arc k = a ∧ (C.getD i Cr.none).comes k = p then 1 else 0) := by
  simp only [ahd, sd]; omega
theorem ahd_row (C : List Cr) (a : Int) (p : Bool) (i : Nat) : ahd C a p i 4 = ahd C a p (i + 1) 0 := rfl
theorem sd_mono (x : Cr) (a : Int) (p : Bool) (j k : Nat) (h : j ≤ k) : sd x a p j ≤ sd x a p k := by
  induction k with
  | zero => obtain rfl : j = 0 := by omega
            exact Nat.le_refl _
  | succ k ih =>
    by_cases e : j = k + 1
    · subst e; exact Nat.le_refl _
    · have := ih (by omega)
      simp only [sd]
      omega
theorem sdTo_mono (C : List Cr) (a : Int) (p : Bool) (i n : Nat) (h : i ≤ n) : sdTo C a p i ≤ sdTo C a p n := by
  induction n with
  | zero => obtain rfl : i = 0 := by omega
            exact Nat.le_refl _
  | succ n ih =>
    by_cases e : i = n + 1
    · subst e; exact Nat.le_refl _
    · have := ih (by omega)
      simp only [sdTo]
      omega
theorem ahd_le (C : List Cr) (a : Int) (p : Bool) (i k n : Nat) (hi : i < n) (hk : k ≤ 4) : ahd C a p i k ≤ sdTo C a p n := by
  have h1 := sd_mono (C.getD i Cr.none) a p k 4 hk
  have h2 := sdTo_mono C a p (i + 1) n (by omega)
  simp only [sdTo] at h2
  simp only [ahd]
  omega

/-- Side k of crossing i is in order: its arc is in range, and has not stood on that side before. -/
def fit (C : List Cr) (i k : Nat) : Prop := 1 ≤ (C.getD i Cr.none).arc k ∧ (C.getD i Cr.none).arc k ≤ 2 * (C.length : Int) ∧ ahd C ((C.getD i Cr.none).arc k) ((C.getD i Cr.none).comes k) i k = 0

theorem once_sd {C : List Cr} {a : Nat} (h : onceB C a = true) (p : Bool) : sdTo C a p C.length = 1 := by
  simp only [onceB, Bool.and_eq_true, decide_eq_true_eq] at h
  cases p
  · rw [sdTo_out]; exact h.2
  · rw [sdTo_in]; exact h.1
theorem may_once {C : List Cr} {loops : Int} (h : mayD C loops = true) (a : Nat) (h1 : 1 ≤ a) (h2 : a ≤ 2 * C.length) : onceB C a = true := by
  cases ho : onceB C a with
  | true => rfl
  | false => rw [mayD_no h1 h2 ho] at h; cases h

/-- Where a side is not in order the diagram may not be. -/
theorem unfit_no {C : List Cr} {loops : Int} {i k : Nat} (hi : i < C.length) (hk : k < 4) (h : ¬fit C i k) : mayD C loops = false := by
  cases hm : mayD C loops with
  | false => rfl
  | true =>
    exfalso
    by_cases hr : 1 ≤ (C.getD i Cr.none).arc k ∧ (C.getD i Cr.none).arc k ≤ 2 * (C.length : Int)
    · obtain ⟨a, ha⟩ : ∃ a : Nat, (C.getD i Cr.none).arc k = (a : Int) := ⟨((C.getD i Cr.none).arc k).toNat, by omega⟩
      have h1 := once_sd (may_once hm a (by omega) (by omega)) ((C.getD i Cr.none).comes k)
      have h2 := ahd_le C a ((C.getD i Cr.none).comes k) i (k + 1) C.length hi (by omega)
      rw [ahd_next, if_pos ⟨ha, rfl⟩] at h2
      refine h ⟨hr.1, hr.2, ?_⟩
      rw [ha]
      omega
    · have h1 := rngTo_lt C ((C.getD i Cr.none).comes k) (2 * C.length) C.length i k hi hk rfl (by omega)
      rw [← sum_sdTo, sumA_congr (2 * C.length) (g := fun _ => 1) (fun a h2 h3 => once_sd (may_once hm a h2 h3) _), sumA_one] at h1
      omega
/-- Where all sides are in order the diagram may be. -/
theorem fit_yes {C : List Cr} {loops : Int} (hs : sizeB C loops = true) (h : ∀ i k, i < C.length → k < 4 → fit C i k) : mayD C loops = true := by
  have key : ∀ p, ∀ a : Nat, 1 ≤ a → a ≤ 2 * C.length → sdTo C a p C.length = 1 := by
    intro p
    refine sumA_all (f := fun a => sdTo C a p C.length) ?_ ?_
    · intro a h1 h2
      have hrow : ∀ i, i ≤ C.length → sdTo C a p i ≤ 1 := by
        intro i
        induction i with
        | zero => intro _; exact Nat.zero_le _
        | succ i ih =>
          intro hi
          have ih := ih (by omega)
          have hcol : ∀ k, k ≤ 4 → ahd C a p i k ≤ 1 := by
            intro k
            induction k with
            | zero => intro _; exact ih
            | succ k ihk =>
              intro hk
              have ihk := ihk (by omega)
              rw [ahd_next]
              split
              · next e =>
                have hf := (h i k (by omega) (by omega)).2.2
                rw [e.1, e.2] at hf
                omega
              · omega
          have := hcol 4 (Nat.le_refl _)
          exact this
      exact hrow C.length (Nat.le_refl _)
    · rw [sum_sdTo]
      exact rngTo_all C p _ C.length fun i k hi hk _ => by
        have := h i k hi hk
        exact ⟨this.1, by have := this.2.1; omega⟩
  refine mayD_yes hs fun a h1 h2 => ?_
  simp only [onceB, Bool.and_eq_true, decide_eq_true_eq]
  exact ⟨by rw [← sdTo_in]; exact key true a h1 h2, by rw [← sdTo_out]; exact key false a h1 h2⟩
end Go.Proofs.Ythlmkoiilgjflaa
/- A permutation braid behind a settled row, and what goes on ahead: letters one by one are the same as all at once: plain mathematics. -/
namespace Go.Proofs.Ythlmkoiilgjflaa

/-- A row, told from its end on, with one more behind it: settled from the last one on. -/
def pas (n : Nat) : List (List Nat) → List Nat → List (List Nat)
  | [], y => [y]
  | f :: F, y => (settle n f y).2 :: pas n F (settle n f y).1
/-- Neighbours are settled. -/
def SetL (n : Nat) : List (List Nat) → Prop
  | [] => True
  | f :: F => (∀ e ∈ F.head?, Sd n e f) ∧ SetL n F
def AllP (n : Nat) (F : List (List Nat)) : Prop := ∀ x ∈ F, IsP n x
theorem pas_all {n : Nat} : ∀ {F : List (List Nat)} {y : List Nat}, AllP n F → IsP n y → AllP n (pas n F y)
  | [], y, _, hy => fun x hx => by rw [List.mem_singleton.1 hx]; exact hy
  | f :: F, y, h, hy => fun x hx => by
    have h1 := isP_settle (h f (.head _)) hy
    rcases List.mem_cons.1 hx with e | e
    · rw [e]; exact h1.2
    · exact pas_all (fun z hz => h z (.tail _ hz)) h1.1 x e
theorem pas_len {n : Nat} : ∀ (F : List (List Nat)) (y : List Nat), (pas n F y).length = F.length + 1
  | [], _ => rfl
  | f :: F, y => by show (pas n F _).length + 1 = _; rw [pas_len F]; rfl

/-- A function that keeps what changes places in g changed. -/
def TA (n : Nat) (g : List Nat) (t : Nat → Nat) : Prop := ∀ c d, c < d → d < n → pa g d < pa g c → t (pa g d) < t (pa g c)
theorem add_suf {n : Nat} {p y z : List Nat} (hp : IsP n p) (h1 : Add n p y) (h2 : Add n (pm n p y) z) : Add n y z := by
  intro c d hcd hd hlt
  obtain ⟨u1, u2⟩ := pv_lt hp (show c < n by omega)
  obtain ⟨v1, v2⟩ := pv_lt hp hd
  generalize pa (pv n p) c = u at u1 u2
  generalize pa (pv n p) d = v at v1 v2
  rcases Nat.lt_trichotomy u v with g | g | g
  · have := h2 u v g v1 (by rw [pm_at v1, pm_at u1, u2, v2]; exact hlt)
    rwa [pm_at v1, pm_at u1, u2, v2] at this
  · rw [g, v2] at u2; omega
  · have := h1 v u g u1 (by rw [u2, v2]; exact hcd)
    rw [u2, v2] at this
    omega
theorem add_mid {n : Nat} {f p t : List Nat} (hf : IsP n f) (h1 : Add n f (pm n p t)) (h2 : Add n p t) : Add n (pm n f p) t := by
  intro a b hab hb hlt
  have ha : a < n := by omega
  rw [pm_at hb, pm_at ha] at hlt ⊢
  rcases Nat.lt_trichotomy (pa f a) (pa f b) with g | g | g
  · exact h2 _ _ g (hf.lt _ hb) hlt
  · have := hf.inj _ _ ha hb g; omega
  · have := h1 a b hab hb g
    rwa [pm_at (hf.lt _ hb), pm_at (hf.lt _ ha)] at this
/-- What the last one of a row with one more is. -/
structure Core (n : Nat) (p m g : List Nat) : Prop where
  gp : IsP n g
  q : ∃ q, IsP n q ∧ m = pm n q g ∧ Add n q g
  up : ∀ t : Nat → Nat, TA n p t → TA n g t → TA n m t
theorem core {n : Nat} {F : List (List Nat)} {f p : List Nat} (hF : AllP n F) (hs : SetL n (f :: F)) (hf : IsP n f) (hp : IsP n p) (ha : Add n f p) : ∃ g G, pas n F (pm n f p) = g :: G ∧ Core n p (pm n f p) g := by
  have hm := hf.pm hp
  cases F with
  | nil => exact ⟨_, _, rfl, hm, ⟨pid n, isP_pid n, (pid_pm hm).symm, pid_add⟩, fun t _ h => h⟩
  | cons e F =>
    have he := hF e (.head _)
    have hsd : Sd n e f := hs.1 e rfl
    obtain ⟨q, q1, q2, q3, q4, q5, q6, q7⟩ := stl_settle he hm
    refine ⟨_, _, rfl, q2, ⟨q, q1, q4, q6⟩, fun t h1 h2 => ?_⟩
    have hmi : ∀ a, a < n → pa (pm n f p) a = pa (settle n e (pm n f p)).2 (pa q a) := fun a hn => by
      have := congrArg (fun l => pa l a) q4
      simp only [pm_at (p := q) hn] at this
      exact this
    intro a b hab hb hlt
    refine kk n (pa f) (pa q) (pa p) (pa (settle n e (pm n f p)).2) t (pa (pm n f p)) (fun a hn => pm_at hn) hmi (fun a hn => hf.lt a hn) (fun a hn => q1.lt a hn) (fun a b h3 h4 => hf.inj a b h3 h4) (fun a b h3 h4 => q1.inj a b h3 h4) (fun a b h3 h4 => hm.inj a b h3 h4) ?_ ?_ h1 h2 ?_ b a b (by omega) hab hb hlt
    · intro a b h3 h4 h5
      rw [pm_at h4, pm_at (by omega)]
      exact ha a b h3 h4 h5
    · intro a b h3 h4 h5
      rw [hmi b h4, hmi a (by omega)]
      exact q6 a b h3 h4 h5
    · intro i hi h3 h4
      have h5 := hsd i hi h3
      have h6 := (add_bx he q1).1 q5 i (i + 1) (by omega) hi h4
      omega
theorem dom {n : Nat} {p m g t x : List Nat} (hp : IsP n p) (hm : IsP n m) (ht : IsP n t) (hc : Core n p m g) (h1 : Add n g t) (h2 : Add n p t) (h4 : Add n p (pm n t x)) (h5 : Sd n (pm n m t) x) : Sd n (pm n g t) x := by
  obtain ⟨hg, ⟨q, q1, q2, q3⟩, hup⟩ := hc
  intro i hi hlt
  have hgt := hg.pm ht
  have hmt := hm.pm ht
  obtain ⟨u1, u2⟩ := pv_lt hgt (show i < n by omega)
  obtain ⟨v1, v2⟩ := pv_lt hgt hi
  generalize hu : pa (pv n (pm n g t)) i = u at u1 u2
  generalize hv : pa (pv n (pm n g t)) (i + 1) = v at v1 v2
  refine Nat.lt_of_not_le fun hno => ?_
  have huv : u < v := by
    rcases Nat.lt_or_ge u v with g | g
    · exact g
    · have : u = v := by omega
      rw [this, v2] at u2
      omega
  rw [pm_at u1] at u2
  rw [pm_at v1] at v2
  have tg : TA n g (fun k => swp i (pa t k)) := by
    intro c d hcd hd hl
    refine swp_mono (h1 c d hcd hd hl) fun ⟨e1, e2⟩ => ?_
    have hc : c < n := by omega
    have a1 := hg.inj c v hc v1 (ht.inj _ _ (hg.lt _ hc) (hg.lt _ v1) (by rw [e2, v2]))
    have a2 := hg.inj d u hd u1 (ht.inj _ _ (hg.lt _ hd) (hg.lt _ u1) (by rw [e1, u2]))
    omega
  have tp : TA n p (fun k => swp i (pa t k)) := by
    intro c d hcd hd hl
    have hc : c < n := by omega
    refine swp_mono (h2 c d hcd hd hl) fun ⟨e1, e2⟩ => ?_
    have := h4 c d hcd hd hl
    rw [pm_at (hp.lt _ hd), pm_at (hp.lt _ hc), e1, e2] at this
    omega
  have tm := hup _ tp tg
  have h6 := h5 i hi hlt
  obtain ⟨b1, b2⟩ := pv_lt hmt (show i < n by omega)
  obtain ⟨a1, a2⟩ := pv_lt hmt hi
  generalize pa (pv n (pm n m t)) i = b at b1 b2 h6
  generalize pa (pv n (pm n m t)) (i + 1) = a at a1 a2 h6
  rw [pm_at b1] at b2
  rw [pm_at a1] at a2
  rcases Nat.lt_trichotomy (pa m b) (pa m a) with e | e | e
  · have := tm a b h6 b1 e
    simp only [b2, a2, swp_fst, swp_snd] at this
    omega
  · rw [e, a2] at b2; omega
  · have c1 := hg.inj (pa q a) v (q1.lt _ a1) v1 (ht.inj _ _ (hg.lt _ (q1.lt _ a1)) (hg.lt _ v1) (by rw [v2, ← pm_at (q := g) a1, ← q2, a2]))
    have c2 := hg.inj (pa q b) u (q1.lt _ b1) u1 (ht.inj _ _ (hg.lt _ (q1.lt _ b1)) (hg.lt _ u1) (by rw [u2, ← pm_at (q := g) b1, ← q2, b2]))
    have e1 : pa m a = pa g v := by rw [q2, pm_at a1, c1]
    have e2 : pa m b = pa g u := by rw [q2, pm_at b1, c2]
    have := h1 u v huv v1 (by rw [← e1, ← e2]; exact e)
    omega
/-- Settled rows stay so. -/
theorem pas_set {n : Nat} : ∀ {F : List (List Nat)} {y : List Nat}, AllP n F → SetL n F → IsP n y → SetL n (pas n F y)
  | [], y, _, _, _ => ⟨fun e he => (nomatch he), trivial⟩
  | f :: F, y, hF, hs, hy => by
    have hf := hF f (.head _)
    have hF' : AllP n F := fun z hz => hF z (.tail _ hz)
    obtain ⟨p, p1, p2, p3, p4, p5, p6, p7⟩ := stl_settle hf hy
    refine ⟨fun e he => ?_, pas_set hF' hs.2 (isP_settle hf hy).1⟩
    rw [p3] at he p7
    obtain ⟨g, G, hG, hc⟩ := core hF' hs hf p1 p5
    rw [hG] at he
    obtain rfl : g = e := Option.some.inj he
    have h := dom p1 (hf.pm p1) (isP_pid n) hc (add_pid hc.gp) (add_pid p1) (by rw [pid_pm p2]; exact p6) (by rw [pm_pid (hf.pm p1)]; exact p7)
    rwa [pm_pid hc.gp] at h
/-- LETTERS ONE BY ONE ARE THE SAME AS ALL AT ONCE. -/
theorem pas_pas {n : Nat} : ∀ (F : List (List Nat)), AllP n F → SetL n F → ∀ y z, IsP n y → IsP n z → Add n y z → pas n (pas n F y) z = pid n :: pas n F (pm n y z)
  | [], _, _, y, z, hy, hz, h => by
    show (settle n y z).2 :: pas n [] (settle n y z).1 = _
    rw [settle_add hy hz h]
  | f :: F, hF, hs, y, z, hy, hz, h => by
    have hf := hF f (.head _)
    have hF' : AllP n F := fun z hz => hF z (.tail _ hz)
    have hyz := hy.pm hz
    have h1 := stl_settle hf hy
    have h2 := stl_settle hf hyz
    show (settle n (settle n f y).2 z).2 :: pas n (pas n F (settle n f y).1) (settle n (settle n f y).2 z).1 = pid n :: (settle n f (pm n y z)).2 :: pas n F (settle n f (pm n y z)).1
    generalize (settle n f y).1 = x1 at h1
    generalize (settle n f y).2 = y1 at h1
    generalize (settle n f (pm n y z)).1 = x2 at h2
    generalize (settle n f (pm n y z)).2 = y2 at h2
    obtain ⟨p, p1, p2, rfl, p4, p5, p6, p7⟩ := h1
    obtain ⟨p', q1, q2, rfl, q4, q5, q6, q7⟩ := h2
    have hy1z := p2.pm hz
    have a1 : Add n y1 z := add_suf p1 p6 (by rw [← p4]; exact h)
    rw [settle_add p2 hz a1]
    congr 1
    have hle : LeP n p p' := stl_le hf q1 p1 q4 q5 q6 q7 p5 (by
      have e1 : LeP n p y := by rw [p4]; exact add_le.1 p6
      have e2 : LeP n y (pm n y z) := add_le.1 h
      exact fun c d h1 h2 h3 => e2 c d h1 h2 (e1 c d h1 h2 h3))
    have ht := p1.pv.pm q1
    have et : p' = pm n p (pm n (pv n p) p') := by rw [← pm_assoc p1, pm_pv p1, pid_pm q1]
    generalize pm n (pv n p) p' = t at ht et
    subst et
    have b1 : Add n p t := add_le.2 hle
    have e3 : pm n y1 z = pm n t y2 := by
      refine pm_cancel p1 hy1z (ht.pm q2) ?_
      rw [← pm_assoc p1, ← p4, q4, pm_assoc p1]
    have b2 : Add n t y2 := add_suf p1 b1 q6
    have b3 : Add n (pm n f p) t := add_mid hf q5 b1
    have hm := hf.pm p1
    have ih := pas_pas F hF' hs.2 (pm n f p) t hm ht b3
    obtain ⟨g, G, hG, hc⟩ := core hF' hs hf p1 p5
    obtain ⟨q, r1, r2, r3⟩ := hc.q
    have b4 : Add n g t := add_suf r1 r3 (by rw [← r2]; exact b3)
    rw [hG] at ih ⊢
    have i1 : pas n (g :: G) t = pid n :: pas n G (pm n g t) := by
      show (settle n g t).2 :: pas n G (settle n g t).1 = _
      rw [settle_add hc.gp ht b4]
    have i2 : settle n g (pm n y1 z) = (pm n g t, y2) := by
      refine settle_is hc.gp hy1z ⟨t, ht, q2, rfl, e3, b4, b2, ?_⟩
      refine dom p1 hm ht hc b4 b1 ?_ (by rw [pm_assoc hf]; exact q7)
      rw [← e3]
      have e1 : LeP n p y := by rw [p4]; exact add_le.1 p6
      have e2 : LeP n y (pm n y z) := add_le.1 h
      refine add_le.2 fun c d h1 h2 h3 => ?_
      rw [← pm_assoc p1, ← p4]
      exact e2 c d h1 h2 (e1 c d h1 h2 h3)
    show (settle n g (pm n y1 z)).2 :: pas n G (settle n g (pm n y1 z)).1 = _
    rw [i2]
    rw [i1] at ih
    rw [(List.cons.inj ih).2, pm_assoc hf]
end Go.Proofs.Ythlmkoiilgjflaa
