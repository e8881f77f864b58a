/- Plain mathematics: edges and the edges that cross them; where Euler's number is that of spheres, a set of edges that comes to each corner an even number of times is the boundary of a set of faces. -/
import Derived.Test.YtagaajlbkfkaiaaO0P
namespace Go.Proofs.Ytagaajlbkfkaiaa

/-- How often, modulo two. -/
def xs (g : Nat → Bool) : Nat → Bool
  | 0 => false
  | m + 1 => xor (xs g m) (g m)
theorem xs_congr {g h : Nat → Bool} {m : Nat} (e : ∀ i, i < m → g i = h i) : xs g m = xs h m := by
  induction m with
  | zero => rfl
  | succ m ih => simp only [xs]; rw [ih fun i hi => e i (by omega), e m (by omega)]
theorem xs_none {g : Nat → Bool} {m : Nat} (e : ∀ i, i < m → g i = false) : xs g m = false := by
  induction m with
  | zero => rfl
  | succ m ih => simp only [xs]; rw [ih fun i hi => e i (by omega), e m (by omega)]; rfl
theorem xs_xor (g h : Nat → Bool) (m : Nat) : xs (fun i => xor (g i) (h i)) m = xor (xs g m) (xs h m) := by
  induction m with
  | zero => rfl
  | succ m ih =>
    simp only [xs]
    rw [ih]
    cases xs g m <;> cases xs h m <;> cases g m <;> cases h m <;> rfl
/-- One alone, the last: odd. -/
theorem xs_last {g : Nat → Bool} {m i : Nat} (hi : i < m) (hg : g i = true) (lo : ∀ j, j < i → g j = false) (hi2 : ∀ j, i < j → j < m → g j = false) : xs g m = true := by
  induction m with
  | zero => omega
  | succ m ih =>
    simp only [xs]
    by_cases e : i = m
    · subst e
      rw [xs_none lo, hg]; rfl
    · rw [ih (by omega) fun j h1 h2 => hi2 j h1 (by omega), hi2 m (by omega) (by omega)]; rfl
/-- How many. -/
def cntZ (g : Nat → Bool) : Nat → Nat
  | 0 => 0
  | m + 1 => cntZ g m + (if g m = true then 1 else 0)
theorem cntZ_not (g : Nat → Bool) (m : Nat) : cntZ g m + cntZ (fun i => !g i) m = m := by
  induction m with
  | zero => rfl
  | succ m ih =>
    simp only [cntZ]
    by_cases h : g m = true
    · simp [h]; omega
    · simp [h]; omega
theorem cntZ_le {g h : Nat → Bool} {m : Nat} (e : ∀ i, i < m → g i = true → h i = true) : cntZ g m ≤ cntZ h m := by
  induction m with
  | zero => exact Nat.le_refl _
  | succ m ih =>
    have h1 := ih fun i hi => e i (by omega)
    simp only [cntZ]
    by_cases hg : g m = true
    · rw [if_pos hg, if_pos (e m (by omega) hg)]; omega
    · rw [if_neg hg]; omega
theorem cntZ_same {g h : Nat → Bool} {m : Nat} (e : ∀ i, i < m → g i = true → h i = true) (hc : cntZ h m ≤ cntZ g m) : ∀ i, i < m → h i = true → g i = true := by
  induction m with
  | zero => intro i hi; omega
  | succ m ih =>
    have h1 := cntZ_le (m := m) fun i hi => e i (by omega)
    simp only [cntZ] at hc
    intro i hi hh
    by_cases hg : g m = true
    · have h2 := e m (by omega) hg
      rw [if_pos hg, if_pos h2] at hc
      by_cases ei : i = m
      · rw [ei]; exact hg
      · exact ih (fun i hi => e i (by omega)) (by omega) i (by omega) hh
    · rw [if_neg hg] at hc
      by_cases h2 : h m = true
      · rw [if_pos h2] at hc; omega
      · rw [if_neg h2] at hc
        by_cases ei : i = m
        · rw [ei] at hh; exact absurd hh h2
        · exact ih (fun i hi => e i (by omega)) (by omega) i (by omega) hh
/-- The edges of a set, among the first. -/
def incl (E : Nat → Nat × Nat) (K : Nat → Bool) : Nat → List (Nat × Nat)
  | 0 => []
  | m + 1 => incl E K m ++ (if K m = true then [E m] else [])
theorem incl_mem {E : Nat → Nat × Nat} {K : Nat → Bool} {m : Nat} {e : Nat × Nat} : e ∈ incl E K m ↔ ∃ i, i < m ∧ K i = true ∧ e = E i := by
  induction m with
  | zero => simp [incl]
  | succ m ih =>
    simp only [incl, List.mem_append, ih]
    constructor
    · rintro (⟨i, h1, h2, h3⟩ | h)
      · exact ⟨i, by omega, h2, h3⟩
      · by_cases hk : K m = true
        · rw [if_pos hk] at h
          exact ⟨m, by omega, hk, List.mem_singleton.1 h⟩
        · rw [if_neg hk] at h; cases h
    · rintro ⟨i, h1, h2, h3⟩
      by_cases e2 : i = m
      · subst e2
        exact Or.inr (by rw [if_pos h2, h3]; exact List.mem_singleton.2 rfl)
      · exact Or.inl ⟨i, by omega, h2, h3⟩
/-- What the edges of a set join, each by its lowest. -/
def cls (E : Nat → Nat × Nat) (K : Nat → Bool) (n m : Nat) : List Nat := mers (List.range n) (incl E K m)
theorem cls_least {E : Nat → Nat × Nat} {K : Nat → Bool} {n m : Nat} (hE : ∀ i, i < m → (E i).1 < n ∧ (E i).2 < n) : Least (incl E K m) n (cls E K n m) := by
  have h := mers_least n (incl E K m) [] (List.range n) (fun e he => by
    obtain ⟨i, h1, -, rfl⟩ := incl_mem.1 (by simpa using he)
    exact hE i h1) (least_nil n)
  simpa [cls] using h
theorem cls_next {E : Nat → Nat × Nat} {K : Nat → Bool} {n m : Nat} (h : K m = true) : cls E K n (m + 1) = mer (cls E K n m) (E m).1 (E m).2 := by
  unfold cls
  simp only [incl]
  rw [if_pos h, mers_app]
  rfl
theorem cls_skip {E : Nat → Nat × Nat} {K : Nat → Bool} {n m : Nat} (h : ¬ K m = true) : cls E K n (m + 1) = cls E K n m := by
  unfold cls
  simp only [incl]
  rw [if_neg h, List.append_nil]
theorem mer_same {W : List Nat} {x y : Nat} (h : W.getD x 0 = W.getD y 0) : mer W x y = W := by
  unfold mer
  rw [h]
  have : ∀ z : Nat, (if z = max (W.getD y 0) (W.getD y 0) then min (W.getD y 0) (W.getD y 0) else z) = z := fun z => by
    split <;> omega
  simp only [this]
  exact List.map_id' W
/-- How many are the lowest of theirs. -/
def rt (W : List Nat) : Nat → Nat
  | 0 => 0
  | k + 1 => rt W k + (if W.getD k 0 = k then 1 else 0)
theorem rt_all (n : Nat) : ∀ k, k ≤ n → rt (List.range n) k = k := by
  intro k
  induction k with
  | zero => intro _; rfl
  | succ k ih =>
    intro hk
    have e : (List.range n).getD k 0 = k := by simp [List.getD_eq_getElem?_getD, show k < n by omega]
    simp only [rt]
    rw [ih (by omega), if_pos e]
theorem rt_mer {Ed : List (Nat × Nat)} {n : Nat} {W : List Nat} (h : Least Ed n W) {x y : Nat} (hx : x < n) (hy : y < n) (hne : W.getD x 0 ≠ W.getD y 0) : ∀ k, k ≤ n → rt (mer W x y) k + (if max (W.getD x 0) (W.getD y 0) < k then 1 else 0) = rt W k := by
  have rx := h.root hx
  have ry := h.root hy
  intro k
  induction k with
  | zero => intro _; simp [rt]
  | succ k ih =>
    intro hk
    have i1 := ih (by omega)
    have hm := mer_at W x y k (by rw [h.1]; omega)
    simp only [rt]
    by_cases he : k = max (W.getD x 0) (W.getD y 0)
    · have hroot : W.getD k 0 = k := by
        rcases Nat.le_total (W.getD x 0) (W.getD y 0) with hle | hle
        · have : k = W.getD y 0 := by omega
          rw [this]; exact ry
        · have : k = W.getD x 0 := by omega
          rw [this]; exact rx
      rw [if_pos (by rw [hroot]; exact he)] at hm
      rw [if_neg (by omega)] at i1
      rw [if_pos hroot, if_neg (by rw [hm]; omega), if_pos (by omega)]
      omega
    · by_cases hr : W.getD k 0 = k
      · rw [if_neg (by rw [hr]; exact he)] at hm
        rw [if_pos hr, if_pos (by rw [hm]; exact hr)]
        by_cases hq : max (W.getD x 0) (W.getD y 0) < k
        · rw [if_pos hq] at i1
          rw [if_pos (by omega)]
          omega
        · rw [if_neg hq] at i1
          rw [if_neg (by omega)]
          omega
      · have h2 : ¬ (mer W x y).getD k 0 = k := by
          rw [hm]
          have hle := h.le (v := k) (by omega)
          have hlx := h.lt hx
          split
          · rename_i q
            intro e
            rcases Nat.le_total (W.getD x 0) (W.getD y 0) with hle2 | hle2
            · have e1 : k = W.getD x 0 := by omega
              exact hr (by rw [e1]; exact rx)
            · have e1 : k = W.getD y 0 := by omega
              exact hr (by rw [e1]; exact ry)
          · exact hr
        rw [if_neg hr, if_neg h2]
        by_cases hq : max (W.getD x 0) (W.getD y 0) < k
        · rw [if_pos hq] at i1
          rw [if_pos (by omega)]
          omega
        · rw [if_neg hq] at i1
          rw [if_neg (by omega)]
          omega
/-- The edge joins what was not joined. -/
def newE (E : Nat → Nat × Nat) (K : Nat → Bool) (n i : Nat) : Bool := K i && decide ((cls E K n i).getD (E i).1 0 ≠ (cls E K n i).getD (E i).2 0)
theorem rt_cntZ {E : Nat → Nat × Nat} {K : Nat → Bool} {n m : Nat} (hE : ∀ i, i < m → (E i).1 < n ∧ (E i).2 < n) : rt (cls E K n m) n + cntZ (newE E K n) m = n := by
  induction m with
  | zero => simp [cls, incl, mers, cntZ, rt_all n n (Nat.le_refl _)]
  | succ m ih =>
    have h1 := ih fun i hi => hE i (by omega)
    have hL := cls_least (E := E) (K := K) (n := n) (m := m) fun i hi => hE i (by omega)
    simp only [cntZ]
    by_cases hk : K m = true
    · rw [cls_next hk]
      by_cases hne : (cls E K n m).getD (E m).1 0 = (cls E K n m).getD (E m).2 0
      · rw [mer_same hne, if_neg (by simp [newE, hne, -List.getD_eq_getElem?_getD])]
        omega
      · have h2 := rt_mer hL (hE m (by omega)).1 (hE m (by omega)).2 hne n (Nat.le_refl _)
        rw [if_pos (by have := hL.lt (hE m (by omega)).1; have := hL.lt (hE m (by omega)).2; omega)] at h2
        rw [if_pos (by simp [newE, hk, hne, -List.getD_eq_getElem?_getD])]
        omega
    · rw [cls_skip hk, if_neg (by simp [newE, hk])]
      omega
/-- A set of edges with no ring holds no edges that come to each corner an even number of times, but none at all. -/
theorem even_forest {E : Nat → Nat × Nat} {K B : Nat → Bool} {n m : Nat} (hE : ∀ i, i < m → (E i).1 < n ∧ (E i).2 < n) (hF : ∀ i, i < m → K i = true → newE E K n i = true) (hB : ∀ i, i < m → B i = true → K i = true)
    (hev : ∀ S : Nat → Bool, xs (fun i => B i && xor (S (E i).1) (S (E i).2)) m = false) : ∀ i, i < m → B i = false := by
  have key : ∀ d i, i < m → m ≤ i + d → B i = false := by
    intro d
    induction d with
    | zero => intro i h1 h2; omega
    | succ d ih =>
      intro i h1 h2
      by_cases hb : B i = true
      · exfalso
        have hn := hF i h1 (hB i h1 hb)
        have hL := cls_least (E := E) (K := K) (n := n) (m := i) fun j hj => hE j (by omega)
        have h3 := xs_last (g := fun j => B j && xor (decide ((cls E K n i).getD (E j).1 0 = (cls E K n i).getD (E i).1 0)) (decide ((cls E K n i).getD (E j).2 0 = (cls E K n i).getD (E i).1 0))) h1 (by
          simp only [newE, Bool.and_eq_true, decide_eq_true_eq] at hn
          have : ¬ (cls E K n i).getD (E i).2 0 = (cls E K n i).getD (E i).1 0 := fun e => hn.2 e.symm
          simp [hb, this, -List.getD_eq_getElem?_getD]) (fun j hj => by
          by_cases hbj : B j = true
          · have hs : (cls E K n i).getD (E j).1 0 = (cls E K n i).getD (E j).2 0 := (hL.same (hE j (by omega)).1 (hE j (by omega)).2).2 (Con.edge (incl_mem.2 ⟨j, hj, hB j (by omega) hbj, rfl⟩))
            simp only [hs, Bool.xor_self, Bool.and_false]
          · simp [hbj]) (fun j h4 h5 => by
          rw [ih j h5 (by omega)]; rfl)
        have h4 := hev fun v => decide ((cls E K n i).getD v 0 = (cls E K n i).getD (E i).1 0)
        rw [h3] at h4
        cases h4
      · simpa using hb
  exact fun i hi => key m i hi (by omega)
/-- The edges that join what was not joined, one behind the other, leave nothing out. -/
theorem greedy {E : Nat → Nat × Nat} {n : Nat} {K : Nat → Bool} (hK : ∀ i, K i = newE E (fun _ => true) n i) : ∀ m, cls E K n m = cls E (fun _ => true) n m := by
  intro m
  induction m with
  | zero => rfl
  | succ m ih =>
    rw [cls_next (K := fun _ => true) rfl]
    by_cases hk : K m = true
    · rw [cls_next hk, ih]
    · rw [cls_skip hk, ih]
      rw [hK m] at hk
      simp only [newE, Bool.true_and, decide_eq_true_eq, Classical.not_not] at hk
      exact (mer_same hk).symm
theorem con_all {E : Nat → Nat × Nat} {K : Nat → Bool} {m : Nat} (h : ∀ i, i < m → Con (incl E K m) (E i).1 (E i).2) {x y : Nat} : Con (incl E K m) x y ↔ Con (incl E (fun _ => true) m) x y := by
  constructor
  · intro hc S hS hx
    exact hc S (fun e he => hS e (by
      obtain ⟨i, h1, -, h3⟩ := incl_mem.1 he
      exact incl_mem.2 ⟨i, h1, rfl, h3⟩)) hx
  · intro hc S hS hx
    refine hc S (fun e he => ?_) hx
    obtain ⟨i, h1, -, rfl⟩ := incl_mem.1 he
    exact ⟨fun q => h i h1 S hS q, fun q => (h i h1).symm S hS q⟩
/-- Where Euler's number is that of spheres, a set of edges that comes to each corner an even number of times parts two sets of faces. -/
theorem sphere_even {E D : Nat → Nat × Nat} {m n f : Nat} (hE : ∀ i, i < m → (E i).1 < n ∧ (E i).2 < n) (hD : ∀ i, i < m → (D i).1 < f ∧ (D i).2 < f)
    (hX : ∀ S g : Nat → Bool, xs (fun i => xor (S (E i).1) (S (E i).2) && xor (g (D i).1) (g (D i).2)) m = false)
    (hEu : m + rt (cls E (fun _ => true) n m) n + rt (cls D (fun _ => true) f m) f ≤ n + f)
    (A : Nat → Bool) (hA : ∀ S : Nat → Bool, xs (fun i => A i && xor (S (E i).1) (S (E i).2)) m = false) :
    ∃ g : Nat → Bool, ∀ i, i < m → A i = xor (g (D i).1) (g (D i).2) := by
  obtain ⟨T, hT⟩ : ∃ T : Nat → Bool, ∀ i, T i = newE D (fun _ => true) f i := ⟨_, fun _ => rfl⟩
  have hg := greedy hT
  have hTF : ∀ i, i < m → T i = true → newE D T f i = true := fun i _ h => by
    have h2 := h
    rw [hT i] at h2
    simp only [newE, Bool.true_and] at h2
    simp only [newE, h, Bool.true_and]
    rw [hg i]
    exact h2
  -- the faces along the forest
  have step : ∀ k, k ≤ m → ∃ g : Nat → Bool, ∀ i, i < k → T i = true → A i = xor (g (D i).1) (g (D i).2) := by
    intro k
    induction k with
    | zero => intro _; exact ⟨fun _ => false, fun i hi => by omega⟩
    | succ k ih =>
      intro hk
      obtain ⟨g, hgk⟩ := ih (by omega)
      by_cases hq : T k = true ∧ A k ≠ xor (g (D k).1) (g (D k).2)
      · have hn := hTF k (by omega) hq.1
        simp only [newE, hq.1, Bool.true_and, decide_eq_true_eq] at hn
        have hL := cls_least (E := D) (K := T) (n := f) (m := k) fun j hj => hD j (by omega)
        refine ⟨fun v => xor (g v) (decide ((cls D T f k).getD v 0 = (cls D T f k).getD (D k).2 0)), fun i hi ht => ?_⟩
        by_cases e : i = k
        · subst e
          have h2 := hq.2
          simp only [hn, decide_false, decide_true]
          revert h2
          cases A i <;> cases g (D i).1 <;> cases g (D i).2 <;> simp
        · have hs : (cls D T f k).getD (D i).1 0 = (cls D T f k).getD (D i).2 0 := (hL.same (hD i (by omega)).1 (hD i (by omega)).2).2 (Con.edge (incl_mem.2 ⟨i, by omega, ht, rfl⟩))
          have h1 := hgk i (by omega) ht
          simp only [hs]
          rw [h1]
          cases g (D i).1 <;> cases g (D i).2 <;> cases (decide ((cls D T f k).getD (D i).2 0 = (cls D T f k).getD (D k).2 0)) <;> rfl
      · refine ⟨g, fun i hi ht => ?_⟩
        by_cases e : i = k
        · subst e
          exact Classical.byContradiction fun h => hq ⟨ht, h⟩
        · exact hgk i (by omega) ht
  obtain ⟨g, hgm⟩ := step m (Nat.le_refl _)
  refine ⟨g, ?_⟩
  -- the others join all corners
  have hcon : ∀ i, i < m → (cls E (fun j => !T j) n m).getD (E i).1 0 = (cls E (fun j => !T j) n m).getD (E i).2 0 := by
    intro i hi
    have hL := cls_least (E := E) (K := fun j => !T j) (n := n) (m := m) hE
    refine Classical.byContradiction fun hne => ?_
    have h1 := even_forest (E := D) (K := T) (B := fun j => xor (decide ((cls E (fun j => !T j) n m).getD (E j).1 0 = (cls E (fun j => !T j) n m).getD (E i).1 0)) (decide ((cls E (fun j => !T j) n m).getD (E j).2 0 = (cls E (fun j => !T j) n m).getD (E i).1 0))) hD hTF (fun j hj hb => by
      refine Classical.byContradiction fun ht => ?_
      have hs : (cls E (fun j => !T j) n m).getD (E j).1 0 = (cls E (fun j => !T j) n m).getD (E j).2 0 := (hL.same (hE j hj).1 (hE j hj).2).2 (Con.edge (incl_mem.2 ⟨j, hj, by simpa using ht, rfl⟩))
      simp only [hs, Bool.xor_self] at hb
      cases hb) (fun S => hX (fun v => decide ((cls E (fun j => !T j) n m).getD v 0 = (cls E (fun j => !T j) n m).getD (E i).1 0)) S) i hi
    have : ¬ (cls E (fun j => !T j) n m).getD (E i).2 0 = (cls E (fun j => !T j) n m).getD (E i).1 0 := fun e => hne e.symm
    simp [this, -List.getD_eq_getElem?_getD] at h1
  have hLK := cls_least (E := E) (K := fun j => !T j) (n := n) (m := m) hE
  have hLA := cls_least (E := E) (K := fun _ => true) (n := n) (m := m) hE
  have heq : cls E (fun j => !T j) n m = cls E (fun _ => true) n m := by
    have hc : ∀ {x y : Nat}, Con (incl E (fun j => !T j) m) x y ↔ Con (incl E (fun _ => true) m) x y := fun {x y} => con_all fun i hi => (hLK.same (hE i hi).1 (hE i hi).2).1 (hcon i hi)
    refine Least.eq (E := incl E (fun _ => true) m) (n := n) ⟨hLK.1, fun v hv => ⟨hc.1 (hLK.2 v hv).1, fun u hu => (hLK.2 v hv).2 u (hc.2 hu)⟩⟩ hLA
  -- so they are a forest
  have c1 := rt_cntZ (E := E) (K := fun j => !T j) (n := n) (m := m) hE
  have c2 := rt_cntZ (E := D) (K := fun _ => true) (n := f) (m := m) hD
  have c3 := cntZ_not T m
  have c4 : cntZ (newE D (fun _ => true) f) m = cntZ T m := by
    have : newE D (fun _ => true) f = T := funext fun i => (hT i).symm
    rw [this]
  rw [heq] at c1
  have hKF : ∀ i, i < m → (!T i) = true → newE E (fun j => !T j) n i = true := cntZ_same (fun i _ h => by
    simp only [newE, Bool.and_eq_true] at h
    exact h.1) (by omega)
  have hz := even_forest (E := E) (K := fun j => !T j) (B := fun i => xor (A i) (xor (g (D i).1) (g (D i).2))) hE hKF (fun i hi hb => by
    by_cases ht : T i = true
    · rw [hgm i hi ht] at hb
      simp at hb
    · simpa using ht) (fun S => by
    have h1 := hA S
    have h2 := hX S g
    have h3 := xs_xor (fun i => A i && xor (S (E i).1) (S (E i).2)) (fun i => xor (S (E i).1) (S (E i).2) && xor (g (D i).1) (g (D i).2)) m
    rw [h1, h2] at h3
    rw [← show xor false false = false from rfl, ← h3]
    refine xs_congr fun i _ => ?_
    cases A i <;> cases g (D i).1 <;> cases g (D i).2 <;> cases S (E i).1 <;> cases S (E i).2 <;> rfl)
  intro i hi
  have := hz i hi
  revert this
  cases A i <;> cases g (D i).1 <;> cases g (D i).2 <;> simp
end Go.Proofs.Ytagaajlbkfkaiaa
