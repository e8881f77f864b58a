/- Several texts of the proof, one behind the other. -/
import Derived.Test.YtlcogbcpmneknaaW6P
import Derived.Test.YtlcogbcpmneknaaW2P
/- Plain mathematics: edges and the edges that cross them; where Euler's number is that of spheres, a set of edges that comes to each corner an even number of times is the boundary of a set of faces. -/
namespace Go.Proofs.Ytlcogbcpmneknaa

/-- How often, modulo two. -/
def xs (g : Nat → Bool) : Nat → Bool
  | 0 => false
  | m + 1 => xor (xs g m) (g m)
theorem xs_congr {g h : Nat → Bool} {m : Nat} (e : ∀ i, i < m → g i = h i) : xs g m = xs h m := by
  induction m with
  | zero => rfl
  | succ m ih => simp only [xs]; rw [ih fun i hi => e i (by omega), e m (by omega)]
theorem xs_none {g : Nat → Bool} {m : Nat} (e : ∀ i, i < m → g i = false) : xs g m = false := by
  induction m with
  | zero => rfl
  | succ m ih => simp only [xs]; rw [ih fun i hi => e i (by omega), e m (by omega)]; rfl
theorem xs_xor (g h : Nat → Bool) (m : Nat) : xs (fun i => xor (g i) (h i)) m = xor (xs g m) (xs h m) := by
  induction m with
  | zero => rfl
  | succ m ih =>
    simp only [xs]
    rw [ih]
    cases xs g m <;> cases xs h m <;> cases g m <;> cases h m <;> rfl
/-- One alone, the last: odd. -/
theorem xs_last {g : Nat → Bool} {m i : Nat} (hi : i < m) (hg : g i = true) (lo : ∀ j, j < i → g j = false) (hi2 : ∀ j, i < j → j < m → g j = false) : xs g m = true := by
  induction m with
  | zero => omega
  | succ m ih =>
    simp only [xs]
    by_cases e : i = m
    · subst e
      rw [xs_none lo, hg]; rfl
    · rw [ih (by omega) fun j h1 h2 => hi2 j h1 (by omega), hi2 m (by omega) (by omega)]; rfl
/-- How many. -/
def cntZ (g : Nat → Bool) : Nat → Nat
  | 0 => 0
  | m + 1 => cntZ g m + (if g m = true then 1 else 0)
theorem cntZ_not (g : Nat → Bool) (m : Nat) : cntZ g m + cntZ (fun i => !g i) m = m := by
  induction m with
  | zero => rfl
  | succ m ih =>
    simp only [cntZ]
    by_cases h : g m = true
    · simp [h]; omega
    · simp [h]; omega
theorem cntZ_le {g h : Nat → Bool} {m : Nat} (e : ∀ i, i < m → g i = true → h i = true) : cntZ g m ≤ cntZ h m := by
  induction m with
  | zero => exact Nat.le_refl _
  | succ m ih =>
    have h1 := ih fun i hi => e i (by omega)
    simp only [cntZ]
    by_cases hg : g m = true
    · rw [if_pos hg, if_pos (e m (by omega) hg)]; omega
    · rw [if_neg hg]; omega
theorem cntZ_same {g h : Nat → Bool} {m : Nat} (e : ∀ i, i < m → g i = true → h i = true) (hc : cntZ h m ≤ cntZ g m) : ∀ i, i < m → h i = true → g i = true := by
  induction m with
  | zero => intro i hi; omega
  | succ m ih =>
    have h1 := cntZ_le (m := m) fun i hi => e i (by omega)
    simp only [cntZ] at hc
    intro i hi hh
    by_cases hg : g m = true
    · have h2 := e m (by omega) hg
      rw [if_pos hg, if_pos h2] at hc
      by_cases ei : i = m
      · rw [ei]; exact hg
      · exact ih (fun i hi => e i (by omega)) (by omega) i (by omega) hh
    · rw [if_neg hg] at hc
      by_cases h2 : h m = true
      · rw [if_pos h2] at hc; omega
      · rw [if_neg h2] at hc
        by_cases ei : i = m
        · rw [ei] at hh; exact absurd hh h2
        · exact ih (fun i hi => e i (by omega)) (by omega) i (by omega) hh
/-- The edges of a set, among the first. -/
def incl (E : Nat → Nat × Nat) (K : Nat → Bool) : Nat → List (Nat × Nat)
  | 0 => []
  | m + 1 => incl E K m ++ (if K m = true then [E m] else [])
theorem incl_mem {E : Nat → Nat × Nat} {K : Nat → Bool} {m : Nat} {e : Nat × Nat} : e ∈ incl E K m ↔ ∃ i, i < m ∧ K i = true ∧ e = E i := by
  induction m with
  | zero => simp [incl]
  | succ m ih =>
    simp only [incl, List.mem_append, ih]
    constructor
    · rintro (⟨i, h1, h2, h3⟩ | h)
      · exact ⟨i, by omega, h2, h3⟩
      · by_cases hk : K m = true
        · rw [if_pos hk] at h
          exact ⟨m, by omega, hk, List.mem_singleton.1 h⟩
        · rw [if_neg hk] at h; cases h
    · rintro ⟨i, h1, h2, h3⟩
      by_cases e2 : i = m
      · subst e2
        exact Or.inr (by rw [if_pos h2, h3]; exact List.mem_singleton.2 rfl)
      · exact Or.inl ⟨i, by omega, h2, h3⟩
/-- What the edges of a set join, each by its lowest. -/
def cls (E : Nat → Nat × Nat) (K : Nat → Bool) (n m : Nat) : List Nat := mers (List.range n) (incl E K m)
theorem cls_least {E : Nat → Nat × Nat} {K : Nat → Bool} {n m : Nat} (hE : ∀ i, i < m → (E i).1 < n ∧ (E i).2 < n) : Least (incl E K m) n (cls E K n m) := by
  have h := mers_least n (incl E K m) [] (List.range n) (fun e he => by
    obtain ⟨i, h1, -, rfl⟩ := incl_mem.1 (by simpa using he)
    exact hE i h1) (least_nil n)
  simpa [cls] using h
theorem cls_next {E : Nat → Nat × Nat} {K : Nat → Bool} {n m : Nat} (h : K m = true) : cls E K n (m + 1) = mer (cls E K n m) (E m).1 (E m).2 := by
  unfold cls
  simp only [incl]
  rw [if_pos h, mers_app]
  rfl
theorem cls_skip {E : Nat → Nat × Nat} {K : Nat → Bool} {n m : Nat} (h : ¬ K m = true) : cls E K n (m + 1) = cls E K n m := by
  unfold cls
  simp only [incl]
  rw [if_neg h, List.append_nil]
theorem mer_same {W : List Nat} {x y : Nat} (h : W.getD x 0 = W.getD y 0) : mer W x y = W := by
  unfold mer
  rw [h]
  have : ∀ z : Nat, (if z = max (W.getD y 0) (W.getD y 0) then min (W.getD y 0) (W.getD y 0) else z) = z := fun z => by
    split <;> omega
  simp only [this]
  exact List.map_id' W
/-- How many are the lowest of theirs. -/
def rt (W : List Nat) : Nat → Nat
  | 0 => 0
  | k + 1 => rt W k + (if W.getD k 0 = k then 1 else 0)
theorem rt_all (n : Nat) : ∀ k, k ≤ n → rt (List.range n) k = k := by
  intro k
  induction k with
  | zero => intro _; rfl
  | succ k ih =>
    intro hk
    have e : (List.range n).getD k 0 = k := by simp [List.getD_eq_getElem?_getD, show k < n by omega]
    simp only [rt]
    rw [ih (by omega), if_pos e]
theorem rt_mer {Ed : List (Nat × Nat)} {n : Nat} {W : List Nat} (h : Least Ed n W) {x y : Nat} (hx : x < n) (hy : y < n) (hne : W.getD x 0 ≠ W.getD y 0) : ∀ k, k ≤ n → rt (mer W x y) k + (if max (W.getD x 0) (W.getD y 0) < k then 1 else 0) = rt W k := by
  have rx := h.root hx
  have ry := h.root hy
  intro k
  induction k with
  | zero => intro _; simp [rt]
  | succ k ih =>
    intro hk
    have i1 := ih (by omega)
    have hm := mer_at W x y k (by rw [h.1]; omega)
    simp only [rt]
    by_cases he : k = max (W.getD x 0) (W.getD y 0)
    · have hroot : W.getD k 0 = k := by
        rcases Nat.le_total (W.getD x 0) (W.getD y 0) with hle | hle
        · have : k = W.getD y 0 := by omega
          rw [this]; exact ry
        · have : k = W.getD x 0 := by omega
          rw [this]; exact rx
      rw [if_pos (by rw [hroot]; exact he)] at hm
      rw [if_neg (by omega)] at i1
      rw [if_pos hroot, if_neg (by rw [hm]; omega), if_pos (by omega)]
      omega
    · by_cases hr : W.getD k 0 = k
      · rw [if_neg (by rw [hr]; exact he)] at hm
        rw [if_pos hr, if_pos (by rw [hm]; exact hr)]
        by_cases hq : max (W.getD x 0) (W.getD y 0) < k
        · rw [if_pos hq] at i1
          rw [if_pos (by omega)]
          omega
        · rw [if_neg hq] at i1
          rw [if_neg (by omega)]
          omega
      · have h2 : ¬ (mer W x y).getD k 0 = k := by
          rw [hm]
          have hle := h.le (v := k) (by omega)
          have hlx := h.lt hx
          split
          · rename_i q
            intro e
            rcases Nat.le_total (W.getD x 0) (W.getD y 0) with hle2 | hle2
            · have e1 : k = W.getD x 0 := by omega
              exact hr (by rw [e1]; exact rx)
            · have e1 : k = W.getD y 0 := by omega
              exact hr (by rw [e1]; exact ry)
          · exact hr
        rw [if_neg hr, if_neg h2]
        by_cases hq : max (W.getD x 0) (W.getD y 0) < k
        · rw [if_pos hq] at i1
          rw [if_pos (by omega)]
          omega
        · rw [if_neg hq] at i1
          rw [if_neg (by omega)]
          omega
/-- The edge joins what was not joined. -/
def newE (E : Nat → Nat × Nat) (K : Nat → Bool) (n i : Nat) : Bool := K i && decide ((cls E K n i).getD (E i).1 0 ≠ (cls E K n i).getD (E i).2 0)
theorem rt_cntZ {E : Nat → Nat × Nat} {K : Nat → Bool} {n m : Nat} (hE : ∀ i, i < m → (E i).1 < n ∧ (E i).2 < n) : rt (cls E K n m) n + cntZ (newE E K n) m = n := by
  induction m with
  | zero => simp [cls, incl, mers, cntZ, rt_all n n (Nat.le_refl _)]
  | succ m ih =>
    have h1 := ih fun i hi => hE i (by omega)
    have hL := cls_least (E := E) (K := K) (n := n) (m := m) fun i hi => hE i (by omega)
    simp only [cntZ]
    by_cases hk : K m = true
    · rw [cls_next hk]
      by_cases hne : (cls E K n m).getD (E m).1 0 = (cls E K n m).getD (E m).2 0
      · rw [mer_same hne, if_neg (by simp [newE, hne, -List.getD_eq_getElem?_getD])]
        omega
      · have h2 := rt_mer hL (hE m (by omega)).1 (hE m (by omega)).2 hne n (Nat.le_refl _)
        rw [if_pos (by have := hL.lt (hE m (by omega)).1; have := hL.lt (hE m (by omega)).2; omega)] at h2
        rw [if_pos (by simp [newE, hk, hne, -List.getD_eq_getElem?_getD])]
        omega
    · rw [cls_skip hk, if_neg (by simp [newE, hk])]
      omega
/-- A set of edges with no ring holds no edges that come to each corner an even number of times, but none at all. -/
theorem even_forest {E : Nat → Nat × Nat} {K B : Nat → Bool} {n m : Nat} (hE : ∀ i, i < m → (E i).1 < n ∧ (E i).2 < n) (hF : ∀ i, i < m → K i = true → newE E K n i = true) (hB : ∀ i, i < m → B i = true → K i = true)
    (hev : ∀ S : Nat → Bool, xs (fun i => B i && xor (S (E i).1) (S (E i).2)) m = false) : ∀ i, i < m → B i = false := by
  have key : ∀ d i, i < m → m ≤ i + d → B i = false := by
    intro d
    induction d with
    | zero => intro i h1 h2; omega
    | succ d ih =>
      intro i h1 h2
      by_cases hb : B i = true
      · exfalso
        have hn := hF i h1 (hB i h1 hb)
        have hL := cls_least (E := E) (K := K) (n := n) (m := i) fun j hj => hE j (by omega)
        have h3 := xs_last (g := fun j => B j && xor (decide ((cls E K n i).getD (E j).1 0 = (cls E K n i).getD (E i).1 0)) (decide ((cls E K n i).getD (E j).2 0 = (cls E K n i).getD (E i).1 0))) h1 (by
          simp only [newE, Bool.and_eq_true, decide_eq_true_eq] at hn
          have : ¬ (cls E K n i).getD (E i).2 0 = (cls E K n i).getD (E i).1 0 := fun e => hn.2 e.symm
          simp [hb, this, -List.getD_eq_getElem?_getD]) (fun j hj => by
          by_cases hbj : B j = true
          · have hs : (cls E K n i).getD (E j).1 0 = (cls E K n i).getD (E j).2 0 := (hL.same (hE j (by omega)).1 (hE j (by omega)).2).2 (Con.edge (incl_mem.2 ⟨j, hj, hB j (by omega) hbj, rfl⟩))
            simp only [hs, Bool.xor_self, Bool.and_false]
          · simp [hbj]) (fun j h4 h5 => by
          rw [ih j h5 (by omega)]; rfl)
        have h4 := hev fun v => decide ((cls E K n i).getD v 0 = (cls E K n i).getD (E i).1 0)
        rw [h3] at h4
        cases h4
      · simpa using hb
  exact fun i hi => key m i hi (by omega)
/-- The edges that join what was not joined, one behind the other, leave nothing out. -/
theorem greedy {E : Nat → Nat × Nat} {n : Nat} {K : Nat → Bool} (hK : ∀ i, K i = newE E (fun _ => true) n i) : ∀ m, cls E K n m = cls E (fun _ => true) n m := by
  intro m
  induction m with
  | zero => rfl
  | succ m ih =>
    rw [cls_next (K := fun _ => true) rfl]
    by_cases hk : K m = true
    · rw [cls_next hk, ih]
    · rw [cls_skip hk, ih]
      rw [hK m] at hk
      simp only [newE, Bool.true_and, decide_eq_true_eq, Classical.not_not] at hk
      exact (mer_same hk).symm
theorem con_all {E : Nat → Nat × Nat} {K : Nat → Bool} {m : Nat} (h : ∀ i, i < m → Con (incl E K m) (E i).1 (E i).2) {x y : Nat} : Con (incl E K m) x y ↔ Con (incl E (fun _ => true) m) x y := by
  constructor
  · intro hc S hS hx
    exact hc S (fun e he => hS e (by
      obtain ⟨i, h1, -, h3⟩ := incl_mem.1 he
      exact incl_mem.2 ⟨i, h1, rfl, h3⟩)) hx
  · intro hc S hS hx
    refine hc S (fun e he => ?_) hx
    obtain ⟨i, h1, -, rfl⟩ := incl_mem.1 he
    exact ⟨fun q => h i h1 S hS q, fun q => (h i h1).symm S hS q⟩
/-- Where Euler's number is that of spheres, a set of edges that comes to each corner an even number of times parts two sets of faces. -/
theorem sphere_even {E D : Nat → Nat × Nat} {m n f : Nat} (hE : ∀ i, i < m → (E i).1 < n ∧ (E i).2 < n) (hD : ∀ i, i < m → (D i).1 < f ∧ (D i).2 < f)
    (hX : ∀ S g : Nat → Bool, xs (fun i => xor (S (E i).1) (S (E i).2) && xor (g (D i).1) (g (D i).2)) m = false)
    (hEu : m + rt (cls E (fun _ => true) n m) n + rt (cls D (fun _ => true) f m) f ≤ n + f)
    (A : Nat → Bool) (hA : ∀ S : Nat → Bool, xs (fun i => A i && xor (S (E i).1) (S (E i).2)) m = false) :
    ∃ g : Nat → Bool, ∀ i, i < m → A i = xor (g (D i).1) (g (D i).2) := by
  obtain ⟨T, hT⟩ : ∃ T : Nat → Bool, ∀ i, T i = newE D (fun _ => true) f i := ⟨_, fun _ => rfl⟩
  have hg := greedy hT
  have hTF : ∀ i, i < m → T i = true → newE D T f i = true := fun i _ h => by
    have h2 := h
    rw [hT i] at h2
    simp only [newE, Bool.true_and] at h2
    simp only [newE, h, Bool.true_and]
    rw [hg i]
    exact h2
  -- the faces along the forest
  have step : ∀ k, k ≤ m → ∃ g : Nat → Bool, ∀ i, i < k → T i = true → A i = xor (g (D i).1) (g (D i).2) := by
    intro k
    induction k with
    | zero => intro _; exact ⟨fun _ => false, fun i hi => by omega⟩
    | succ k ih =>
      intro hk
      obtain ⟨g, hgk⟩ := ih (by omega)
      by_cases hq : T k = true ∧ A k ≠ xor (g (D k).1) (g (D k).2)
      · have hn := hTF k (by omega) hq.1
        simp only [newE, hq.1, Bool.true_and, decide_eq_true_eq] at hn
        have hL := cls_least (E := D) (K := T) (n := f) (m := k) fun j hj => hD j (by omega)
        refine ⟨fun v => xor (g v) (decide ((cls D T f k).getD v 0 = (cls D T f k).getD (D k).2 0)), fun i hi ht => ?_⟩
        by_cases e : i = k
        · subst e
          have h2 := hq.2
          simp only [hn, decide_false, decide_true]
          revert h2
          cases A i <;> cases g (D i).1 <;> cases g (D i).2 <;> simp
        · have hs : (cls D T f k).getD (D i).1 0 = (cls D T f k).getD (D i).2 0 := (hL.same (hD i (by omega)).1 (hD i (by omega)).2).2 (Con.edge (incl_mem.2 ⟨i, by omega, ht, rfl⟩))
          have h1 := hgk i (by omega) ht
          simp only [hs]
          rw [h1]
          cases g (D i).1 <;> cases g (D i).2 <;> cases (decide ((cls D T f k).getD (D i).2 0 = (cls D T f k).getD (D k).2 0)) <;> rfl
      · refine ⟨g, fun i hi ht => ?_⟩
        by_cases e : i = k
        · subst e
          exact Classical.byContradiction fun h => hq ⟨ht, h⟩
        · exact hgk i (by omega) ht
  obtain ⟨g, hgm⟩ := step m (Nat.le_refl _)
  refine ⟨g, ?_⟩
  -- the others join all corners
  have hcon : ∀ i, i < m → (cls E (fun j => !T j) n m).getD (E i).1 0 = (cls E (fun j => !T j) n m).getD (E i).2 0 := by
    intro i hi
    have hL := cls_least (E := E) (K := fun j => !T j) (n := n) (m := m) hE
    refine Classical.byContradiction fun hne => ?_
    have h1 := even_forest (E := D) (K := T) (B := fun j => xor (decide ((cls E (fun j => !T j) n m).getD (E j).1 0 = (cls E (fun j => !T j) n m).getD (E i).1 0)) (decide ((cls E (fun j => !T j) n m).getD (E j).2 0 = (cls E (fun j => !T j) n m).getD (E i).1 0))) hD hTF (fun j hj hb => by
      refine Classical.byContradiction fun ht => ?_
      have hs : (cls E (fun j => !T j) n m).getD (E j).1 0 = (cls E (fun j => !T j) n m).getD (E j).2 0 := (hL.same (hE j hj).1 (hE j hj).2).2 (Con.edge (incl_mem.2 ⟨j, hj, by simpa using ht, rfl⟩))
      simp only [hs, Bool.xor_self] at hb
      cases hb) (fun S => hX (fun v => decide ((cls E (fun j => !T j) n m).getD v 0 = (cls E (fun j => !T j) n m).getD (E i).1 0)) S) i hi
    have : ¬ (cls E (fun j => !T j) n m).getD (E i).2 0 = (cls E (fun j => !T j) n m).getD (E i).1 0 := fun e => hne e.symm
    simp [this, -List.getD_eq_getElem?_getD] at h1
  have hLK := cls_least (E := E) (K := fun j => !T j) (n := n) (m := m) hE
  have hLA := cls_least (E := E) (K := fun _ => true) (n := n) (m := m) hE
  have heq : cls E (fun j => !T j) n m = cls E (fun _ => true) n m := by
    have hc : ∀ {x y : Nat}, Con (incl E (fun j => !T j) m) x y ↔ Con (incl E (fun _ => true) m) x y := fun {x y} => con_all fun i hi => (hLK.same (hE i hi).1 (hE i hi).2).1 (hcon i hi)
    refine Least.eq (E := incl E (fun _ => true) m) (n := n) ⟨hLK.1, fun v hv => ⟨hc.1 (hLK.2 v hv).1, fun u hu => (hLK.2 v hv).2 u (hc.2 hu)⟩⟩ hLA
  -- so they are a forest
  have c1 := rt_cntZ (E := E) (K := fun j => !T j) (n := n) (m := m) hE
  have c2 := rt_cntZ (E := D) (K := fun _ => true) (n := f) (m := m) hD
  have c3 := cntZ_not T m
  have c4 : cntZ (newE D (fun _ => true) f) m = cntZ T m := by
    have : newE D (fun _ => true) f = T := funext fun i => (hT i).symm
    rw [this]
  rw [heq] at c1
  have hKF : ∀ i, i < m → (!T i) = true → newE E (fun j => !T j) n i = true := cntZ_same (fun i _ h => by
    simp only [newE, Bool.and_eq_true] at h
    exact h.1) (by omega)
  have hz := even_forest (E := E) (K := fun j => !T j) (B := fun i => xor (A i) (xor (g (D i).1) (g (D i).2))) hE hKF (fun i hi hb => by
    by_cases ht : T i = true
    · rw [hgm i hi ht] at hb
      simp at hb
    · simpa using ht) (fun S => by
    have h1 := hA S
    have h2 := hX S g
    have h3 := xs_xor (fun i => A i && xor (S (E i).1) (S (E i).2)) (fun i => xor (S (E i).1) (S (E i).2) && xor (g (D i).1) (g (D i).2)) m
    rw [h1, h2] at h3
    rw [← show xor false false = false from rfl, ← h3]
    refine xs_congr fun i _ => ?_
    cases A i <;> cases g (D i).1 <;> cases g (D i).2 <;> cases S (E i).1 <;> cases S (E i).2 <;> rfl)
  intro i hi
  have := hz i hi
  revert this
  cases A i <;> cases g (D i).1 <;> cases g (D i).2 <;> simp
end Go.Proofs.Ytlcogbcpmneknaa
/- Plain mathematics: rings of a renaming are closed; in which face a dart lies. -/
namespace Go.Proofs.Ytlcogbcpmneknaa

theorem un_le (l : List Bool) (y : Nat) : un l y ≤ 1 := by unfold un; split <;> omega
theorem unseen_none {l : List Bool} (h : unseen l = 0) (x : Nat) : l.getD x true = true := by
  cases e : l.getD x true with
  | true => rfl
  | false => have := unseen_pos e; omega
theorem walkF_chain (f : Nat → Nat) : ∀ (m : Nat) (seen : List Bool) (x : Nat) (acc : List Nat), unseen seen ≤ m → (∀ i, i + 1 < acc.length → acc.getD (i + 1) 0 = f (acc.getD i 0)) → (0 < acc.length → x = f (acc.getD (acc.length - 1) 0)) →
    (∀ i, i + 1 < (walkF f m seen x acc).1.length → (walkF f m seen x acc).1.getD (i + 1) 0 = f ((walkF f m seen x acc).1.getD i 0)) ∧ (0 < (walkF f m seen x acc).1.length → un (walkF f m seen x acc).2 (f ((walkF f m seen x acc).1.getD ((walkF f m seen x acc).1.length - 1) 0)) = 0) := by
  intro m
  induction m with
  | zero =>
    intro seen x acc hu hc hx
    refine ⟨hc, fun h0 => ?_⟩
    show un seen (f (acc.getD (acc.length - 1) 0)) = 0
    rw [← hx h0]
    unfold un
    rw [if_pos (unseen_none (by omega) x)]
  | succ m ih =>
    intro seen x acc hu hc hx
    by_cases hs : seen.getD x true = true
    · rw [walkF_seen hs]
      refine ⟨hc, fun h0 => ?_⟩
      show un seen (f (acc.getD (acc.length - 1) 0)) = 0
      rw [← hx h0]
      unfold un
      rw [if_pos hs]
    · have hs' : seen.getD x true = false := by simpa using hs
      obtain ⟨e, hu2⟩ := walkF_more (f := f) (acc := acc) hs' hu
      rw [e]
      refine ih _ _ _ hu2 (fun i hi => ?_) (fun _ => ?_)
      · rw [List.length_append, List.length_singleton] at hi
        by_cases hi2 : i + 1 < acc.length
        · have e1 : (acc ++ [x]).getD (i + 1) 0 = acc.getD (i + 1) 0 := by simp [List.getD_eq_getElem?_getD, List.getElem?_append_left hi2]
          have e2 : (acc ++ [x]).getD i 0 = acc.getD i 0 := by simp [List.getD_eq_getElem?_getD, List.getElem?_append_left (show i < acc.length by omega)]
          rw [e1, e2]
          exact hc i hi2
        · have hl : acc.length = i + 1 := by omega
          have e1 : (acc ++ [x]).getD (i + 1) 0 = x := by rw [← hl]; simp [List.getD_eq_getElem?_getD]
          have e2 : (acc ++ [x]).getD i 0 = acc.getD i 0 := by simp [List.getD_eq_getElem?_getD, List.getElem?_append_left (show i < acc.length by omega)]
          rw [e1, e2, hx (by omega), hl]
          rfl
      · have e1 : (acc ++ [x]).getD ((acc ++ [x]).length - 1) 0 = x := by simp [List.getD_eq_getElem?_getD]
        rw [e1]
theorem mem_atZ {l : List Nat} {y : Nat} (h : y ∈ l) : ∃ i, i < l.length ∧ l.getD i 0 = y := by
  obtain ⟨i, hi, e⟩ := List.getElem_of_mem h
  exact ⟨i, hi, by rw [List.getD_eq_getElem?_getD, List.getElem?_eq_getElem hi]; exact e⟩
theorem at_mem {l : List Nat} {i : Nat} (h : i < l.length) : l.getD i 0 ∈ l := by
  rw [List.getD_eq_getElem?_getD, List.getElem?_eq_getElem h]
  exact List.getElem_mem h
theorem at_ne {l : List Nat} (h : ∀ y, l.count y ≤ 1) {i j : Nat} (hij : i < j) (hj : j < l.length) : l.getD i 0 ≠ l.getD j 0 := by
  have hn : l.Nodup := List.nodup_iff_count.2 h
  have := List.pairwise_iff_getElem.1 hn i j (by omega) hj hij
  rw [List.getD_eq_getElem?_getD, List.getElem?_eq_getElem (by omega), List.getD_eq_getElem?_getD, List.getElem?_eq_getElem hj]
  exact this
/-- Rings of a renaming are closed, and nothing that is not in them goes into them. -/
theorem rings_closed {f : Nat → Nat} {n : Nat} (hf : ∀ a, 1 ≤ a → a ≤ n → 1 ≤ f a ∧ f a ≤ n) (hi : ∀ a b, 1 ≤ a → a ≤ n → 1 ≤ b → b ≤ n → f a = f b → a = b) : ∀ a, a ≤ n →
    (∀ l, l ∈ (walksTo f n a).1 → ∀ y, y ∈ l → f y ∈ l) ∧ (∀ y, 1 ≤ y → y ≤ n → un (walksTo f n a).2 (f y) = 0 → un (walksTo f n a).2 y = 0) ∧
    (∀ l, l ∈ (walksTo f n a).1 → (∀ i, i + 1 < l.length → l.getD (i + 1) 0 = f (l.getD i 0)) ∧ f (l.getD (l.length - 1) 0) = l.getD 0 0) := by
  intro a
  induction a with
  | zero =>
    intro _
    refine ⟨fun l hl => absurd hl (by simp [walksTo]), fun y h1 h2 h3 => ?_, fun l hl => absurd hl (by simp [walksTo])⟩
    have h4 := hf y h1 h2
    exfalso
    have : un (walksTo f n 0).2 (f y) = 1 := by
      simp [walksTo, un, List.getD_eq_getElem?_getD, show f y < n + 1 by omega]
    omega
  | succ a ih =>
    intro ha
    obtain ⟨i1, i2, i3⟩ := ih (by omega)
    have hin := walksTo_mem hf a (by omega)
    generalize hr : walksTo f n a = r at i1 i2 i3 hin
    have hlen : r.2.length = n + 1 := by rw [← hr]; exact walksTo_len f n a
    have hch := walkF_chain f (n + 1) r.2 (a + 1) [] (by have := unseen_le r.2; omega) (fun i hi => by simp at hi) (fun h0 => by simp at h0)
    have hmem := walkF_mem hf (n + 1) r.2 (a + 1) [] (by omega) ha (fun y hy => by cases hy)
    have hcnt := walkF_count f (n + 1) r.2 (a + 1) []
    have hkeep := walkF_keep f (n + 1) r.2 (a + 1) []
    have e : walksTo f n (a + 1) = (if (walkF f (n + 1) r.2 (a + 1) []).1 = [] then r.1 else r.1 ++ [(walkF f (n + 1) r.2 (a + 1) []).1], (walkF f (n + 1) r.2 (a + 1) []).2) := by simp only [walksTo, hr]
    rw [e]
    generalize walkF f (n + 1) r.2 (a + 1) [] = s at hch hmem hcnt hkeep
    obtain ⟨l, sn⟩ := s
    simp only [List.count_nil, Nat.zero_add] at hch hmem hcnt hkeep ⊢
    have hc1 : ∀ y, l.count y ≤ 1 := fun y => by have := hcnt y; have := un_le r.2 y; omega
    have hin1 : ∀ y, y ∈ l → un r.2 y = 1 ∧ un sn y = 0 := fun y hy => by
      have h1 : 1 ≤ l.count y := List.one_le_count_iff.2 hy
      have h2 := hcnt y
      have h3 := un_le r.2 y
      omega
    -- what stands behind the last is the first
    have hend : 0 < l.length → f (l.getD (l.length - 1) 0) = l.getD 0 0 := fun h0 => by
      have hlast := at_mem (l := l) (i := l.length - 1) (by omega)
      have hb := hmem _ hlast
      have hz := hch.2 h0
      have hnz : un r.2 (f (l.getD (l.length - 1) 0)) ≠ 0 := fun q => by
        have := i2 _ hb.1 hb.2 q
        have := (hin1 _ hlast).1
        omega
      have hz1 : f (l.getD (l.length - 1) 0) ∈ l := by
        have h2 := hcnt (f (l.getD (l.length - 1) 0))
        refine List.one_le_count_iff.1 ?_
        omega
      obtain ⟨j, hj, ej⟩ := mem_atZ hz1
      cases j with
      | zero => exact ej.symm
      | succ j =>
        exfalso
        have h5 := hch.1 j hj
        rw [ej] at h5
        have hbj := hmem _ (at_mem (l := l) (i := j) (by omega))
        have h6 := hi _ _ hb.1 hb.2 hbj.1 hbj.2 h5
        exact at_ne hc1 (i := j) (j := l.length - 1) (by omega) (by omega) h6.symm
    refine ⟨?_, fun y h1 h2 h3 => ?_, fun l' hl' => ?_⟩
    · intro l' hl' y hy
      by_cases hnil : l = []
      · rw [if_pos hnil] at hl'
        exact i1 l' hl' y hy
      · rw [if_neg hnil] at hl'
        rcases List.mem_append.1 hl' with h | h
        · exact i1 l' h y hy
        · obtain rfl := List.mem_singleton.1 h
          obtain ⟨i, hil, rfl⟩ := mem_atZ hy
          by_cases hlast : i + 1 < l'.length
          · rw [← hch.1 i hlast]
            exact at_mem hlast
          · have hi1 : i = l'.length - 1 := by omega
            rw [hi1, hend (by omega)]
            exact at_mem (by omega)
    · by_cases hq : un r.2 (f y) = 0
      · exact hkeep y (i2 y h1 h2 hq)
      · have hmy : f y ∈ l := List.one_le_count_iff.1 (by have := hcnt (f y); omega)
        obtain ⟨j, hj, ej⟩ := mem_atZ hmy
        cases j with
        | zero =>
          have hlast := at_mem (l := l) (i := l.length - 1) (by omega)
          have hb := hmem _ hlast
          have := hi y _ h1 h2 hb.1 hb.2 (by rw [hend (by omega), ej])
          rw [this]
          exact (hin1 _ hlast).2
        | succ j =>
          have h5 := hch.1 j hj
          rw [ej] at h5
          have hbj := hmem _ (at_mem (l := l) (i := j) (by omega))
          have := hi y _ h1 h2 hbj.1 hbj.2 h5
          rw [this]
          exact (hin1 _ (at_mem (by omega))).2
    · by_cases hnil : l = []
      · rw [if_pos hnil] at hl'
        exact i3 l' hl'
      · rw [if_neg hnil] at hl'
        rcases List.mem_append.1 hl' with h | h
        · exact i3 l' h
        · obtain rfl := List.mem_singleton.1 h
          have h0 : 0 < l'.length := by
            cases l' with
            | nil => exact absurd rfl hnil
            | cons => simp
          exact ⟨hch.1, hend h0⟩
theorem fd_inj {C : List Cr} {loops : Int} (hm : mayD C loops = true) (i j : Nat) (h1 : 1 ≤ i) (h2 : i ≤ 4 * C.length) (h3 : 1 ≤ j) (h4 : j ≤ 4 * C.length) (e : fd C i = fd C j) : i = j := by
  obtain ⟨p1, p2, p3⟩ := d_may hm i h1 h2
  obtain ⟨q1, q2, q3⟩ := d_may hm j h3 h4
  obtain ⟨a1, a2, a3, a4⟩ := fd_may hm i h1 h2
  obtain ⟨b1, b2, b3, b4⟩ := fd_may hm j h3 h4
  rw [e] at a1 a2
  have hA := dA_le b3 b4
  have e1 := end_one hm _ hA.1 hA.2 _ _ _ p2 (Nat.mod_lt _ (by decide)) a1 a2
  have e2 := end_one hm _ hA.1 hA.2 _ _ _ q2 (Nat.mod_lt _ (by decide)) b1 b2
  rw [e1] at e2
  have hcc : dC C i = dC C j := by have := congrArg Prod.fst e2; simp only at this; omega
  have hss : dS C i = dS C j := by have := congrArg Prod.snd e2; simp only at this; omega
  have u := en_may hm (dA i) (!dB i) (dA_le h1 h2).1 (dA_le h1 h2).2
  have v := en_may hm (dA j) (!dB j) (dA_le h3 h4).1 (dA_le h3 h4).2
  have u1 : (C.getD (dC C i) Cr.none).arc (dS C i) = (dA i : Int) := u.2.2.2.1
  have v1 : (C.getD (dC C j) Cr.none).arc (dS C j) = (dA j : Int) := v.2.2.2.1
  have u2 : (C.getD (dC C i) Cr.none).comes (dS C i) = (!dB i) := u.2.2.2.2
  have v2 : (C.getD (dC C j) Cr.none).comes (dS C j) = (!dB j) := v.2.2.2.2
  rw [hcc, hss] at u1 u2
  have h5 : dA i = dA j := by omega
  have h6 : dB i = dB j := by
    rw [u2] at v2
    revert v2
    cases dB i <;> cases dB j <;> simp
  rw [← mk_d h1, ← mk_d h3, h5, h6]
/-- The face of a dart. -/
def fo (C : List Cr) (j : Nat) : Nat := pt (facesM C) j
theorem fo_lt {C : List Cr} (j : Nat) (h1 : 1 ≤ j) (h2 : j ≤ 4 * C.length) : fo C j < (facesM C).length := pt_lt (walks_once (fd C) (4 * C.length) j h1 h2)
theorem fo_fd {C : List Cr} {loops : Int} (hm : mayD C loops = true) (j : Nat) (h1 : 1 ≤ j) (h2 : j ≤ 4 * C.length) : fo C (fd C j) = fo C j := by
  have hc := fd_closed hm j h1 h2
  have hl := fo_lt j h1 h2
  have hj : j ∈ (facesM C).getD (fo C j) [] := (pt_mem (walks_once (fd C) (4 * C.length) j h1 h2) hl).2 rfl
  have hin : (facesM C).getD (fo C j) [] ∈ facesM C := by
    rw [List.getD_eq_getElem?_getD, List.getElem?_eq_getElem hl]
    exact List.getElem_mem hl
  have h3 := (rings_closed (fd_closed hm) (fun a b p q r s t => fd_inj hm a b p q r s t) (4 * C.length) (Nat.le_refl _)).1 _ hin j hj
  exact pt_is (walks_once (fd C) (4 * C.length) _ hc.1 hc.2) hl h3
end Go.Proofs.Ytlcogbcpmneknaa
/- Tables of numbers that are read. -/
namespace Go.Proofs.Ytlcogbcpmneknaa
open Go.RowKit

/-- Lists of numbers, to be read. -/
def IntsRd (w : World) (B : Nat) (v : Value) (L : List (List Int)) : Prop := ∃ ys : List Value, ys.length = L.length ∧ RdAt w B 1 v L.length ys ∧ ∀ j, j < L.length → RdAt w B 1 (ys.getD j (.bool false)) (L.getD j []).length (intsV (L.getD j []))
theorem IntsRd.on {w w' : World} {B : Nat} {v : Value} {L : List (List Int)} (h : IntsRd w B v L) (hb : Below B w w') : IntsRd w' B v L := by
  obtain ⟨ys, hy, h1, h2⟩ := h
  exact ⟨ys, hy, h1.on hb, fun j hj => (h2 j hj).on hb⟩
theorem IntsRd.up {w w' : World} {v : Value} {L : List (List Int)} (h : IntsRd w w.heap.size v L) (hb : Below w.heap.size w w') : IntsRd w' w'.heap.size v L := by
  obtain ⟨ys, hy, h1, h2⟩ := h
  exact ⟨ys, hy, (h1.on hb).mono hb.size, fun j hj => ((h2 j hj).on hb).mono hb.size⟩
theorem IntsRd.len {w : World} {B : Nat} {v : Value} {L : List (List Int)} (h : IntsRd w B v L) : ∃ a cap, v = .slice a L.length cap := by
  obtain ⟨ys, hy, ⟨a, cap, e, -⟩, h2⟩ := h
  exact ⟨a, cap, e⟩
theorem IntsRd.row {w : World} {B : Nat} {a : Option Addr} {cap : Nat} {L : List (List Int)} (h : IntsRd w B (.slice a L.length cap) L) (j : Nat) (hj : j < L.length) :
    ∃ b off ar cr, a = some ⟨b, off, none⟩ ∧ b < B ∧ w.cell? ⟨b, off + j, none⟩ = some (.slice ar (L.getD j []).length cr) ∧ RdAt w B 1 (.slice ar (L.getD j []).length cr) (L.getD j []).length (intsV (L.getD j [])) := by
  obtain ⟨ys, hy, ⟨a', cap', e, f⟩, h2⟩ := h
  injection e with e1 e2 e3
  obtain ⟨b, off, eb, hlt, hc⟩ := f (by omega)
  have hr := h2 j hj
  obtain ⟨ar, cr, er, -⟩ := hr
  have hr := h2 j hj
  rw [er] at hr
  refine ⟨b, off, ar, cr, e1.trans eb, hlt, ?_, hr⟩
  rw [hc j (by omega), ← er]
  simp [List.getD, hy, hj]
end Go.Proofs.Ytlcogbcpmneknaa
