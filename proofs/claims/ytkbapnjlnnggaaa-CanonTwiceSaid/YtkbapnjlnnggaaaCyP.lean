/- Several texts of the proof, one behind the other. -/
import Derived.Test.YtkbapnjlnnggaaaEndsP
import Derived.Test.YtkbapnjlnnggaaaW5P
import Derived.Test.YtkbapnjlnnggaaaF5P
/- Plain mathematics: rings of a renaming, and what becomes of them where two places are traded: two rings become one, or one becomes two. -/
namespace Go.Proofs.Ytkbapnjlnnggaaa

/-- A renaming of the numbers below M. -/
structure Bij (f : Nat → Nat) (M : Nat) : Prop where
  lt : ∀ x, x < M → f x < M
  inj : ∀ x y, x < M → y < M → f x = f y → x = y
def it (f : Nat → Nat) : Nat → Nat → Nat
  | 0, x => x
  | i + 1, x => f (it f i x)
theorem it_lt {f : Nat → Nat} {M : Nat} (h : Bij f M) {x : Nat} (hx : x < M) : ∀ i, it f i x < M := by
  intro i
  induction i with
  | zero => exact hx
  | succ i ih => exact h.lt _ ih
theorem it_add (f : Nat → Nat) (x : Nat) : ∀ i j, it f (i + j) x = it f i (it f j x) := by
  intro i j
  induction i with
  | zero => rw [Nat.zero_add]; rfl
  | succ i ih => rw [show i + 1 + j = (i + j) + 1 by omega]; show f (it f (i + j) x) = f (it f i (it f j x)); rw [ih]
theorem it_back {f : Nat → Nat} {M : Nat} (h : Bij f M) {x y : Nat} (hx : x < M) (hy : y < M) : ∀ i, it f i x = it f i y → x = y := by
  intro i
  induction i with
  | zero => exact id
  | succ i ih => intro e; exact ih (h.inj _ _ (it_lt h hx i) (it_lt h hy i) e)
theorem period {f : Nat → Nat} {M : Nat} (h : Bij f M) {x : Nat} (hx : x < M) : ∃ p, 0 < p ∧ it f p x = x := by
  refine Classical.byContradiction fun hn => ?_
  have hp : ∀ p, 0 < p → it f p x ≠ x := fun p h0 e => hn ⟨p, h0, e⟩
  have hd : ((List.range (M + 1)).map fun i => it f i x).Nodup := by
    unfold List.Nodup
    rw [List.pairwise_map]
    refine List.Pairwise.imp ?_ (List.pairwise_lt_range (n := M + 1))
    intro i j hij e
    have e2 : it f i x = it f i (it f (j - i) x) := by rw [← it_add, show i + (j - i) = j by omega]; exact e
    exact hp (j - i) (by omega) (it_back h hx (it_lt h hx _) i e2).symm
  have hl := hd.length_le_of_subset (l₂ := List.range M) (fun y hy => by
    obtain ⟨i, -, rfl⟩ := List.mem_map.1 hy
    exact List.mem_range.2 (it_lt h hx i))
  rw [List.length_map, List.length_range, List.length_range] at hl
  omega
/-- The edges of a renaming. -/
def eds (f : Nat → Nat) (M : Nat) : List (Nat × Nat) := (List.range M).map fun i => (i, f i)
theorem eds_mem {f : Nat → Nat} {M i : Nat} (h : i < M) : (i, f i) ∈ eds f M := List.mem_map.2 ⟨i, List.mem_range.2 h, rfl⟩
theorem eds_lt {f : Nat → Nat} {M : Nat} (h : ∀ x, x < M → f x < M) : ∀ e, e ∈ eds f M → e.1 < M ∧ e.2 < M := fun e he => by
  obtain ⟨i, hi, rfl⟩ := List.mem_map.1 he
  exact ⟨List.mem_range.1 hi, h _ (List.mem_range.1 hi)⟩
theorem closed_eds {f : Nat → Nat} {M : Nat} {S : Nat → Prop} : Closed (eds f M) S ↔ ∀ i, i < M → (S i ↔ S (f i)) := by
  constructor
  · intro h i hi
    exact h _ (eds_mem hi)
  · intro h e he
    obtain ⟨i, hi, rfl⟩ := List.mem_map.1 he
    exact h i (List.mem_range.1 hi)
theorem con_f {f : Nat → Nat} {M x : Nat} (hx : x < M) : Con (eds f M) x (f x) := Con.edge (eds_mem hx)
theorem con_it {f : Nat → Nat} {M : Nat} (h : Bij f M) {x : Nat} (hx : x < M) : ∀ i, Con (eds f M) x (it f i x) := by
  intro i
  induction i with
  | zero => exact Con.refl _ _
  | succ i ih => exact ih.trans (con_f (it_lt h hx i))
theorem it_con {f : Nat → Nat} {M : Nat} (h : Bij f M) {x y : Nat} (hx : x < M) (hc : Con (eds f M) x y) : ∃ i, it f i x = y := by
  refine hc (fun z => ∃ i, it f i x = z) (closed_eds.2 fun z hz => ⟨?_, ?_⟩) ⟨0, rfl⟩
  · rintro ⟨i, rfl⟩
    exact ⟨i + 1, rfl⟩
  · rintro ⟨i, e⟩
    cases i with
    | zero =>
      obtain ⟨p, h0, hp⟩ := period h hx
      cases p with
      | zero => omega
      | succ p =>
        refine ⟨p, h.inj _ _ (it_lt h hx p) hz ?_⟩
        have e1 : x = f z := e
        exact Eq.trans hp e1
    | succ i => exact ⟨i, h.inj _ _ (it_lt h hx i) hz e⟩
theorem first_of {P : Nat → Prop} (h : ∃ i, P i) : ∃ r, P r ∧ ∀ i, i < r → ¬ P i := by
  obtain ⟨i, hi⟩ := h
  induction i using Nat.strongRecOn with
  | ind i ih =>
    by_cases hs : ∃ j, j < i ∧ P j
    · obtain ⟨j, hj, hp⟩ := hs
      exact ih j hj hp
    · exact ⟨i, hi, fun j hj hp => hs ⟨j, hj, hp⟩⟩
/-- Two places traded. -/
def tr (f : Nat → Nat) (a b x : Nat) : Nat := if x = a then f b else if x = b then f a else f x
theorem tr_a (f : Nat → Nat) (a b : Nat) : tr f a b a = f b := by simp [tr]
theorem tr_b (f : Nat → Nat) (a b : Nat) : tr f a b b = f a := by
  unfold tr
  by_cases h : b = a
  · rw [if_pos h, h]
  · rw [if_neg h, if_pos rfl]
theorem tr_o (f : Nat → Nat) {a b x : Nat} (h1 : x ≠ a) (h2 : x ≠ b) : tr f a b x = f x := by simp [tr, h1, h2]
theorem tr_tr (f : Nat → Nat) (a b x : Nat) : tr (tr f a b) a b x = f x := by
  by_cases h1 : x = a
  · rw [h1, tr_a, tr_b]
  · by_cases h2 : x = b
    · rw [h2, tr_b, tr_a]
    · rw [tr_o _ h1 h2, tr_o _ h1 h2]
theorem Bij.tr {f : Nat → Nat} {M : Nat} (h : Bij f M) {a b : Nat} (ha : a < M) (hb : b < M) : Bij (tr f a b) M := by
  have key : ∀ x, x < M → ∃ z, z < M ∧ Proofs.Ytkbapnjlnnggaaa.tr f a b x = f z ∧ (x = a → z = b) ∧ (x = b → z = a) ∧ (x ≠ a → x ≠ b → z = x) := by
    intro x hx
    by_cases h1 : x = a
    · exact ⟨b, hb, by rw [h1, tr_a], fun _ => rfl, fun e => by omega, fun q => absurd h1 q⟩
    · by_cases h2 : x = b
      · exact ⟨a, ha, by rw [h2, tr_b], fun q => absurd q h1, fun _ => rfl, fun _ q => absurd h2 q⟩
      · exact ⟨x, hx, tr_o f h1 h2, fun q => absurd q h1, fun q => absurd q h2, fun _ _ => rfl⟩
  refine ⟨fun x hx => ?_, fun x y hx hy e => ?_⟩
  · obtain ⟨z, hz, e, -⟩ := key x hx
    rw [e]
    exact h.lt z hz
  · obtain ⟨z, hz, e1, p1, p2, p3⟩ := key x hx
    obtain ⟨u, hu, e2, q1, q2, q3⟩ := key y hy
    have e3 : z = u := h.inj z u hz hu (by rw [← e1, ← e2, e])
    by_cases c1 : x = a
    · have := p1 c1
      by_cases c2 : y = a
      · omega
      · by_cases c3 : y = b
        · have := q2 c3; omega
        · have := q3 c2 c3; omega
    · by_cases c1b : x = b
      · have := p2 c1b
        by_cases c2 : y = a
        · have := q1 c2; omega
        · by_cases c3 : y = b
          · omega
          · have := q3 c2 c3; omega
      · have := p3 c1 c1b
        by_cases c2 : y = a
        · have := q1 c2; omega
        · by_cases c3 : y = b
          · have := q2 c3; omega
          · have := q3 c2 c3; omega
theorem con_tr {f : Nat → Nat} {M : Nat} (h : Bij f M) {a b : Nat} (ha : a < M) (hb : b < M) (hn : ¬ Con (eds f M) a b) : Con (eds (tr f a b) M) a b := by
  intro S hS hSa
  have hS' := closed_eds.1 hS
  have h1 : S (f b) := by have := (hS' a ha).1 hSa; rwa [tr_a] at this
  obtain ⟨p, h0, hp⟩ := period h hb
  have key : ∀ i, S b ∨ S (it f (i + 1) b) := by
    intro i
    induction i with
    | zero => exact Or.inr h1
    | succ i ih =>
      rcases ih with ih | ih
      · exact Or.inl ih
      · by_cases e : it f (i + 1) b = b
        · rw [e] at ih; exact Or.inl ih
        · have ea : it f (i + 1) b ≠ a := fun q => hn (q ▸ (con_it h hb (i + 1)).symm)
          have := (hS' _ (it_lt h hb (i + 1))).1 ih
          rw [tr_o f ea e] at this
          exact Or.inr this
  have := key (p - 1)
  rw [show p - 1 + 1 = p by omega, hp] at this
  exact this.elim id id
/-- Not joined ahead: joined behind, and nothing else. -/
theorem con_join {f : Nat → Nat} {M : Nat} (h : Bij f M) {a b : Nat} (ha : a < M) (hb : b < M) (hn : ¬ Con (eds f M) a b) (x y : Nat) : Con (eds (tr f a b) M) x y ↔ Con (eds f M ++ [(a, b)]) x y := by
  have hab := con_tr h ha hb hn
  constructor
  · intro hc S hS
    refine hc S (closed_eds.2 fun i hi => ?_)
    have h1 := closed_eds.1 (fun e he => hS e (List.mem_append_left _ he) : Closed (eds f M) S)
    have h2 : S a ↔ S b := hS (a, b) (List.mem_append_right _ (List.Mem.head _))
    by_cases e1 : i = a
    · rw [e1, tr_a, h2]; exact h1 b hb
    · by_cases e2 : i = b
      · rw [e2, tr_b, ← h2]; exact h1 a ha
      · rw [tr_o f e1 e2]; exact h1 i hi
  · intro hc S hS
    have h1 := closed_eds.1 hS
    have h2 : S a ↔ S b := ⟨hab S hS, hab.symm S hS⟩
    refine hc S fun e he => ?_
    rcases List.mem_append.1 he with he | he
    · obtain ⟨i, hi, rfl⟩ := List.mem_map.1 he
      have hi := List.mem_range.1 hi
      show S i ↔ S (f i)
      by_cases e1 : i = a
      · rw [e1, h2]; have := h1 b hb; rwa [tr_b] at this
      · by_cases e2 : i = b
        · rw [e2, ← h2]; have := h1 a ha; rwa [tr_a] at this
        · have := h1 i hi; rwa [tr_o f e1 e2] at this
    · rw [List.mem_singleton.1 he]; exact h2
/-- Joined ahead: apart behind. -/
theorem con_part {f : Nat → Nat} {M : Nat} (h : Bij f M) {a b : Nat} (ha : a < M) (hb : b < M) (hab : a ≠ b) (hc : Con (eds f M) a b) : ¬ Con (eds (tr f a b) M) a b := by
  intro hcon
  obtain ⟨r, hr, hmin⟩ := first_of (it_con h hb hc.symm)
  have r0 : 0 < r := Nat.pos_of_ne_zero fun q => by rw [q] at hr; exact hab hr.symm
  have hB := h.tr ha hb
  have nb : ∀ i, 1 ≤ i → i ≤ r → it f i b ≠ b := fun i h1 h2 e => by
    by_cases e2 : i = r
    · rw [e2, hr] at e; exact hab e
    · refine hmin (r - i) (by omega) ?_
      have := it_add f b (r - i) i
      rw [e, show r - i + i = r by omega, hr] at this
      exact this.symm
  have nxt : ∀ i, 1 ≤ i → i < r → tr f a b (it f i b) = it f (i + 1) b := fun i h1 h2 => tr_o f (hmin i h2) (nb i h1 (by omega))
  have hS : Closed (eds (tr f a b) M) fun z => ∃ i, 1 ≤ i ∧ i ≤ r ∧ it f i b = z := closed_eds.2 fun z hz => by
    constructor
    · rintro ⟨i, h1, h2, rfl⟩
      by_cases e : i = r
      · rw [e, hr, tr_a]; exact ⟨1, Nat.le_refl _, r0, rfl⟩
      · exact ⟨i + 1, by omega, by omega, (nxt i h1 (by omega)).symm⟩
    · rintro ⟨i, h1, h2, e⟩
      by_cases e1 : i = 1
      · refine ⟨r, r0, Nat.le_refl _, ?_⟩
        rw [hr]
        refine hB.inj a z ha hz ?_
        rw [tr_a, ← e, e1]
        rfl
      · refine ⟨i - 1, by omega, by omega, ?_⟩
        refine hB.inj _ z (it_lt h hb _) hz ?_
        rw [nxt (i - 1) (by omega) (by omega), ← e, show i - 1 + 1 = i by omega]
  obtain ⟨i, h1, h2, e⟩ := hcon _ hS ⟨r, r0, Nat.le_refl _, hr⟩
  exact nb i h1 h2 e

/-- How many are the lowest of theirs, among some. -/
def rq (W : List Nat) (Q : Nat → Bool) : Nat → Nat
  | 0 => 0
  | k + 1 => rq W Q k + (if W.getD k 0 = k ∧ Q k = true then 1 else 0)
theorem rq_mer {Ed : List (Nat × Nat)} {n : Nat} {W : List Nat} (h : Least Ed n W) (Q : Nat → Bool) {x y : Nat} (hx : x < n) (hy : y < n) (hne : W.getD x 0 ≠ W.getD y 0) : ∀ k, k ≤ n → rq (mer W x y) Q k + (if max (W.getD x 0) (W.getD y 0) < k ∧ Q (max (W.getD x 0) (W.getD y 0)) = true then 1 else 0) = rq W Q k := by
  have rx := h.root hx
  have ry := h.root hy
  generalize hmx : max (W.getD x 0) (W.getD y 0) = m
  have hmr : W.getD m 0 = m := by
    rcases Nat.le_total (W.getD x 0) (W.getD y 0) with hle | hle
    · have : m = W.getD y 0 := by omega
      rw [this]; exact ry
    · have : m = W.getD x 0 := by omega
      rw [this]; exact rx
  intro k
  induction k with
  | zero => intro _; simp [rq]
  | succ k ih =>
    intro hk
    have i1 := ih (by omega)
    have hm := mer_at W x y k (by rw [h.1]; omega)
    rw [hmx] at hm
    simp only [rq]
    by_cases he : k = m
    · subst he
      rw [if_pos hmr] at hm
      rw [if_neg (by omega)] at i1
      rw [if_neg (show ¬ ((mer W x y).getD k 0 = k ∧ Q k = true) from fun q => by have := q.1; omega)]
      by_cases hq : Q k = true
      · rw [if_pos (show k < k + 1 ∧ Q k = true from ⟨by omega, hq⟩), if_pos (show W.getD k 0 = k ∧ Q k = true from ⟨hmr, hq⟩)]; omega
      · rw [if_neg (show ¬ (k < k + 1 ∧ Q k = true) from fun q => hq q.2), if_neg (show ¬ (W.getD k 0 = k ∧ Q k = true) from fun q => hq q.2)]; omega
    · have hiff : ((mer W x y).getD k 0 = k) ↔ (W.getD k 0 = k) := by
        by_cases hr : W.getD k 0 = k
        · rw [if_neg (by omega)] at hm
          rw [hm]
        · have h2 : ¬ (mer W x y).getD k 0 = k := by
            rw [hm]
            split
            · intro e
              rcases Nat.le_total (W.getD x 0) (W.getD y 0) with hle2 | hle2
              · have e1 : k = W.getD x 0 := by omega
                exact hr (by rw [e1]; exact rx)
              · have e1 : k = W.getD y 0 := by omega
                exact hr (by rw [e1]; exact ry)
            · exact hr
          exact ⟨fun q => absurd q h2, fun q => absurd q hr⟩
      rw [show (if (mer W x y).getD k 0 = k ∧ Q k = true then 1 else 0) = (if W.getD k 0 = k ∧ Q k = true then 1 else 0) by simp only [hiff]]
      by_cases hq : m < k ∧ Q m = true
      · rw [if_pos hq] at i1
        rw [if_pos (show m < k + 1 ∧ Q m = true from ⟨by omega, hq.2⟩)]
        omega
      · rw [if_neg hq] at i1
        rw [if_neg (show ¬ (m < k + 1 ∧ Q m = true) from fun q => hq ⟨by omega, q.2⟩)]
        omega
/-- The rings of a renaming, each by its lowest; how many lie among some. -/
def cyW (f : Nat → Nat) (M : Nat) : List Nat := levR (List.range M) (eds f M) M
theorem cyW_least {f : Nat → Nat} {M : Nat} (h : ∀ x, x < M → f x < M) : Least (eds f M) M (cyW f M) := levR_least (eds_lt h) M (Nat.le_refl _)
def cyN (f : Nat → Nat) (M : Nat) (Q : Nat → Bool) : Nat := rq (cyW f M) Q M
theorem least_congr {E F : List (Nat × Nat)} {n : Nat} {W : List Nat} (h : Least E n W) (e : ∀ x y, Con E x y ↔ Con F x y) : Least F n W :=
  ⟨h.1, fun v hv => ⟨(e _ _).1 (h.2 v hv).1, fun u hu => (h.2 v hv).2 u ((e _ _).2 hu)⟩⟩
/-- Two rings become one. -/
theorem cyN_join {f : Nat → Nat} {M : Nat} (h : Bij f M) (Q : Nat → Bool) {a b : Nat} (ha : a < M) (hb : b < M) (hn : ¬ Con (eds f M) a b) (hQ : ∀ x y, x < M → Con (eds f M) x y → Q x = Q y) (hab : Q a = Q b) : cyN (tr f a b) M Q + (if Q a = true then 1 else 0) = cyN f M Q := by
  have hW := cyW_least h.lt
  have hW' := cyW_least (h.tr ha hb).lt
  have e : cyW (tr f a b) M = mer (cyW f M) a b := hW'.eq (least_congr (mer_least hW a b ha hb (eds_lt h.lt)) fun x y => (con_join h ha hb hn x y).symm)
  have hne : (cyW f M).getD a 0 ≠ (cyW f M).getD b 0 := fun q => hn ((hW.same ha hb).1 q)
  have hm := rq_mer hW Q ha hb hne M (Nat.le_refl _)
  have la := hW.lt ha
  have lb := hW.lt hb
  have qa := hQ a _ ha (hW.2 a ha).1
  have qb := hQ b _ hb (hW.2 b hb).1
  have qm : Q (max ((cyW f M).getD a 0) ((cyW f M).getD b 0)) = Q a := by
    rcases Nat.le_total ((cyW f M).getD a 0) ((cyW f M).getD b 0) with hle | hle
    · rw [Nat.max_eq_right hle, ← qb, hab]
    · rw [Nat.max_eq_left hle, ← qa]
  rw [qm] at hm
  unfold cyN
  rw [e, ← hm]
  by_cases hq : Q a = true
  · rw [if_pos hq, if_pos ⟨by omega, hq⟩]
  · rw [if_neg hq, if_neg fun q => hq q.2]
theorem eds_congr {f g : Nat → Nat} {M : Nat} (e : ∀ x, x < M → f x = g x) : eds f M = eds g M := by
  unfold eds
  refine List.map_congr_left fun i hi => ?_
  rw [e i (List.mem_range.1 hi)]
theorem cyN_congr {f g : Nat → Nat} {M : Nat} (e : ∀ x, x < M → f x = g x) (Q : Nat → Bool) : cyN f M Q = cyN g M Q := by
  unfold cyN cyW
  rw [eds_congr e]
/-- One ring becomes two. -/
theorem cyN_part {f : Nat → Nat} {M : Nat} (h : Bij f M) (Q : Nat → Bool) {a b : Nat} (ha : a < M) (hb : b < M) (hne : a ≠ b) (hc : Con (eds f M) a b) (hQ : ∀ x y, x < M → Con (eds f M) x y → Q x = Q y) : cyN f M Q + (if Q a = true then 1 else 0) = cyN (tr f a b) M Q := by
  have hn := con_part h ha hb hne hc
  have hB := h.tr ha hb
  have hQ' : ∀ x y, x < M → Con (eds (tr f a b) M) x y → Q x = Q y := fun x y hx hxy => by
    have := hxy (fun z => Q x = Q z) (closed_eds.2 fun i hi => by
      have e : Q i = Q (tr f a b i) := by
        by_cases e1 : i = a
        · rw [e1, tr_a, hQ a b ha hc]; exact hQ b _ hb (con_f hb)
        · by_cases e2 : i = b
          · rw [e2, tr_b, ← hQ a b ha hc]; exact hQ a _ ha (con_f ha)
          · rw [tr_o f e1 e2]; exact hQ i _ hi (con_f hi)
      rw [e]) rfl
    exact this
  have k := cyN_join hB Q ha hb hn hQ' (hQ a b ha hc)
  rw [cyN_congr (fun x _ => tr_tr f a b x)] at k
  exact k
end Go.Proofs.Ytkbapnjlnnggaaa
/- Plain mathematics: rings of a renaming are closed; in which face a dart lies. -/
namespace Go.Proofs.Ytkbapnjlnnggaaa

theorem un_le (l : List Bool) (y : Nat) : un l y ≤ 1 := by unfold un; split <;> omega
theorem unseen_none {l : List Bool} (h : unseen l = 0) (x : Nat) : l.getD x true = true := by
  cases e : l.getD x true with
  | true => rfl
  | false => have := unseen_pos e; omega
theorem walkF_chain (f : Nat → Nat) : ∀ (m : Nat) (seen : List Bool) (x : Nat) (acc : List Nat), unseen seen ≤ m → (∀ i, i + 1 < acc.length → acc.getD (i + 1) 0 = f (acc.getD i 0)) → (0 < acc.length → x = f (acc.getD (acc.length - 1) 0)) →
    (∀ i, i + 1 < (walkF f m seen x acc).1.length → (walkF f m seen x acc).1.getD (i + 1) 0 = f ((walkF f m seen x acc).1.getD i 0)) ∧ (0 < (walkF f m seen x acc).1.length → un (walkF f m seen x acc).2 (f ((walkF f m seen x acc).1.getD ((walkF f m seen x acc).1.length - 1) 0)) = 0) := by
  intro m
  induction m with
  | zero =>
    intro seen x acc hu hc hx
    refine ⟨hc, fun h0 => ?_⟩
    show un seen (f (acc.getD (acc.length - 1) 0)) = 0
    rw [← hx h0]
    unfold un
    rw [if_pos (unseen_none (by omega) x)]
  | succ m ih =>
    intro seen x acc hu hc hx
    by_cases hs : seen.getD x true = true
    · rw [walkF_seen hs]
      refine ⟨hc, fun h0 => ?_⟩
      show un seen (f (acc.getD (acc.length - 1) 0)) = 0
      rw [← hx h0]
      unfold un
      rw [if_pos hs]
    · have hs' : seen.getD x true = false := by simpa using hs
      obtain ⟨e, hu2⟩ := walkF_more (f := f) (acc := acc) hs' hu
      rw [e]
      refine ih _ _ _ hu2 (fun i hi => ?_) (fun _ => ?_)
      · rw [List.length_append, List.length_singleton] at hi
        by_cases hi2 : i + 1 < acc.length
        · have e1 : (acc ++ [x]).getD (i + 1) 0 = acc.getD (i + 1) 0 := by simp [List.getD_eq_getElem?_getD, List.getElem?_append_left hi2]
          have e2 : (acc ++ [x]).getD i 0 = acc.getD i 0 := by simp [List.getD_eq_getElem?_getD, List.getElem?_append_left (show i < acc.length by omega)]
          rw [e1, e2]
          exact hc i hi2
        · have hl : acc.length = i + 1 := by omega
          have e1 : (acc ++ [x]).getD (i + 1) 0 = x := by rw [← hl]; simp [List.getD_eq_getElem?_getD]
          have e2 : (acc ++ [x]).getD i 0 = acc.getD i 0 := by simp [List.getD_eq_getElem?_getD, List.getElem?_append_left (show i < acc.length by omega)]
          rw [e1, e2, hx (by omega), hl]
          rfl
      · have e1 : (acc ++ [x]).getD ((acc ++ [x]).length - 1) 0 = x := by simp [List.getD_eq_getElem?_getD]
        rw [e1]
theorem mem_atZ {l : List Nat} {y : Nat} (h : y ∈ l) : ∃ i, i < l.length ∧ l.getD i 0 = y := by
  obtain ⟨i, hi, e⟩ := List.getElem_of_mem h
  exact ⟨i, hi, by rw [List.getD_eq_getElem?_getD, List.getElem?_eq_getElem hi]; exact e⟩
theorem at_mem {l : List Nat} {i : Nat} (h : i < l.length) : l.getD i 0 ∈ l := by
  rw [List.getD_eq_getElem?_getD, List.getElem?_eq_getElem h]
  exact List.getElem_mem h
theorem at_ne {l : List Nat} (h : ∀ y, l.count y ≤ 1) {i j : Nat} (hij : i < j) (hj : j < l.length) : l.getD i 0 ≠ l.getD j 0 := by
  have hn : l.Nodup := List.nodup_iff_count.2 h
  have := List.pairwise_iff_getElem.1 hn i j (by omega) hj hij
  rw [List.getD_eq_getElem?_getD, List.getElem?_eq_getElem (by omega), List.getD_eq_getElem?_getD, List.getElem?_eq_getElem hj]
  exact this
/-- Rings of a renaming are closed, and nothing that is not in them goes into them. -/
theorem rings_closed {f : Nat → Nat} {n : Nat} (hf : ∀ a, 1 ≤ a → a ≤ n → 1 ≤ f a ∧ f a ≤ n) (hi : ∀ a b, 1 ≤ a → a ≤ n → 1 ≤ b → b ≤ n → f a = f b → a = b) : ∀ a, a ≤ n →
    (∀ l, l ∈ (walksTo f n a).1 → ∀ y, y ∈ l → f y ∈ l) ∧ (∀ y, 1 ≤ y → y ≤ n → un (walksTo f n a).2 (f y) = 0 → un (walksTo f n a).2 y = 0) ∧
    (∀ l, l ∈ (walksTo f n a).1 → (∀ i, i + 1 < l.length → l.getD (i + 1) 0 = f (l.getD i 0)) ∧ f (l.getD (l.length - 1) 0) = l.getD 0 0) := by
  intro a
  induction a with
  | zero =>
    intro _
    refine ⟨fun l hl => absurd hl (by simp [walksTo]), fun y h1 h2 h3 => ?_, fun l hl => absurd hl (by simp [walksTo])⟩
    have h4 := hf y h1 h2
    exfalso
    have : un (walksTo f n 0).2 (f y) = 1 := by
      simp [walksTo, un, List.getD_eq_getElem?_getD, show f y < n + 1 by omega]
    omega
  | succ a ih =>
    intro ha
    obtain ⟨i1, i2, i3⟩ := ih (by omega)
    have hin := walksTo_mem hf a (by omega)
    generalize hr : walksTo f n a = r at i1 i2 i3 hin
    have hlen : r.2.length = n + 1 := by rw [← hr]; exact walksTo_len f n a
    have hch := walkF_chain f (n + 1) r.2 (a + 1) [] (by have := unseen_le r.2; omega) (fun i hi => by simp at hi) (fun h0 => by simp at h0)
    have hmem := walkF_mem hf (n + 1) r.2 (a + 1) [] (by omega) ha (fun y hy => by cases hy)
    have hcnt := walkF_count f (n + 1) r.2 (a + 1) []
    have hkeep := walkF_keep f (n + 1) r.2 (a + 1) []
    have e : walksTo f n (a + 1) = (if (walkF f (n + 1) r.2 (a + 1) []).1 = [] then r.1 else r.1 ++ [(walkF f (n + 1) r.2 (a + 1) []).1], (walkF f (n + 1) r.2 (a + 1) []).2) := by simp only [walksTo, hr]
    rw [e]
    generalize walkF f (n + 1) r.2 (a + 1) [] = s at hch hmem hcnt hkeep
    obtain ⟨l, sn⟩ := s
    simp only [List.count_nil, Nat.zero_add] at hch hmem hcnt hkeep ⊢
    have hc1 : ∀ y, l.count y ≤ 1 := fun y => by have := hcnt y; have := un_le r.2 y; omega
    have hin1 : ∀ y, y ∈ l → un r.2 y = 1 ∧ un sn y = 0 := fun y hy => by
      have h1 : 1 ≤ l.count y := List.one_le_count_iff.2 hy
      have h2 := hcnt y
      have h3 := un_le r.2 y
      omega
    -- what stands behind the last is the first
    have hend : 0 < l.length → f (l.getD (l.length - 1) 0) = l.getD 0 0 := fun h0 => by
      have hlast := at_mem (l := l) (i := l.length - 1) (by omega)
      have hb := hmem _ hlast
      have hz := hch.2 h0
      have hnz : un r.2 (f (l.getD (l.length - 1) 0)) ≠ 0 := fun q => by
        have := i2 _ hb.1 hb.2 q
        have := (hin1 _ hlast).1
        omega
      have hz1 : f (l.getD (l.length - 1) 0) ∈ l := by
        have h2 := hcnt (f (l.getD (l.length - 1) 0))
        refine List.one_le_count_iff.1 ?_
        omega
      obtain ⟨j, hj, ej⟩ := mem_atZ hz1
      cases j with
      | zero => exact ej.symm
      | succ j =>
        exfalso
        have h5 := hch.1 j hj
        rw [ej] at h5
        have hbj := hmem _ (at_mem (l := l) (i := j) (by omega))
        have h6 := hi _ _ hb.1 hb.2 hbj.1 hbj.2 h5
        exact at_ne hc1 (i := j) (j := l.length - 1) (by omega) (by omega) h6.symm
    refine ⟨?_, fun y h1 h2 h3 => ?_, fun l' hl' => ?_⟩
    · intro l' hl' y hy
      by_cases hnil : l = []
      · rw [if_pos hnil] at hl'
        exact i1 l' hl' y hy
      · rw [if_neg hnil] at hl'
        rcases List.mem_append.1 hl' with h | h
        · exact i1 l' h y hy
        · obtain rfl := List.mem_singleton.1 h
          obtain ⟨i, hil, rfl⟩ := mem_atZ hy
          by_cases hlast : i + 1 < l'.length
          · rw [← hch.1 i hlast]
            exact at_mem hlast
          · have hi1 : i = l'.length - 1 := by omega
            rw [hi1, hend (by omega)]
            exact at_mem (by omega)
    · by_cases hq : un r.2 (f y) = 0
      · exact hkeep y (i2 y h1 h2 hq)
      · have hmy : f y ∈ l := List.one_le_count_iff.1 (by have := hcnt (f y); omega)
        obtain ⟨j, hj, ej⟩ := mem_atZ hmy
        cases j with
        | zero =>
          have hlast := at_mem (l := l) (i := l.length - 1) (by omega)
          have hb := hmem _ hlast
          have := hi y _ h1 h2 hb.1 hb.2 (by rw [hend (by omega), ej])
          rw [this]
          exact (hin1 _ hlast).2
        | succ j =>
          have h5 := hch.1 j hj
          rw [ej] at h5
          have hbj := hmem _ (at_mem (l := l) (i := j) (by omega))
          have := hi y _ h1 h2 hbj.1 hbj.2 h5
          rw [this]
          exact (hin1 _ (at_mem (by omega))).2
    · by_cases hnil : l = []
      · rw [if_pos hnil] at hl'
        exact i3 l' hl'
      · rw [if_neg hnil] at hl'
        rcases List.mem_append.1 hl' with h | h
        · exact i3 l' h
        · obtain rfl := List.mem_singleton.1 h
          have h0 : 0 < l'.length := by
            cases l' with
            | nil => exact absurd rfl hnil
            | cons => simp
          exact ⟨hch.1, hend h0⟩
theorem fd_inj {C : List Cr} {loops : Int} (hm : mayD C loops = true) (i j : Nat) (h1 : 1 ≤ i) (h2 : i ≤ 4 * C.length) (h3 : 1 ≤ j) (h4 : j ≤ 4 * C.length) (e : fd C i = fd C j) : i = j := by
  obtain ⟨p1, p2, p3⟩ := d_may hm i h1 h2
  obtain ⟨q1, q2, q3⟩ := d_may hm j h3 h4
  obtain ⟨a1, a2, a3, a4⟩ := fd_may hm i h1 h2
  obtain ⟨b1, b2, b3, b4⟩ := fd_may hm j h3 h4
  rw [e] at a1 a2
  have hA := dA_le b3 b4
  have e1 := end_one hm _ hA.1 hA.2 _ _ _ p2 (Nat.mod_lt _ (by decide)) a1 a2
  have e2 := end_one hm _ hA.1 hA.2 _ _ _ q2 (Nat.mod_lt _ (by decide)) b1 b2
  rw [e1] at e2
  have hcc : dC C i = dC C j := by have := congrArg Prod.fst e2; simp only at this; omega
  have hss : dS C i = dS C j := by have := congrArg Prod.snd e2; simp only at this; omega
  have u := en_may hm (dA i) (!dB i) (dA_le h1 h2).1 (dA_le h1 h2).2
  have v := en_may hm (dA j) (!dB j) (dA_le h3 h4).1 (dA_le h3 h4).2
  have u1 : (C.getD (dC C i) Cr.none).arc (dS C i) = (dA i : Int) := u.2.2.2.1
  have v1 : (C.getD (dC C j) Cr.none).arc (dS C j) = (dA j : Int) := v.2.2.2.1
  have u2 : (C.getD (dC C i) Cr.none).comes (dS C i) = (!dB i) := u.2.2.2.2
  have v2 : (C.getD (dC C j) Cr.none).comes (dS C j) = (!dB j) := v.2.2.2.2
  rw [hcc, hss] at u1 u2
  have h5 : dA i = dA j := by omega
  have h6 : dB i = dB j := by
    rw [u2] at v2
    revert v2
    cases dB i <;> cases dB j <;> simp
  rw [← mk_d h1, ← mk_d h3, h5, h6]
/-- The face of a dart. -/
def fo (C : List Cr) (j : Nat) : Nat := pt (facesM C) j
theorem fo_lt {C : List Cr} (j : Nat) (h1 : 1 ≤ j) (h2 : j ≤ 4 * C.length) : fo C j < (facesM C).length := pt_lt (walks_once (fd C) (4 * C.length) j h1 h2)
theorem fo_fd {C : List Cr} {loops : Int} (hm : mayD C loops = true) (j : Nat) (h1 : 1 ≤ j) (h2 : j ≤ 4 * C.length) : fo C (fd C j) = fo C j := by
  have hc := fd_closed hm j h1 h2
  have hl := fo_lt j h1 h2
  have hj : j ∈ (facesM C).getD (fo C j) [] := (pt_mem (walks_once (fd C) (4 * C.length) j h1 h2) hl).2 rfl
  have hin : (facesM C).getD (fo C j) [] ∈ facesM C := by
    rw [List.getD_eq_getElem?_getD, List.getElem?_eq_getElem hl]
    exact List.getElem_mem hl
  have h3 := (rings_closed (fd_closed hm) (fun a b p q r s t => fd_inj hm a b p q r s t) (4 * C.length) (Nat.le_refl _)).1 _ hin j hj
  exact pt_is (walks_once (fd C) (4 * C.length) _ hc.1 hc.2) hl h3
end Go.Proofs.Ytkbapnjlnnggaaa
/- Plain mathematics: the walks along a renaming begin each at the lowest of its ring: there are as many as rings. -/
namespace Go.Proofs.Ytkbapnjlnnggaaa

def up0 (f : Nat → Nat) (x : Nat) : Nat := if x = 0 then 0 else f x
theorem up0_pos (f : Nat → Nat) {x : Nat} (h : 1 ≤ x) : up0 f x = f x := by unfold up0; rw [if_neg (by omega)]
theorem bij_up0 {f : Nat → Nat} {n : Nat} (hf : ∀ a, 1 ≤ a → a ≤ n → 1 ≤ f a ∧ f a ≤ n) (hi : ∀ a b, 1 ≤ a → a ≤ n → 1 ≤ b → b ≤ n → f a = f b → a = b) : Bij (up0 f) (n + 1) := by
  refine ⟨fun x hx => ?_, fun x y hx hy e => ?_⟩
  · by_cases h : x = 0
    · rw [h]; exact Nat.succ_pos n
    · rw [up0_pos f (by omega)]; have := hf x (by omega) (by omega); omega
  · by_cases h : x = 0
    · by_cases g : y = 0
      · omega
      · rw [h, up0_pos f (show 1 ≤ y by omega)] at e
        have := hf y (by omega) (by omega)
        have e0 : up0 f 0 = 0 := rfl
        omega
    · by_cases g : y = 0
      · rw [g, up0_pos f (show 1 ≤ x by omega)] at e
        have := hf x (by omega) (by omega)
        have e0 : up0 f 0 = 0 := rfl
        omega
      · rw [up0_pos f (show 1 ≤ x by omega), up0_pos f (show 1 ≤ y by omega)] at e
        exact hi x y (by omega) (by omega) (by omega) (by omega) e
theorem walkF_head (f : Nat → Nat) : ∀ (m : Nat) (seen : List Bool) (x z : Nat) (acc : List Nat), (walkF f m seen x (z :: acc)).1.getD 0 0 = z ∧ (walkF f m seen x (z :: acc)).1 ≠ [] := by
  intro m
  induction m with
  | zero => intro seen x z acc; exact ⟨rfl, by simp [walkF]⟩
  | succ m ih =>
    intro seen x z acc
    simp only [walkF]
    split
    · exact ⟨rfl, by simp⟩
    · exact ih _ _ z (acc ++ [x])
theorem walkF_new (f : Nat → Nat) (m : Nat) (seen : List Bool) (x : Nat) (h : un seen x = 1) : (walkF f (m + 1) seen x []).1.getD 0 0 = x ∧ (walkF f (m + 1) seen x []).1 ≠ [] := by
  have h1 : ¬ seen.getD x true = true := fun q => by unfold un at h; rw [if_pos q] at h; omega
  simp only [walkF]
  rw [if_neg h1]
  exact walkF_head f m _ _ x []
theorem un_seen {seen : List Bool} {x : Nat} (h : un seen x = 0) : seen.getD x true = true := by
  refine Classical.byContradiction fun q => ?_
  unfold un at h
  rw [if_neg q] at h
  omega
theorem seen_in {f : Nat → Nat} {n a y : Nat} (h1 : 1 ≤ y) (h2 : y ≤ n) : un (walksTo f n a).2 y = 0 ↔ ∃ l, l ∈ (walksTo f n a).1 ∧ y ∈ l := by
  have h := walksTo_one f n a y h1 h2
  have hc : 1 ≤ (walksTo f n a).1.flatten.count y ↔ ∃ l, l ∈ (walksTo f n a).1 ∧ y ∈ l := by rw [List.one_le_count_iff, List.mem_flatten]
  rw [← hc]
  omega
theorem zero_apart {f : Nat → Nat} {n : Nat} (hf : ∀ a, 1 ≤ a → a ≤ n → 1 ≤ f a ∧ f a ≤ n) {x : Nat} (hx : 1 ≤ x) : ¬ Con (eds (up0 f) (n + 1)) x 0 := fun hc => by
  have := hc (fun z => 1 ≤ z) (closed_eds.2 fun i hi => by
    by_cases h : i = 0
    · subst h; exact Iff.rfl
    · rw [up0_pos f (by omega)]
      have := (hf i (by omega) (by omega)).1
      exact ⟨fun _ => this, fun _ => by omega⟩) hx
  exact absurd this (by decide)
/-- The seen are whole rings. -/
theorem seen_closed {f : Nat → Nat} {n : Nat} (hf : ∀ a, 1 ≤ a → a ≤ n → 1 ≤ f a ∧ f a ≤ n) (hi : ∀ a b, 1 ≤ a → a ≤ n → 1 ≤ b → b ≤ n → f a = f b → a = b) (a : Nat) (ha : a ≤ n) : Closed (eds (up0 f) (n + 1)) fun z => 1 ≤ z ∧ un (walksTo f n a).2 z = 0 := by
  obtain ⟨r1, r2, -⟩ := rings_closed hf hi a ha
  refine closed_eds.2 fun i hin => ?_
  by_cases h : i = 0
  · subst h; exact Iff.rfl
  · rw [up0_pos f (by omega)]
    have hfi := hf i (by omega) (by omega)
    constructor
    · rintro ⟨h1, h2⟩
      obtain ⟨l, hl, hy⟩ := (seen_in h1 (by omega)).1 h2
      exact ⟨hfi.1, (seen_in hfi.1 hfi.2).2 ⟨l, hl, r1 l hl i hy⟩⟩
    · rintro ⟨-, h2⟩
      exact ⟨by omega, r2 i (by omega) (by omega) h2⟩
/-- A walk's arcs are joined to its first. -/
theorem ring_con {f : Nat → Nat} {n : Nat} {l : List Nat} (hm : ∀ y, y ∈ l → 1 ≤ y ∧ y ≤ n) (hc : ∀ i, i + 1 < l.length → l.getD (i + 1) 0 = f (l.getD i 0)) : ∀ i, i < l.length → Con (eds (up0 f) (n + 1)) (l.getD 0 0) (l.getD i 0) := by
  intro i
  induction i with
  | zero => intro _; exact Con.refl _ _
  | succ i ih =>
    intro hi
    have hb := hm _ (at_mem (l := l) (i := i) (by omega))
    have h1 := con_f (f := up0 f) (M := n + 1) (x := l.getD i 0) (by omega)
    rw [up0_pos f hb.1, ← hc i hi] at h1
    exact (ih (by omega)).trans h1
theorem heads_roots {f : Nat → Nat} {n : Nat} (hf : ∀ a, 1 ≤ a → a ≤ n → 1 ≤ f a ∧ f a ≤ n) (hi : ∀ a b, 1 ≤ a → a ≤ n → 1 ≤ b → b ≤ n → f a = f b → a = b) : ∀ a, a ≤ n →
    (∀ l, l ∈ (walksTo f n a).1 → 1 ≤ l.getD 0 0 ∧ l.getD 0 0 ≤ a) ∧
    ∀ Q : Nat → Bool, Q 0 = false → (walksTo f n a).1.countP (fun l => Q (l.getD 0 0)) = rq (cyW (up0 f) (n + 1)) Q (a + 1) := by
  have hB := bij_up0 hf hi
  have hW := cyW_least hB.lt
  intro a
  induction a with
  | zero =>
    intro _
    refine ⟨fun l hl => absurd hl (by simp [walksTo]), fun Q q0 => ?_⟩
    simp [walksTo, rq, q0]
  | succ a ih =>
    intro ha
    obtain ⟨i1, i2⟩ := ih (by omega)
    have hcl := seen_closed hf hi a (by omega)
    have hin := walksTo_mem hf a (by omega)
    obtain ⟨-, -, r3⟩ := rings_closed hf hi a (by omega)
    by_cases hs : un (walksTo f n a).2 (a + 1) = 0
    · have e : walksTo f n (a + 1) = walksTo f n a := by
        simp only [walksTo]
        rw [walkF_seen (un_seen hs)]
        rfl
      rw [e]
      refine ⟨fun l hl => ⟨(i1 l hl).1, by have := (i1 l hl).2; omega⟩, fun Q q0 => ?_⟩
      rw [i2 Q q0]
      have hnr : (cyW (up0 f) (n + 1)).getD (a + 1) 0 ≠ a + 1 := fun q => by
        obtain ⟨l, hl, hy⟩ := (seen_in (by omega) ha).1 hs
        obtain ⟨i, hil, ei⟩ := mem_atZ hy
        have hc := ring_con (f := f) (n := n) (hin l hl).2.2 (r3 l hl).1 i hil
        rw [ei] at hc
        have := (hW.2 (a + 1) (by omega)).2 _ hc.symm
        have := (i1 l hl).2
        omega
      show _ = rq (cyW (up0 f) (n + 1)) Q (a + 1) + (if (cyW (up0 f) (n + 1)).getD (a + 1) 0 = a + 1 ∧ Q (a + 1) = true then 1 else 0)
      rw [if_neg fun q => hnr q.1]
      rfl
    · have hs1 : un (walksTo f n a).2 (a + 1) = 1 := by have := un_le (walksTo f n a).2 (a + 1); omega
      obtain ⟨hh, hne⟩ := walkF_new f n (walksTo f n a).2 (a + 1) hs1
      have e : (walksTo f n (a + 1)).1 = (walksTo f n a).1 ++ [(walkF f (n + 1) (walksTo f n a).2 (a + 1) []).1] := by
        simp only [walksTo]
        rw [if_neg hne]
      rw [e]
      refine ⟨fun l hl => ?_, fun Q q0 => ?_⟩
      · rcases List.mem_append.1 hl with h | h
        · exact ⟨(i1 l h).1, by have := (i1 l h).2; omega⟩
        · rw [List.mem_singleton.1 h, hh]; omega
      · have hr : (cyW (up0 f) (n + 1)).getD (a + 1) 0 = a + 1 := by
          refine Classical.byContradiction fun q => ?_
          have hle := hW.le (v := a + 1) (by omega)
          have hcn := (hW.2 (a + 1) (by omega)).1
          generalize hu : (cyW (up0 f) (n + 1)).getD (a + 1) 0 = u at q hle hcn
          by_cases h0 : u = 0
          · rw [h0] at hcn
            exact zero_apart hf (by omega) hcn
          · have := hcn.symm _ hcl ⟨by omega, walksTo_seen f n a u (by omega) (by omega)⟩
            exact hs this.2
        rw [List.countP_append, i2 Q q0]
        show _ = rq (cyW (up0 f) (n + 1)) Q (a + 1) + (if (cyW (up0 f) (n + 1)).getD (a + 1) 0 = a + 1 ∧ Q (a + 1) = true then 1 else 0)
        rw [List.countP_singleton, hh]
        by_cases hq : Q (a + 1) = true
        · rw [if_pos hq, if_pos ⟨hr, hq⟩]
        · rw [if_neg hq, if_neg fun q => hq q.2]
/-- As many walks among some as rings. -/
theorem walks_cyN {f : Nat → Nat} {n : Nat} (hf : ∀ a, 1 ≤ a → a ≤ n → 1 ≤ f a ∧ f a ≤ n) (hi : ∀ a b, 1 ≤ a → a ≤ n → 1 ≤ b → b ≤ n → f a = f b → a = b) (Q : Nat → Bool) (q0 : Q 0 = false) : (walksTo f n n).1.countP (fun l => Q (l.getD 0 0)) = cyN (up0 f) (n + 1) Q := (heads_roots hf hi n (Nat.le_refl _)).2 Q q0
end Go.Proofs.Ytkbapnjlnnggaaa
/- Plain mathematics: in a planar diagram of one piece a set of arcs that comes to each crossing an even number of times parts two sets of faces. -/
namespace Go.Proofs.Ytkbapnjlnnggaaa

theorem xs_swap (h : Nat → Nat → Bool) (m n : Nat) : xs (fun i => xs (fun j => h i j) n) m = xs (fun j => xs (fun i => h i j) m) n := by
  induction m with
  | zero =>
    have : xs (fun j => xs (fun i => h i j) 0) n = false := xs_none fun _ _ => rfl
    rw [this]; rfl
  | succ m ih =>
    have : xs (fun j => xs (fun i => h i j) (m + 1)) n = xor (xs (fun j => xs (fun i => h i j) m) n) (xs (fun j => h m j) n) := by
      rw [← xs_xor]
      rfl
    rw [this, ← ih]
    rfl
theorem xs_only {n q : Nat} (hq : q < n) (b : Bool) : xs (fun j => decide (j = q) && b) n = b := by
  cases b with
  | false => exact xs_none fun _ _ => by simp
  | true => exact xs_last hq (by simp) (fun j hj => by simp; omega) (fun j h1 _ => by simp; omega)
/-- A sum in another order. -/
theorem xs_perm {M : Nat} (h : Nat → Bool) (p r : Nat → Nat) (hp : ∀ j, j < M → p j < M) (hr : ∀ q, q < M → r q < M) (h1 : ∀ j, j < M → r (p j) = j) (h2 : ∀ q, q < M → p (r q) = q) : xs h M = xs (fun q => h (r q)) M := by
  have e1 : xs h M = xs (fun j => xs (fun q => decide (q = p j) && h j) M) M := xs_congr fun j hj => (xs_only (hp j hj) (h j)).symm
  have e2 : xs (fun q => h (r q)) M = xs (fun q => xs (fun j => decide (q = p j) && h j) M) M := xs_congr fun q hq => by
    rw [← xs_only (hr q hq) (h (r q))]
    refine xs_congr fun j hj => ?_
    by_cases e : j = r q
    · subst e
      rw [h2 q hq]
      simp
    · have : ¬ q = p j := fun e3 => e (by rw [e3, h1 j hj])
      simp [e, this]
  rw [e1, e2, xs_swap]
theorem xs_two (h : Nat → Bool) (m : Nat) : xs h (2 * m) = xs (fun i => xor (h (2 * i)) (h (2 * i + 1))) m := by
  induction m with
  | zero => rfl
  | succ m ih =>
    rw [show 2 * (m + 1) = 2 * m + 1 + 1 by omega]
    simp only [xs]
    rw [ih]
    cases xs (fun i => xor (h (2 * i)) (h (2 * i + 1))) m <;> cases h (2 * m) <;> cases h (2 * m + 1) <;> rfl
theorem xs_four (h : Nat → Bool) (m : Nat) : xs h (4 * m) = xs (fun k => xor (xor (h (4 * k)) (h (4 * k + 1))) (xor (h (4 * k + 2)) (h (4 * k + 3)))) m := by
  induction m with
  | zero => rfl
  | succ m ih =>
    rw [show 4 * (m + 1) = 4 * m + 1 + 1 + 1 + 1 by omega]
    simp only [xs]
    rw [ih]
    cases xs (fun k => xor (xor (h (4 * k)) (h (4 * k + 1))) (xor (h (4 * k + 2)) (h (4 * k + 3)))) m <;> cases h (4 * m) <;> cases h (4 * m + 1) <;> cases h (4 * m + 2) <;> cases h (4 * m + 3) <;> rfl
/-- The arc at a side. -/
def aAt (C : List Cr) (k s : Nat) : Nat := ((C.getD k Cr.none).arc s).toNat
theorem en_side {C : List Cr} {loops : Int} (hm : mayD C loops = true) (k s : Nat) (hk : k < C.length) (hs : s < 4) : enC C (aAt C k s) ((C.getD k Cr.none).comes s) = k ∧ enS C (aAt C k s) ((C.getD k Cr.none).comes s) = s ∧ 1 ≤ aAt C k s ∧ aAt C k s ≤ 2 * C.length := by
  have hf := may_fit hm k s hk hs
  have g1 := hf.1
  have g2 := hf.2.1
  have ha : 1 ≤ aAt C k s ∧ aAt C k s ≤ 2 * C.length := by unfold aAt; omega
  have e := end_one hm (aAt C k s) ha.1 ha.2 ((C.getD k Cr.none).comes s) k s hk hs (by unfold aAt; omega) rfl
  refine ⟨?_, ?_, ha.1, ha.2⟩
  · unfold enC; rw [e]; rfl
  · unfold enS; rw [e]; rfl
/-- A sum over arcs' ends is a sum over crossings' sides. -/
theorem xs_sides {C : List Cr} {loops : Int} (hm : mayD C loops = true) (S d : Nat → Bool) : xs (fun i => xor (S (enC C (i + 1) true)) (S (enC C (i + 1) false)) && d (i + 1)) (2 * C.length) = xs (fun k => S k && xor (xor (d (aAt C k 0)) (d (aAt C k 1))) (xor (d (aAt C k 2)) (d (aAt C k 3)))) C.length := by
  have e1 : xs (fun i => xor (S (enC C (i + 1) true)) (S (enC C (i + 1) false)) && d (i + 1)) (2 * C.length) = xs (fun j => S (enC C (dA (j + 1)) (dB (j + 1))) && d (dA (j + 1))) (2 * (2 * C.length)) := by
    refine Eq.trans ?_ (xs_two (fun j => S (enC C (dA (j + 1)) (dB (j + 1))) && d (dA (j + 1))) (2 * C.length)).symm
    refine xs_congr fun i _ => ?_
    have a1 : dA (2 * i + 1) = i + 1 := by unfold dA; omega
    have a2 : dA (2 * i + 1 + 1) = i + 1 := by unfold dA; omega
    have b1 : dB (2 * i + 1) = false := by unfold dB; exact decide_eq_false (by omega)
    have b2 : dB (2 * i + 1 + 1) = true := by unfold dB; exact decide_eq_true (by omega)
    rw [a1, a2, b1, b2]
    cases S (enC C (i + 1) true) <;> cases S (enC C (i + 1) false) <;> cases d (i + 1) <;> rfl
  rw [e1, show 2 * (2 * C.length) = 4 * C.length by omega]
  rw [xs_perm (fun j => S (enC C (dA (j + 1)) (dB (j + 1))) && d (dA (j + 1))) (fun j => 4 * enC C (dA (j + 1)) (dB (j + 1)) + enS C (dA (j + 1)) (dB (j + 1))) (fun q => mkD (aAt C (q / 4) (q % 4)) ((C.getD (q / 4) Cr.none).comes (q % 4)) - 1)
    (fun j hj => by
      have hA := dA_le (j := j + 1) (n := C.length) (by omega) (by omega)
      have h := en_may hm (dA (j + 1)) (dB (j + 1)) hA.1 hA.2
      omega)
    (fun q hq => by
      have h := en_side hm (q / 4) (q % 4) (by omega) (by omega)
      have h2 := mk_le (p := (C.getD (q / 4) Cr.none).comes (q % 4)) h.2.2.1 h.2.2.2
      omega)
    (fun j hj => by
      have hA := dA_le (j := j + 1) (n := C.length) (by omega) (by omega)
      obtain ⟨-, h2, h3, h4, h5⟩ := en_may hm (dA (j + 1)) (dB (j + 1)) hA.1 hA.2
      have q1 : (4 * enC C (dA (j + 1)) (dB (j + 1)) + enS C (dA (j + 1)) (dB (j + 1))) / 4 = enC C (dA (j + 1)) (dB (j + 1)) := by omega
      have q2 : (4 * enC C (dA (j + 1)) (dB (j + 1)) + enS C (dA (j + 1)) (dB (j + 1))) % 4 = enS C (dA (j + 1)) (dB (j + 1)) := by omega
      simp only [q1, q2]
      have e : aAt C (enC C (dA (j + 1)) (dB (j + 1))) (enS C (dA (j + 1)) (dB (j + 1))) = dA (j + 1) := by unfold aAt; rw [h4]; omega
      rw [e, h5, mk_d (by omega)]
      omega)
    (fun q hq => by
      have h := en_side hm (q / 4) (q % 4) (by omega) (by omega)
      have h2 := mk_le (p := (C.getD (q / 4) Cr.none).comes (q % 4)) h.2.2.1 h.2.2.2
      have e : mkD (aAt C (q / 4) (q % 4)) ((C.getD (q / 4) Cr.none).comes (q % 4)) - 1 + 1 = mkD (aAt C (q / 4) (q % 4)) ((C.getD (q / 4) Cr.none).comes (q % 4)) := by omega
      simp only [e]
      rw [dA_mk h.2.2.1, dB_mk h.2.2.1, h.1, h.2.1]
      omega)]
  rw [xs_four]
  refine xs_congr fun k hk => ?_
  have side : ∀ s, s < 4 → (S (enC C (dA (mkD (aAt C ((4 * k + s) / 4) ((4 * k + s) % 4)) ((C.getD ((4 * k + s) / 4) Cr.none).comes ((4 * k + s) % 4)) - 1 + 1)) (dB (mkD (aAt C ((4 * k + s) / 4) ((4 * k + s) % 4)) ((C.getD ((4 * k + s) / 4) Cr.none).comes ((4 * k + s) % 4)) - 1 + 1))) && d (dA (mkD (aAt C ((4 * k + s) / 4) ((4 * k + s) % 4)) ((C.getD ((4 * k + s) / 4) Cr.none).comes ((4 * k + s) % 4)) - 1 + 1))) = (S k && d (aAt C k s)) := fun s hs => by
    rw [show (4 * k + s) / 4 = k by omega, show (4 * k + s) % 4 = s by omega]
    have h := en_side hm k s hk hs
    have h2 := mk_le (p := (C.getD k Cr.none).comes s) h.2.2.1 h.2.2.2
    rw [show mkD (aAt C k s) ((C.getD k Cr.none).comes s) - 1 + 1 = mkD (aAt C k s) ((C.getD k Cr.none).comes s) by omega, dA_mk h.2.2.1, dB_mk h.2.2.1, h.1]
  have s0 := side 0 (by omega)
  simp only [Nat.add_zero] at s0
  rw [s0, side 1 (by omega), side 2 (by omega), side 3 (by omega)]
  cases S k <;> cases d (aAt C k 0) <;> cases d (aAt C k 1) <;> cases d (aAt C k 2) <;> cases d (aAt C k 3) <;> rfl
/-- The corners of a crossing: what lies left of the dart that leaves at a side. -/
def cor (C : List Cr) (k s : Nat) : Nat := fo C (mkD (aAt C k s) ((C.getD k Cr.none).comes s))
/-- To the left of the dart that comes to a side lies the corner behind it. -/
theorem cor_back {C : List Cr} {loops : Int} (hm : mayD C loops = true) (k s : Nat) (hk : k < C.length) (hs : s < 4) : fo C (mkD (aAt C k s) (!(C.getD k Cr.none).comes s)) = cor C k ((s + 3) % 4) := by
  have h := en_side hm k s hk hs
  have h2 := mk_le (p := !(C.getD k Cr.none).comes s) h.2.2.1 h.2.2.2
  rw [← fo_fd hm _ h2.1 h2.2]
  unfold cor fd dC dS
  rw [dA_mk h.2.2.1, dB_mk h.2.2.1, Bool.not_not, h.1, h.2.1]
  rfl
/-- What lies on the two sides of an arc. -/
def dfE (C : List Cr) (i : Nat) : Nat × Nat := (fo C (mkD (i + 1) true), fo C (mkD (i + 1) false))
def arE (C : List Cr) (i : Nat) : Nat × Nat := (enC C (i + 1) true, enC C (i + 1) false)
def sides (C : List Cr) (g : Nat → Bool) (a : Nat) : Bool := xor (g (fo C (mkD a true))) (g (fo C (mkD a false)))
theorem sides_at {C : List Cr} {loops : Int} (hm : mayD C loops = true) (g : Nat → Bool) (k s : Nat) (hk : k < C.length) (hs : s < 4) : sides C g (aAt C k s) = xor (g (cor C k s)) (g (cor C k ((s + 3) % 4))) := by
  have h := cor_back hm k s hk hs
  unfold sides
  unfold cor at h ⊢
  rw [← h]
  cases (C.getD k Cr.none).comes s <;> simp [Bool.xor_comm]
theorem sides_even {C : List Cr} {loops : Int} (hm : mayD C loops = true) (g : Nat → Bool) (k : Nat) (hk : k < C.length) : xor (xor (sides C g (aAt C k 0)) (sides C g (aAt C k 1))) (xor (sides C g (aAt C k 2)) (sides C g (aAt C k 3))) = false := by
  rw [sides_at hm g k 0 hk (by omega), sides_at hm g k 1 hk (by omega), sides_at hm g k 2 hk (by omega), sides_at hm g k 3 hk (by omega)]
  show xor (xor (xor (g (cor C k 0)) (g (cor C k 3))) (xor (g (cor C k 1)) (g (cor C k 0)))) (xor (xor (g (cor C k 2)) (g (cor C k 1))) (xor (g (cor C k 3)) (g (cor C k 2)))) = false
  cases g (cor C k 0) <;> cases g (cor C k 1) <;> cases g (cor C k 2) <;> cases g (cor C k 3) <;> rfl
theorem cross_even {C : List Cr} {loops : Int} (hm : mayD C loops = true) (S g : Nat → Bool) : xs (fun i => xor (S (arE C i).1) (S (arE C i).2) && xor (g (dfE C i).1) (g (dfE C i).2)) (2 * C.length) = false := by
  have h := xs_sides hm S (sides C g)
  refine Eq.trans ?_ (h.trans (xs_none fun k hk => ?_))
  · rfl
  · rw [sides_even hm g k hk, Bool.and_false]
theorem rt_one {W : List Nat} {n v : Nat} (h : ∀ u, u < n → W.getD u 0 = v) : ∀ k, k ≤ n → rt W k ≤ 1 ∧ (k ≤ v → rt W k = 0) := by
  intro k
  induction k with
  | zero => intro _; exact ⟨Nat.zero_le _, fun _ => rfl⟩
  | succ k ih =>
    intro hk
    obtain ⟨i1, i2⟩ := ih (by omega)
    simp only [rt]
    have e := h k (by omega)
    by_cases hr : W.getD k 0 = k
    · rw [if_pos hr]
      have := i2 (by omega)
      exact ⟨by omega, fun _ => by omega⟩
    · rw [if_neg hr]
      exact ⟨by omega, fun _ => by have := i2 (by omega); omega⟩
theorem incl_all {E : Nat → Nat × Nat} {m : Nat} : incl E (fun _ => true) m = (List.range m).map E := by
  induction m with
  | zero => rfl
  | succ m ih => simp only [incl, if_true]; rw [ih, List.range_succ, List.map_append]; rfl
/-- All faces of a diagram of one piece are joined across arcs. -/
theorem faces_joined {C : List Cr} {loops : Int} (hm : mayD C loops = true) (h1 : ∀ k, k < C.length → Con (arcE C) 0 k) (k s : Nat) (hk : k < C.length) (hs : s < 4) : Con (incl (dfE C) (fun _ => true) (2 * C.length)) (cor C 0 0) (cor C k s) := by
  intro T hT h0
  -- across an arc
  have hedge : ∀ a, 1 ≤ a → a ≤ 2 * C.length → ∀ p q, T (fo C (mkD a p)) → T (fo C (mkD a q)) := fun a ha1 ha2 p q => by
    have he := hT _ (incl_mem.2 ⟨a - 1, by omega, rfl, rfl⟩ : dfE C (a - 1) ∈ _)
    unfold dfE at he
    rw [show a - 1 + 1 = a by omega] at he
    cases p <;> cases q <;> simp only at he ⊢
    · exact id
    · exact he.2
    · exact he.1
    · exact id
  have hturn : ∀ k s, k < C.length → s < 4 → (T (cor C k s) ↔ T (cor C k ((s + 3) % 4))) := fun k s hk hs => by
    have h := en_side hm k s hk hs
    rw [← cor_back hm k s hk hs]
    unfold cor
    exact ⟨hedge _ h.2.2.1 h.2.2.2 _ _, hedge _ h.2.2.1 h.2.2.2 _ _⟩
  have hall : ∀ k, k < C.length → (∀ s, s < 4 → (T (cor C k s) ↔ T (cor C k 0))) := fun k hk s hs => by
    have t1 := hturn k 1 hk (by omega)
    have t2 := hturn k 2 hk (by omega)
    have t3 := hturn k 3 hk (by omega)
    simp only [Nat.reduceAdd, Nat.reduceMod] at t1 t2 t3
    have : s = 0 ∨ s = 1 ∨ s = 2 ∨ s = 3 := by omega
    rcases this with rfl | rfl | rfl | rfl
    · exact Iff.rfl
    · exact t1
    · exact t2.trans t1
    · exact t3.trans (t2.trans t1)
  have key : (fun c => c < C.length → T (cor C c 0)) k := h1 k hk (fun c => c < C.length → T (cor C c 0)) (fun e he => by
    obtain ⟨i, hi, rfl⟩ := List.mem_map.1 he
    have hi2 := List.mem_range.1 hi
    have u := en_may hm (i + 1) true (by omega) (by omega)
    have v := en_may hm (i + 1) false (by omega) (by omega)
    have eu : fo C (mkD (i + 1) true) = cor C (enC C (i + 1) true) (enS C (i + 1) true) := by
      unfold cor aAt
      rw [u.2.2.2.1, u.2.2.2.2]
      rfl
    have ev : fo C (mkD (i + 1) false) = cor C (enC C (i + 1) false) (enS C (i + 1) false) := by
      unfold cor aAt
      rw [v.2.2.2.1, v.2.2.2.2]
      rfl
    have iu := hall _ u.2.1 _ u.2.2.1
    have iv := hall _ v.2.1 _ v.2.2.1
    rw [← eu] at iu
    rw [← ev] at iv
    have hx := hedge (i + 1) (by omega) (by omega)
    constructor
    · intro q _
      exact iv.1 (hx true false (iu.2 (q u.2.1)))
    · intro q _
      exact iu.1 (hx false true (iv.2 (q v.2.1)))) (fun _ => h0)
  exact (hall k hk s hs).2 (key hk)
end Go.Proofs.Ytkbapnjlnnggaaa
/- Plain mathematics: Euler's number of a piece is even and at most two. -/
namespace Go.Proofs.Ytkbapnjlnnggaaa

theorem rq_eq (W : List Nat) (Q : Nat → Bool) : ∀ k, rq W Q k = (List.range k).countP fun v => decide (W.getD v 0 = v) && Q v := by
  intro k
  induction k with
  | zero => rfl
  | succ k ih =>
    rw [List.range_succ, List.countP_append, List.countP_singleton, ← ih]
    simp only [rq, Bool.and_eq_true, decide_eq_true_eq]
theorem Bij.onto {f : Nat → Nat} {M : Nat} (h : Bij f M) {y : Nat} (hy : y < M) : ∃ x, x < M ∧ f x = y := by
  obtain ⟨p, h0, hp⟩ := period h hy
  refine ⟨it f (p - 1) y, it_lt h hy _, ?_⟩
  have e : it f (p - 1 + 1) y = f (it f (p - 1) y) := rfl
  rw [← e, show p - 1 + 1 = p by omega, hp]
theorem cnt_perm {r : Nat → Nat} {M : Nat} (h : Bij r M) (P : Nat → Bool) : (List.range M).countP (fun q => P (r q)) = (List.range M).countP P := by
  have hp : ((List.range M).map r).Perm (List.range M) := by
    refine (List.perm_ext_iff_of_nodup ?_ List.nodup_range).2 fun y => ?_
    · unfold List.Nodup
      rw [List.pairwise_map]
      refine List.Pairwise.imp_of_mem ?_ (List.nodup_range (n := M))
      intro a b ha hb hne e
      exact hne (h.inj a b (List.mem_range.1 ha) (List.mem_range.1 hb) e)
    · rw [List.mem_map]
      constructor
      · rintro ⟨x, hx, rfl⟩
        exact List.mem_range.2 (h.lt x (List.mem_range.1 hx))
      · intro hy
        obtain ⟨x, hx, e⟩ := h.onto (List.mem_range.1 hy)
        exact ⟨x, List.mem_range.2 hx, e⟩
  rw [← hp.countP_eq P, List.countP_map]
  rfl
theorem cnt_by4 {h Qc : Nat → Bool} {c : Nat} (n : Nat) (e : ∀ k, k < n → (if h (4 * k) = true then 1 else 0) + (if h (4 * k + 1) = true then 1 else 0) + (if h (4 * k + 2) = true then 1 else 0) + (if h (4 * k + 3) = true then 1 else 0) = if Qc k = true then c else 0) : (List.range (4 * n)).countP h = c * (List.range n).countP Qc := by
  induction n with
  | zero => rfl
  | succ n ih =>
    have e1 := e n (by omega)
    have e2 := ih fun k hk => e k (by omega)
    rw [show 4 * (n + 1) = 4 * n + 1 + 1 + 1 + 1 by omega]
    simp only [List.range_succ, List.countP_append, List.countP_singleton]
    rw [e2]
    by_cases hq : Qc n = true
    · rw [if_pos hq] at e1 ⊢
      rw [Nat.mul_add]
      omega
    · rw [if_neg hq] at e1 ⊢
      rw [show List.countP Qc (List.range n) + 0 = List.countP Qc (List.range n) from rfl]
      omega
theorem cnt_up1 (P : Nat → Bool) (M : Nat) (h : P 0 = false) : (List.range (M + 1)).countP P = (List.range M).countP fun i => P (i + 1) := by
  rw [List.range_succ_eq_map, List.countP_cons, List.countP_map, h]
  simp only [Bool.false_eq_true, if_false, Nat.add_zero]
  rfl
/-- The dart turned round; where a dart leaves from; the dart that leaves from a place. -/
def al (j : Nat) : Nat := mkD (dA j) (!dB j)
def lvC (C : List Cr) (j : Nat) : Nat := enC C (dA j) (dB j)
def pd (C : List Cr) (q : Nat) : Nat := mkD (aAt C (q / 4) (q % 4)) ((C.getD (q / 4) Cr.none).comes (q % 4))
theorem al_may {j n : Nat} (h1 : 1 ≤ j) (h2 : j ≤ 4 * n) : 1 ≤ al j ∧ al j ≤ 4 * n ∧ dA (al j) = dA j ∧ dB (al j) = !dB j := by
  have h := dA_le h1 h2
  have g := mk_le (p := !dB j) h.1 h.2
  exact ⟨g.1, g.2, dA_mk h.1, dB_mk h.1⟩
theorem al_odd (i : Nat) : al (2 * i + 1) = 2 * i + 2 := by
  unfold al dA dB mkD
  simp only [show (2 * i + 1) % 2 = 1 by omega, show (2 * i + 1 + 1) / 2 = i + 1 by omega]
  simp
  omega
theorem al_even (i : Nat) : al (2 * i + 2) = 2 * i + 1 := by
  unfold al dA dB mkD
  simp only [show (2 * i + 2) % 2 = 0 by omega, show (2 * i + 2 + 1) / 2 = i + 1 by omega]
  simp
  omega
theorem al_al {j : Nat} (h1 : 1 ≤ j) : al (al j) = j := by
  by_cases h : j % 2 = 1
  · obtain ⟨i, rfl⟩ : ∃ i, j = 2 * i + 1 := ⟨j / 2, by omega⟩
    rw [al_odd, al_even]
  · obtain ⟨i, rfl⟩ : ∃ i, j = 2 * i + 2 := ⟨j / 2 - 1, by omega⟩
    rw [al_even, al_odd]
theorem dC_al {C : List Cr} {j : Nat} (h1 : 1 ≤ j) (h2 : j ≤ 4 * C.length) : dC C (al j) = lvC C j ∧ dS C (al j) = enS C (dA j) (dB j) := by
  obtain ⟨-, -, a1, a2⟩ := al_may h1 h2
  unfold dC dS lvC
  rw [a1, a2, Bool.not_not]
  exact ⟨rfl, rfl⟩
theorem lv_al {C : List Cr} {j : Nat} (h1 : 1 ≤ j) (h2 : j ≤ 4 * C.length) : lvC C (al j) = dC C j := by
  obtain ⟨-, -, a1, a2⟩ := al_may h1 h2
  unfold dC lvC
  rw [a1, a2]
theorem lv_fd {C : List Cr} {loops : Int} (hm : mayD C loops = true) {j : Nat} (h1 : 1 ≤ j) (h2 : j ≤ 4 * C.length) : lvC C (fd C j) = dC C j := by
  obtain ⟨e1, e2, -⟩ := fd_may hm j h1 h2
  obtain ⟨-, h3, h4⟩ := d_may hm j h1 h2
  have h := (en_side hm (dC C j) ((dS C j + 3) % 4) h3 (Nat.mod_lt _ (by decide))).1
  unfold aAt at h
  rw [e1, e2, Int.toNat_natCast] at h
  exact h
theorem lv_lt {C : List Cr} {loops : Int} (hm : mayD C loops = true) {j : Nat} (h1 : 1 ≤ j) (h2 : j ≤ 4 * C.length) : lvC C j < C.length := by
  have h := dA_le h1 h2
  exact (en_may hm (dA j) (dB j) h.1 h.2).2.1
theorem lv_dC {C : List Cr} {j : Nat} (h1 : 1 ≤ j) (h2 : j ≤ 4 * C.length) : Con (arcE C) (lvC C j) (dC C j) := by
  have h := dA_le h1 h2
  have e := Con.edge (mem_arcE (C := C) h.1 h.2)
  unfold lvC dC
  cases dB j
  · exact e.symm
  · exact e
/-- Places and darts. -/
theorem pd_at {C : List Cr} {loops : Int} (hm : mayD C loops = true) (k s : Nat) (hk : k < C.length) (hs : s < 4) : pd C (4 * k + s) = mkD (aAt C k s) ((C.getD k Cr.none).comes s) ∧ lvC C (pd C (4 * k + s)) = k ∧ enS C (dA (pd C (4 * k + s))) (dB (pd C (4 * k + s))) = s ∧ 1 ≤ pd C (4 * k + s) ∧ pd C (4 * k + s) ≤ 4 * C.length := by
  have e : pd C (4 * k + s) = mkD (aAt C k s) ((C.getD k Cr.none).comes s) := by
    unfold pd
    rw [show (4 * k + s) / 4 = k by omega, show (4 * k + s) % 4 = s by omega]
  have h := en_side hm k s hk hs
  unfold lvC
  rw [e, dA_mk h.2.2.1, dB_mk h.2.2.1]
  have g := mk_le (p := (C.getD k Cr.none).comes s) h.2.2.1 h.2.2.2
  exact ⟨rfl, h.1, h.2.1, g.1, g.2⟩
theorem pd_sig {C : List Cr} {loops : Int} (hm : mayD C loops = true) (k s : Nat) (hk : k < C.length) (hs : s < 4) : fd C (al (pd C (4 * k + s))) = pd C (4 * k + (s + 3) % 4) := by
  obtain ⟨-, h1, h2, h3, h4⟩ := pd_at hm k s hk hs
  obtain ⟨a1, a2⟩ := dC_al (C := C) h3 h4
  rw [(pd_at hm k ((s + 3) % 4) hk (Nat.mod_lt _ (by decide))).1]
  unfold fd
  rw [a1, a2, h1, h2]
  rfl
theorem pd_bij {C : List Cr} {loops : Int} (hm : mayD C loops = true) : Bij (fun q => pd C q - 1) (4 * C.length) := by
  have hb : ∀ q, q < 4 * C.length → ∃ k s, k < C.length ∧ s < 4 ∧ q = 4 * k + s := fun q hq => ⟨q / 4, q % 4, by omega, by omega, by omega⟩
  refine ⟨fun q hq => ?_, fun q r hq hr e => ?_⟩
  · obtain ⟨k, s, hk, hs, rfl⟩ := hb q hq
    obtain ⟨-, -, -, h3, h4⟩ := pd_at hm k s hk hs
    show pd C (4 * k + s) - 1 < _
    omega
  · obtain ⟨k, s, hk, hs, rfl⟩ := hb q hq
    obtain ⟨k', s', hk', hs', rfl⟩ := hb r hr
    obtain ⟨-, h1, h2, h3, h4⟩ := pd_at hm k s hk hs
    obtain ⟨-, g1, g2, g3, g4⟩ := pd_at hm k' s' hk' hs'
    have e1 : pd C (4 * k + s) = pd C (4 * k' + s') := by
      have e' : pd C (4 * k + s) - 1 = pd C (4 * k' + s') - 1 := e
      omega
    rw [e1] at h1 h2
    have : k = k' := by rw [← h1, g1]
    have : s = s' := by rw [← h2, g2]
    omega
theorem cnt_darts {C : List Cr} {loops : Int} (hm : mayD C loops = true) {P Qc : Nat → Bool} {c : Nat} (h0 : P 0 = false)
    (e : ∀ k, k < C.length → (if P (pd C (4 * k)) = true then 1 else 0) + (if P (pd C (4 * k + 1)) = true then 1 else 0) + (if P (pd C (4 * k + 2)) = true then 1 else 0) + (if P (pd C (4 * k + 3)) = true then 1 else 0) = if Qc k = true then c else 0) :
    (List.range (4 * C.length + 1)).countP P = c * (List.range C.length).countP Qc := by
  rw [cnt_up1 P _ h0, ← cnt_perm (pd_bij hm) fun i => P (i + 1), ← cnt_by4 (h := fun q => P (pd C q)) C.length e]
  refine List.countP_congr fun q hq => ?_
  have hq := List.mem_range.1 hq
  have h := pd_at hm (q / 4) (q % 4) (by omega) (by omega)
  rw [show 4 * (q / 4) + q % 4 = q by omega] at h
  rw [show pd C q - 1 + 1 = pd C q by omega]
end Go.Proofs.Ytkbapnjlnnggaaa
/- Plain mathematics: Euler's number of a piece is even and at most two, arc by arc. -/
namespace Go.Proofs.Ytkbapnjlnnggaaa

theorem Bij.congr {f g : Nat → Nat} {M : Nat} (h : Bij f M) (e : ∀ x, x < M → f x = g x) : Bij g M :=
  ⟨fun x hx => by rw [← e x hx]; exact h.lt x hx, fun x y hx hy q => h.inj x y hx hy (by rw [e x hx, e y hy, q])⟩
/-- The first i arcs are crossed, the others are not. -/
def gI (C : List Cr) (i x : Nat) : Nat := up0 (fun j => if j ≤ 2 * i then fd C j else fd C (al j)) x
theorem gI_zero {C : List Cr} {x : Nat} (h : 1 ≤ x) : gI C 0 x = fd C (al x) := by
  unfold gI
  rw [up0_pos _ h, if_neg (by omega)]
theorem gI_next (C : List Cr) (i x : Nat) : tr (gI C i) (2 * i + 1) (2 * i + 2) x = gI C (i + 1) x := by
  by_cases h1 : x = 2 * i + 1
  · rw [h1, tr_a]
    unfold gI
    rw [up0_pos _ (by omega), up0_pos _ (by omega), if_neg (by omega), if_pos (by omega), al_even]
  · by_cases h2 : x = 2 * i + 2
    · rw [h2, tr_b]
      unfold gI
      rw [up0_pos _ (by omega), up0_pos _ (by omega), if_neg (by omega), if_pos (by omega), al_odd]
    · rw [tr_o _ h1 h2]
      unfold gI
      by_cases h0 : x = 0
      · rw [h0]; rfl
      · rw [up0_pos _ (by omega), up0_pos _ (by omega)]
        by_cases h3 : x ≤ 2 * i
        · rw [if_pos h3, if_pos (by omega)]
        · rw [if_neg h3, if_neg (by omega)]
theorem gI_bij {C : List Cr} {loops : Int} (hm : mayD C loops = true) : ∀ i, i ≤ 2 * C.length → Bij (gI C i) (4 * C.length + 1) := by
  intro i
  induction i with
  | zero =>
    intro _
    refine (bij_up0 (f := fun j => fd C (al j)) (n := 4 * C.length) (fun a h1 h2 => ?_) (fun a b h1 h2 h3 h4 e => ?_)).congr fun x hx => ?_
    · obtain ⟨a1, a2, -, -⟩ := al_may h1 h2
      exact fd_closed hm _ a1 a2
    · obtain ⟨a1, a2, -, -⟩ := al_may h1 h2
      obtain ⟨b1, b2, -, -⟩ := al_may h3 h4
      have := fd_inj hm _ _ a1 a2 b1 b2 e
      rw [← al_al h1, this, al_al h3]
    · by_cases h0 : x = 0
      · rw [h0]; rfl
      · rw [gI_zero (by omega), up0_pos _ (by omega)]
  | succ i ih =>
    intro hi
    exact ((ih (by omega)).tr (a := 2 * i + 1) (b := 2 * i + 2) (by omega) (by omega)).congr fun x _ => gI_next C i x
theorem gI_last {C : List Cr} {x : Nat} (h : x < 4 * C.length + 1) : gI C (2 * C.length) x = up0 (fd C) x := by
  unfold gI
  by_cases h0 : x = 0
  · rw [h0]; rfl
  · rw [up0_pos _ (by omega), up0_pos _ (by omega), if_pos (by omega)]
theorem gI_pos {C : List Cr} {loops : Int} (hm : mayD C loops = true) (i : Nat) {x : Nat} (h1 : 1 ≤ x) (h2 : x ≤ 4 * C.length) : 1 ≤ gI C i x ∧ gI C i x ≤ 4 * C.length ∧ lvC C (gI C i x) = if x ≤ 2 * i then dC C x else lvC C x := by
  unfold gI
  rw [up0_pos _ h1]
  by_cases h3 : x ≤ 2 * i
  · rw [if_pos h3, if_pos h3]
    have := fd_closed hm x h1 h2
    exact ⟨this.1, this.2, lv_fd hm h1 h2⟩
  · rw [if_neg h3, if_neg h3]
    obtain ⟨a1, a2, -, -⟩ := al_may h1 h2
    have := fd_closed hm _ a1 a2
    exact ⟨this.1, this.2, by rw [lv_fd hm a1 a2, (dC_al h1 h2).1]⟩
theorem lv_odd (C : List Cr) (i : Nat) : lvC C (2 * i + 1) = (arE C i).2 ∧ lvC C (2 * i + 2) = (arE C i).1 := by
  unfold lvC arE dA dB
  constructor
  · simp only [show (2 * i + 1) % 2 = 1 by omega, show (2 * i + 1 + 1) / 2 = i + 1 by omega]
    rfl
  · simp only [show (2 * i + 2) % 2 = 0 by omega, show (2 * i + 2 + 1) / 2 = i + 1 by omega]
    rfl
theorem lv_dC_in {C : List Cr} {i x : Nat} (h1 : 1 ≤ x) (h2 : x ≤ 2 * i) : Con (incl (arE C) (fun _ => true) i) (lvC C x) (dC C x) := by
  have h : 1 ≤ dA x ∧ dA x ≤ i := by unfold dA; omega
  have hmem : arE C (dA x - 1) ∈ incl (arE C) (fun _ => true) i := incl_mem.2 ⟨dA x - 1, by omega, rfl, rfl⟩
  have e : arE C (dA x - 1) = (enC C (dA x) true, enC C (dA x) false) := by
    unfold arE
    rw [show dA x - 1 + 1 = dA x by omega]
  rw [e] at hmem
  have hc := Con.edge hmem
  unfold lvC dC
  cases dB x
  · exact hc.symm
  · exact hc
/-- What is joined by rings is joined by arcs. -/
theorem ring_arcs {C : List Cr} {loops : Int} (hm : mayD C loops = true) (i : Nat) {x y : Nat} (hx : 1 ≤ x) (hc : Con (eds (gI C i) (4 * C.length + 1)) x y) : Con (incl (arE C) (fun _ => true) i) (lvC C x) (lvC C y) := by
  have := hc (fun z => 1 ≤ z ∧ Con (incl (arE C) (fun _ => true) i) (lvC C x) (lvC C z)) (closed_eds.2 fun z hz => by
    by_cases h0 : z = 0
    · rw [h0]
      have e : gI C i 0 = 0 := rfl
      rw [e]
    · obtain ⟨g1, g2, g3⟩ := gI_pos hm i (x := z) (by omega) (by omega)
      rw [g3]
      have hcz : Con (incl (arE C) (fun _ => true) i) (lvC C z) (if z ≤ 2 * i then dC C z else lvC C z) := by
        by_cases h3 : z ≤ 2 * i
        · rw [if_pos h3]; exact lv_dC_in (by omega) h3
        · rw [if_neg h3]; exact Con.refl _ _
      exact ⟨fun q => ⟨g1, q.2.trans hcz⟩, fun q => ⟨by omega, q.2.trans hcz.symm⟩⟩) ⟨hx, Con.refl _ _⟩
  exact this.2
theorem incl_sub {C : List Cr} {i : Nat} (hi : i ≤ 2 * C.length) {x y : Nat} (hc : Con (incl (arE C) (fun _ => true) i) x y) : Con (arcE C) x y := fun S hS hx => hc S (fun e he => by
  obtain ⟨t, ht, -, rfl⟩ := incl_mem.1 he
  exact hS _ (List.mem_map.2 ⟨t, List.mem_range.2 (by omega), rfl⟩)) hx
theorem arE_lt {C : List Cr} {loops : Int} (hm : mayD C loops = true) : ∀ i, i < 2 * C.length → (arE C i).1 < C.length ∧ (arE C i).2 < C.length := fun i hi => by
  have h := arcE_lt hm (arE C i) (List.mem_map.2 ⟨i, List.mem_range.2 hi, rfl⟩)
  exact h
/-- The darts of a piece, by its lowest crossing. -/
def qD (C : List Cr) (p j : Nat) : Bool := decide (1 ≤ j) && decide ((whoM C).getD (lvC C j) 0 = p)
def qC (C : List Cr) (p v : Nat) : Bool := decide ((whoM C).getD v 0 = p)
theorem qD_inv {C : List Cr} {loops : Int} (hm : mayD C loops = true) (p : Nat) {i : Nat} (_hi : i ≤ 2 * C.length) (x y : Nat) (_hx : x < 4 * C.length + 1) (hc : Con (eds (gI C i) (4 * C.length + 1)) x y) : qD C p x = qD C p y := by
  have hW := whoM_least hm
  exact hc (fun z => qD C p x = qD C p z) (closed_eds.2 fun z hz => by
    by_cases h0 : z = 0
    · rw [h0]
      exact Iff.rfl
    · obtain ⟨g1, g2, g3⟩ := gI_pos hm i (x := z) (by omega) (by omega)
      have l1 := lv_lt hm (j := z) (by omega) (by omega)
      have l2 := lv_lt hm g1 g2
      have hcz : Con (arcE C) (lvC C z) (lvC C (gI C i z)) := by
        rw [g3]
        by_cases h3 : z ≤ 2 * i
        · rw [if_pos h3]; exact lv_dC (by omega) (by omega)
        · rw [if_neg h3]; exact Con.refl _ _
      have e : qD C p z = qD C p (gI C i z) := by
        unfold qD
        rw [(hW.same l1 l2).2 hcz, decide_eq_true (show 1 ≤ z by omega), decide_eq_true g1]
      rw [e]) rfl
theorem euler_steps {C : List Cr} {loops : Int} (hm : mayD C loops = true) (p : Nat) (hbase : cyN (gI C 0) (4 * C.length + 1) (qD C p) = (List.range C.length).countP (qC C p)) : ∀ i, i ≤ 2 * C.length →
    cyN (gI C i) (4 * C.length + 1) (qD C p) + (List.range C.length).countP (qC C p) ≤ (List.range i).countP (fun t => qD C p (2 * t + 1)) + 2 * rq (cls (arE C) (fun _ => true) C.length i) (qC C p) C.length ∧
    (cyN (gI C i) (4 * C.length + 1) (qD C p) + (List.range C.length).countP (qC C p) + (List.range i).countP (fun t => qD C p (2 * t + 1))) % 2 = 0 := by
  have hW := whoM_least hm
  intro i
  induction i with
  | zero =>
    intro _
    rw [hbase]
    have e : rq (cls (arE C) (fun _ => true) C.length 0) (qC C p) C.length = (List.range C.length).countP (qC C p) := by
      rw [rq_eq]
      refine List.countP_congr fun v hv => ?_
      have : (cls (arE C) (fun _ => true) C.length 0).getD v 0 = v := by
        show (List.range C.length).getD v 0 = v
        rw [List.getD_eq_getElem?_getD, List.getElem?_range (List.mem_range.1 hv)]
        rfl
      rw [this, decide_eq_true rfl, Bool.true_and]
    rw [e]
    simp only [List.range_zero, List.countP_nil]
    omega
  | succ i ih =>
    intro hi
    obtain ⟨i1, i2⟩ := ih (by omega)
    have hB := gI_bij hm i (by omega)
    have hL := cls_least (E := arE C) (K := fun _ => true) (n := C.length) (m := i) fun t ht => arE_lt hm t (by omega)
    obtain ⟨e1, e2⟩ := arE_lt hm i (by omega)
    obtain ⟨v1, v2⟩ := lv_odd C i
    have hQ := qD_inv hm p (i := i) (by omega)
    have hedge : Con (arcE C) (arE C i).1 (arE C i).2 := Con.edge (List.mem_map.2 ⟨i, List.mem_range.2 (by omega), rfl⟩)
    have hab : qD C p (2 * i + 1) = qD C p (2 * i + 2) := by
      unfold qD
      rw [v1, v2, (hW.same e1 e2).2 hedge, decide_eq_true (show 1 ≤ 2 * i + 1 by omega), decide_eq_true (show 1 ≤ 2 * i + 2 by omega)]
    have hcong : cyN (gI C (i + 1)) (4 * C.length + 1) (qD C p) = cyN (tr (gI C i) (2 * i + 1) (2 * i + 2)) (4 * C.length + 1) (qD C p) := cyN_congr (fun x _ => (gI_next C i x).symm) _
    have hmm : (List.range (i + 1)).countP (fun t => qD C p (2 * t + 1)) = (List.range i).countP (fun t => qD C p (2 * t + 1)) + if qD C p (2 * i + 1) = true then 1 else 0 := by
      rw [List.range_succ, List.countP_append, List.countP_singleton]
    have hq1 : qD C p (2 * i + 1) = qC C p (arE C i).2 := by
      unfold qD qC
      rw [v1, decide_eq_true (show 1 ≤ 2 * i + 1 by omega), Bool.true_and]
    rw [hcong, hmm, cls_next (E := arE C) (K := fun _ => true) rfl]
    by_cases hc : Con (eds (gI C i) (4 * C.length + 1)) (2 * i + 1) (2 * i + 2)
    · have k1 := cyN_part hB (qD C p) (a := 2 * i + 1) (b := 2 * i + 2) (by omega) (by omega) (by omega) hc hQ
      have hcc := ring_arcs hm i (by omega) hc
      rw [v1, v2] at hcc
      rw [mer_same ((hL.same e1 e2).2 hcc.symm), ← k1]
      split <;> rename_i hq <;> simp only [hq, if_true, if_false, Bool.false_eq_true] at * <;> omega
    · have k1 := cyN_join hB (qD C p) (a := 2 * i + 1) (b := 2 * i + 2) (by omega) (by omega) hc hQ hab
      by_cases hs : (cls (arE C) (fun _ => true) C.length i).getD (arE C i).1 0 = (cls (arE C) (fun _ => true) C.length i).getD (arE C i).2 0
      · rw [mer_same hs]
        by_cases hq : qD C p (2 * i + 1) = true
        · rw [if_pos hq] at k1 ⊢; omega
        · rw [if_neg hq] at k1 ⊢; omega
      · have hr := rq_mer hL (qC C p) e1 e2 hs C.length (Nat.le_refl _)
        have l1 := hL.lt e1
        have l2 := hL.lt e2
        have w1 := (hW.same e1 l1).2 (incl_sub (by omega) (hL.2 _ e1).1)
        have w2 := (hW.same e2 l2).2 (incl_sub (by omega) (hL.2 _ e2).1)
        have w3 := (hW.same e1 e2).2 hedge
        have hmax : qC C p (max ((cls (arE C) (fun _ => true) C.length i).getD (arE C i).1 0) ((cls (arE C) (fun _ => true) C.length i).getD (arE C i).2 0)) = qD C p (2 * i + 1) := by
          rw [hq1]
          unfold qC
          rcases Nat.le_total ((cls (arE C) (fun _ => true) C.length i).getD (arE C i).1 0) ((cls (arE C) (fun _ => true) C.length i).getD (arE C i).2 0) with hle | hle
          · rw [Nat.max_eq_right hle, ← w2]
          · rw [Nat.max_eq_left hle, ← w1, w3]
        rw [hmax] at hr
        by_cases hq : qD C p (2 * i + 1) = true
        · rw [if_pos hq] at k1 ⊢
          rw [if_pos ⟨by omega, hq⟩] at hr
          omega
        · rw [if_neg hq] at k1 ⊢
          rw [if_neg fun q => hq q.2] at hr
          omega
end Go.Proofs.Ytkbapnjlnnggaaa
/- Plain mathematics: Euler's number of a piece: the crossings as rings, and the end. -/
namespace Go.Proofs.Ytkbapnjlnnggaaa

theorem pd_ne {C : List Cr} {loops : Int} (hm : mayD C loops = true) {k s t : Nat} (hk : k < C.length) (hs : s < 4) (ht : t < 4) (e : pd C (4 * k + s) = pd C (4 * k + t)) : s = t := by
  have h1 := (pd_at hm k s hk hs).2.2.1
  have h2 := (pd_at hm k t hk ht).2.2.1
  rw [e] at h1
  omega
theorem crossing_ring {C : List Cr} {loops : Int} (hm : mayD C loops = true) {k : Nat} (hk : k < C.length) : ∃ s0, s0 < 4 ∧ ∀ s, s < 4 → (cyW (gI C 0) (4 * C.length + 1)).getD (pd C (4 * k + s)) 0 = pd C (4 * k + s0) := by
  have hB := gI_bij hm 0 (Nat.zero_le _)
  have hW := cyW_least hB.lt
  have hg : ∀ s, s < 4 → gI C 0 (pd C (4 * k + s)) = pd C (4 * k + (s + 3) % 4) := fun s hs => by
    obtain ⟨-, -, -, h3, h4⟩ := pd_at hm k s hk hs
    rw [gI_zero h3, pd_sig hm k s hk hs]
  have hlt : ∀ s, s < 4 → pd C (4 * k + s) < 4 * C.length + 1 := fun s hs => by have := (pd_at hm k s hk hs).2.2.2.2; omega
  have hcl : Closed (eds (gI C 0) (4 * C.length + 1)) fun z => ∃ s, s < 4 ∧ z = pd C (4 * k + s) := closed_eds.2 fun z hz => by
    constructor
    · rintro ⟨s, hs, rfl⟩
      exact ⟨(s + 3) % 4, Nat.mod_lt _ (by decide), hg s hs⟩
    · rintro ⟨s, hs, e⟩
      have h := hg ((s + 1) % 4) (Nat.mod_lt _ (by decide))
      rw [show ((s + 1) % 4 + 3) % 4 = s by omega, ← e] at h
      exact ⟨(s + 1) % 4, Nat.mod_lt _ (by decide), (hB.inj _ _ (hlt _ (Nat.mod_lt _ (by decide))) hz h).symm⟩
  have c1 : ∀ s, s < 4 → Con (eds (gI C 0) (4 * C.length + 1)) (pd C (4 * k + s)) (pd C (4 * k + (s + 3) % 4)) := fun s hs => by
    rw [← hg s hs]
    exact con_f (hlt s hs)
  have c0 : ∀ s, s < 4 → Con (eds (gI C 0) (4 * C.length + 1)) (pd C (4 * k + 0)) (pd C (4 * k + s)) := fun s hs => by
    have d0 := c1 0 (by decide)
    have d3 := c1 3 (by decide)
    have d2 := c1 2 (by decide)
    match s, hs with
    | 0, _ => exact Con.refl _ _
    | 3, _ => exact d0
    | 2, _ => exact d0.trans d3
    | 1, _ => exact d0.trans (d3.trans d2)
  obtain ⟨s0, hs0, e0⟩ := (hW.2 _ (hlt 0 (by decide))).1 _ hcl ⟨0, by decide, rfl⟩
  refine ⟨s0, hs0, fun s hs => ?_⟩
  rw [← e0]
  exact (hW.same (hlt s hs) (hlt 0 (by decide))).2 (c0 s hs).symm
theorem qD_pd {C : List Cr} {loops : Int} (hm : mayD C loops = true) (p : Nat) {k s : Nat} (hk : k < C.length) (hs : s < 4) : qD C p (pd C (4 * k + s)) = qC C p k := by
  obtain ⟨-, h1, -, h3, -⟩ := pd_at hm k s hk hs
  unfold qD qC
  rw [h1, decide_eq_true h3, Bool.true_and]
theorem euler_base {C : List Cr} {loops : Int} (hm : mayD C loops = true) (p : Nat) : cyN (gI C 0) (4 * C.length + 1) (qD C p) = (List.range C.length).countP (qC C p) := by
  unfold cyN
  rw [rq_eq, cnt_darts hm (P := fun v => decide ((cyW (gI C 0) (4 * C.length + 1)).getD v 0 = v) && qD C p v) (Qc := qC C p) (c := 1) (by simp [qD]) ?_, Nat.one_mul]
  intro k hk
  obtain ⟨s0, hs0, h⟩ := crossing_ring hm hk
  have key : ∀ s, s < 4 → (decide ((cyW (gI C 0) (4 * C.length + 1)).getD (pd C (4 * k + s)) 0 = pd C (4 * k + s)) && qD C p (pd C (4 * k + s))) = (decide (s0 = s) && qC C p k) := fun s hs => by
    rw [h s hs, qD_pd hm p hk hs]
    congr 1
    by_cases e : s0 = s
    · rw [e]; simp
    · rw [decide_eq_false e, decide_eq_false fun q => e (pd_ne hm hk hs0 hs q)]
  have k0 : (decide ((cyW (gI C 0) (4 * C.length + 1)).getD (pd C (4 * k)) 0 = pd C (4 * k)) && qD C p (pd C (4 * k))) = (decide (s0 = 0) && qC C p k) := key 0 (by decide)
  simp only [k0, key 1 (by decide), key 2 (by decide), key 3 (by decide)]
  cases qC C p k with
  | false => simp
  | true =>
    match s0, hs0 with
    | 0, _ => rfl
    | 1, _ => rfl
    | 2, _ => rfl
    | 3, _ => rfl
theorem cnt_by2 {h Q : Nat → Bool} (m : Nat) (e : ∀ t, t < m → h (2 * t) = Q t ∧ h (2 * t + 1) = Q t) : (List.range (2 * m)).countP h = 2 * (List.range m).countP Q := by
  induction m with
  | zero => rfl
  | succ m ih =>
    have e1 := e m (by omega)
    have e2 := ih fun t ht => e t (by omega)
    rw [show 2 * (m + 1) = 2 * m + 1 + 1 by omega]
    simp only [List.range_succ, List.countP_append, List.countP_singleton]
    rw [e2, e1.1, e1.2]
    omega
theorem euler_arcs {C : List Cr} {loops : Int} (hm : mayD C loops = true) (p : Nat) : (List.range (2 * C.length)).countP (fun t => qD C p (2 * t + 1)) = 2 * (List.range C.length).countP (qC C p) := by
  have hW := whoM_least hm
  have h4 := cnt_darts hm (P := qD C p) (Qc := qC C p) (c := 4) (by simp [qD]) (fun k hk => by
    have k0 : qD C p (pd C (4 * k)) = qC C p k := qD_pd hm p (s := 0) hk (by decide)
    rw [k0, qD_pd hm p (s := 1) hk (by decide), qD_pd hm p (s := 2) hk (by decide), qD_pd hm p (s := 3) hk (by decide)]
    cases qC C p k <;> rfl)
  rw [cnt_up1 _ _ (by simp [qD]), show 4 * C.length = 2 * (2 * C.length) by omega, cnt_by2 (h := fun i => qD C p (i + 1)) (Q := fun t => qD C p (2 * t + 1)) (2 * C.length) (fun t ht => ⟨rfl, ?_⟩)] at h4
  · omega
  · obtain ⟨v1, v2⟩ := lv_odd C t
    obtain ⟨e1, e2⟩ := arE_lt hm t ht
    have hedge : Con (arcE C) (arE C t).1 (arE C t).2 := Con.edge (List.mem_map.2 ⟨t, List.mem_range.2 ht, rfl⟩)
    show qD C p (2 * t + 1 + 1) = qD C p (2 * t + 1)
    unfold qD
    rw [show 2 * t + 1 + 1 = 2 * t + 2 by omega, v1, v2, (hW.same e1 e2).2 hedge, decide_eq_true (show 1 ≤ 2 * t + 1 by omega), decide_eq_true (show 1 ≤ 2 * t + 2 by omega)]
theorem one_piece {C : List Cr} {loops : Int} (hm : mayD C loops = true) {p : Nat} (hp : p < C.length) (hr : (whoM C).getD p 0 = p) : rq (cls (arE C) (fun _ => true) C.length (2 * C.length)) (qC C p) C.length = 1 := by
  have hW := whoM_least hm
  have hL := cls_least (E := arE C) (K := fun _ => true) (n := C.length) (m := 2 * C.length) fun t ht => arE_lt hm t ht
  rw [incl_all] at hL
  have e : cls (arE C) (fun _ => true) C.length (2 * C.length) = whoM C := hL.eq hW
  rw [e, rq_eq]
  have h1 : (List.range C.length).count p = 1 := by
    rw [List.Nodup.count List.nodup_range, if_pos (List.mem_range.2 hp)]
  rw [← h1]
  unfold List.count
  refine List.countP_congr fun v _ => ?_
  unfold qC
  simp only [Bool.and_eq_true, decide_eq_true_eq, beq_iff_eq]
  constructor
  · rintro ⟨a, b⟩; omega
  · intro a
    rw [a]
    exact ⟨hr, hr⟩
theorem faces_count {C : List Cr} {loops : Int} (hm : mayD C loops = true) (p : Nat) : (headsM C).countP (fun g => decide ((whoM C).getD g 0 = p)) = cyN (up0 (fd C)) (4 * C.length + 1) (qD C p) := by
  have hW := whoM_least hm
  rw [← walks_cyN (fd_closed hm) (fun a b h1 h2 h3 h4 e => fd_inj hm a b h1 h2 h3 h4 e) (qD C p) (by simp [qD])]
  unfold headsM
  rw [List.countP_map]
  refine List.countP_congr fun l hl => ?_
  have hb := (heads_roots (fd_closed hm) (fun a b h1 h2 h3 h4 e => fd_inj hm a b h1 h2 h3 h4 e) (4 * C.length) (Nat.le_refl _)).1 l hl
  show decide ((whoM C).getD (dC C (l.getD 0 0)) 0 = p) = true ↔ qD C p (l.getD 0 0) = true
  unfold qD
  rw [(hW.same (lv_lt hm hb.1 hb.2) (d_may hm _ hb.1 hb.2).2.1).2 (lv_dC hb.1 hb.2), decide_eq_true hb.1, Bool.true_and]
/-- Euler's number of a piece is at most two, and even. -/
theorem euler_piece {C : List Cr} {loops : Int} (hm : mayD C loops = true) {p : Nat} (hp : p < C.length) (hr : (whoM C).getD p 0 = p) : exN C.length (headsM C) (whoM C) p ≤ 2 ∧ exN C.length (headsM C) (whoM C) p % 2 = 0 := by
  obtain ⟨h1, h2⟩ := euler_steps hm p (euler_base hm p) (2 * C.length) (Nat.le_refl _)
  rw [one_piece hm hp hr, euler_arcs hm p, cyN_congr (fun x hx => gI_last hx), ← faces_count hm p] at *
  have e : exN C.length (headsM C) (whoM C) p = (((headsM C).countP (fun g => decide ((whoM C).getD g 0 = p)) : Nat) : Int) - (((List.range C.length).countP (qC C p) : Nat) : Int) := rfl
  rw [e]
  omega
end Go.Proofs.Ytkbapnjlnnggaaa
