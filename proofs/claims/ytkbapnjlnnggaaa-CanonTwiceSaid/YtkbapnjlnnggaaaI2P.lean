/- Several texts of the proof, one behind the other. -/
import Derived.Test.YtkbapnjlnnggaaaI1
import Derived.Test.YtkbapnjlnnggaaaC19
/- Diagrams that are one but for the numbers of arcs and the order of crossings have one form: mathematics. -/
namespace Go.Proofs.Ytkbapnjlnnggaaa

theorem formR_ex {C : List Cr} {loops : Int} (hm : mayD C loops = true) : ∃ K, IsFormR C K := by
  obtain ⟨V, hV⟩ : ∃ V, Least (arcE C) C.length V := ⟨_, levR_least (arcE_lt hm) _ (Nat.le_refl _)⟩
  obtain ⟨L, hL⟩ : ∃ L : Nat → List Nat × List Int, L = fun i => leT C (wI V) ((hdTo V C.length).getD i 0) C.length := ⟨_, rfl⟩
  have hs := List.pairwise_mergeSort (le := fun x y => decide (¬cmpT (L y) (L x) < 0)) (fun a b c h1 h2 => by
      simp only [decide_eq_true_eq] at h1 h2 ⊢
      exact cmpT_ntrans h2 h1) (fun a b => by
      simp only [Bool.or_eq_true, decide_eq_true_eq]
      by_cases h : cmpT (L b) (L a) < 0
      · exact Or.inr (cmpT_asymm h)
      · exact Or.inl h) (List.range (hdTo V C.length).length)
  refine ⟨_, V, _, hV, List.mergeSort_perm _ (fun x y => decide (¬cmpT (L y) (L x) < 0)), ?_, rfl⟩
  rw [← hL]
  exact hs.imp fun h => by simpa using h
theorem form_two {C K K' : List Cr} {loops : Int} (hm : mayD C loops = true) (h : IsForm C K) (h' : IsForm C K') : K = K' := by
  obtain ⟨R, hR⟩ := formR_ex hm
  exact (form_one hm h hR).trans (form_one hm h' hR).symm
theorem ords_nodup {C : List Cr} {loops : Int} (hm : mayD C loops = true) {P : List Int} {n : Nat} (hP : PcsAll C P n) {T : Nat → List Nat × List Int} (hT : ∀ p, p < n → ∃ k, k < C.length ∧ P.getD k 0 = (p : Int) ∧ T p = te C k) : ∀ l : List Nat, l.Nodup → (∀ p, p ∈ l → p < n) → (ords (l.map T)).Nodup := by
  have hin : ∀ p, p < n → ∀ x, x ∈ (T p).1 → P.getD x 0 = (p : Int) := fun p hp x hx => by
    obtain ⟨k, k1, k2, k3⟩ := hT p hp
    rw [k3] at hx
    rw [← k2]
    exact ((hP.same k x k1 ((te_ok hm k1).lt x hx)).2 (te_con hm k1 x hx)).symm
  have hone : ∀ p, p < n → (T p).1.Nodup := fun p hp => by
    obtain ⟨k, k1, -, k3⟩ := hT p hp
    rw [k3]
    exact (te_ok hm k1).nd
  intro l
  induction l with
  | nil => intro _ _; exact List.nodup_nil
  | cons p l ih =>
    intro hl hp
    have hl' := List.nodup_cons.1 hl
    have e : ords ((p :: l).map T) = (T p).1 ++ ords (l.map T) := by simp [ords]
    rw [e]
    refine List.nodup_append.2 ⟨hone p (hp p (List.mem_cons_self)), ih hl'.2 (fun q hq => hp q (List.mem_cons_of_mem _ hq)), fun a ha b hb e2 => ?_⟩
    subst e2
    unfold ords at hb
    obtain ⟨o, ho, hao⟩ := List.mem_flatten.1 hb
    obtain ⟨t, ht, rfl⟩ := List.mem_map.1 ho
    obtain ⟨q, hq, rfl⟩ := List.mem_map.1 ht
    have h1 := hin p (hp p (List.mem_cons_self)) a ha
    have h2 := hin q (hp q (List.mem_cons_of_mem _ hq)) a hao
    have : p = q := by omega
    subst this
    exact hl'.1 hq
theorem Iso.go {C D : List Cr} {f g r : Nat → Nat} {l1 : Int} (I : Iso C D f g r) (hm : mayD C l1 = true) : ∀ (o F : List Nat), (∀ z, z ∈ F → 1 ≤ z ∧ z ≤ 2 * C.length) → (∀ k, k ∈ o → k < C.length) → canGo D (F.map r) (o.map f) = canGo C F o
  | [], _, _, _ => rfl
  | c :: o, F, hF, ho => by
    have hc := ho c List.mem_cons_self
    have g1 : ∀ s, s < 4 → (1 ≤ arcN (C.getD c Cr.none) s ∧ arcN (C.getD c Cr.none) s ≤ 2 * C.length) ∧ arcN (D.getD (f c) Cr.none) s = r (arcN (C.getD c Cr.none) s) := fun s hs => by
      obtain ⟨⟨a1, a2, -⟩, -, -, -⟩ := nb_may hm c s hc hs
      exact ⟨⟨a1, a2⟩, I.arc c s hc hs⟩
    obtain ⟨h1, h2⟩ := addN_map (A := fun z => 1 ≤ z ∧ z ≤ 2 * C.length) I.rinj hF g1 4 (Nat.le_refl _)
    rw [List.map_cons, canGo, canGo, canX_map (A := fun z => 1 ≤ z ∧ z ≤ 2 * C.length) I.rinj hF g1 (I.plus c hc), h1, I.go hm o _ h2 (fun k hk => ho k (List.mem_cons_of_mem _ hk))]
theorem key_min {a b : List Nat × List Int} (h1 : ¬cmpT a b < 0) (h2 : ¬cmpT b a < 0) : keyT a = keyT b := by
  rw [cmpT_key] at h1 h2
  rcases lexC_flip (keyT a) (keyT b) with h | h | h
  · exact absurd h h1
  · exact lexC_zero _ _ h
  · exact absurd h h2
/-- One form. -/
theorem form_iso {C D : List Cr} {f g r : Nat → Nat} {l1 l2 : Int} (I : Iso C D f g r) (hm : mayD C l1 = true) (hd : mayD D l2 = true) {K K' : List Cr} (hK : IsForm C K) (hK' : IsForm D K') : K = K' := by
  obtain ⟨n, P, σ, p1, p2, p3, rfl⟩ := hK'
  obtain ⟨Q, hQd⟩ : ∃ Q : List Int, Q = (List.range C.length).map fun k => P.getD (f k) 0 := ⟨_, rfl⟩
  have hQ : ∀ k, k < C.length → Q.getD k 0 = P.getD (f k) 0 := fun k hk => by rw [hQd]; simp [List.getD, hk]
  have hlt : ∀ p, p ∈ σ → p < n := fun p hp => List.mem_range.1 (p2.subset hp)
  have fD : ∀ k, k < C.length → f k < D.length := fun k hk => by rw [I.len]; exact I.flt k hk
  have hP : PcsAll C Q n := by
    refine ⟨by rw [hQd]; simp, by rw [← I.len]; exact p1.few, fun v hv => ?_, fun u v hu hv => ?_, fun p hp => ?_⟩
    · rw [hQ v hv]; exact p1.vals _ (fD v hv)
    · rw [hQ u hu, hQ v hv, p1.same _ _ (fD u hu) (fD v hv)]
      exact (I.con hm hd u v hu hv).symm
    · obtain ⟨v, hv, e⟩ := p1.used p hp
      rw [I.len] at hv
      exact ⟨g v, I.glt v hv, by rw [hQ _ (I.glt v hv), I.fg v hv]; exact e⟩
  have hex : ∀ p, ∃ j, p < n → j < C.length ∧ Q.getD j 0 = (p : Int) ∧ leT D P p D.length = te D (f j) := fun p => by
    by_cases hp : p < n
    · rcases leT_is D P p D.length with ⟨_, b⟩ | ⟨k, k1, k2, k3⟩
      · obtain ⟨v, hv, ev⟩ := p1.used p hp
        exact absurd ev (b v hv)
      · rw [I.len] at k1
        refine ⟨g k, fun _ => ⟨I.glt k k1, ?_, ?_⟩⟩
        · rw [hQ _ (I.glt k k1), I.fg k k1]; exact k2
        · rw [I.fg k k1]; exact k3
    · exact ⟨0, fun h => absurd h hp⟩
  obtain ⟨j, hj⟩ := Classical.axiomOfChoice hex
  have hC : ∀ p, p < n → ∃ k, k < C.length ∧ Q.getD k 0 = (p : Int) ∧ leT C Q p C.length = te C k := fun p hp => by
    rcases leT_is C Q p C.length with ⟨_, b⟩ | h
    · obtain ⟨v, hv, ev⟩ := hP.used p hp
      exact absurd ev (b v hv)
    · exact h
  have hkeyD : ∀ p, p < n → keyT (leT D P p D.length) = keyT (te C (j p)) := fun p hp => by
    obtain ⟨a1, a2, a3⟩ := hj p hp
    rw [a3, I.key hm hd a1]
  have hkey : ∀ p, p < n → keyT (leT C Q p C.length) = keyT (te C (j p)) := fun p hp => by
    obtain ⟨a1, a2, a3⟩ := hj p hp
    obtain ⟨k, b1, b2, b3⟩ := hC p hp
    refine key_min ?_ (leT_min C Q p C.length (j p) a1 a2)
    have h := leT_min D P p D.length (f k) (fD k b1) (by rw [← hQ k b1]; exact b2)
    rw [cmpT_key, hkeyD p hp, I.key hm hd b1] at h
    rw [cmpT_key, b3]
    exact h
  have hF : IsForm C (canGo C [] ((σ.map fun p => (leT C Q p C.length).1).flatten)) := by
    refine ⟨n, Q, σ, hP, p2, ?_, rfl⟩
    unfold SortedT at p3 ⊢
    refine List.Pairwise.imp_of_mem ?_ p3
    intro x y hx hy h
    rw [cmpT_key, hkeyD x (hlt x hx), hkeyD y (hlt y hy)] at h
    rw [cmpT_key, hkey x (hlt x hx), hkey y (hlt y hy)]
    exact h
  rw [form_two hm hK hF]
  have nd := p2.symm.nodup List.nodup_range
  have hTB : ∀ p, p < n → ∃ k, k < C.length ∧ Q.getD k 0 = (p : Int) ∧ te C (j p) = te C k := fun p hp => ⟨j p, (hj p hp).1, (hj p hp).2.1, rfl⟩
  have hc := can_same hm (A := σ.map fun p => leT C Q p C.length) (B := σ.map fun p => te C (j p))
    (fun q hq => by
      obtain ⟨p, hp, rfl⟩ := List.mem_map.1 hq
      obtain ⟨k, k1, -, k3⟩ := hC p (hlt p hp)
      exact ⟨k, k1, k3⟩)
    (fun q hq => by
      obtain ⟨p, hp, rfl⟩ := List.mem_map.1 hq
      exact ⟨j p, (hj p (hlt p hp)).1, rfl⟩)
    (by
      rw [List.map_map, List.map_map]
      exact List.map_congr_left fun p hp => hkey p (hlt p hp))
    (ords_nodup hm hP hC σ nd hlt) (ords_nodup hm hP hTB σ nd hlt)
  have o1 : ords (σ.map fun p => leT C Q p C.length) = (σ.map fun p => (leT C Q p C.length).1).flatten := by unfold ords; rw [List.map_map]; rfl
  rw [o1] at hc
  rw [← hc]
  have o2 : (σ.map fun p => (leT D P p D.length).1).flatten = (ords (σ.map fun p => te C (j p))).map f := by
    unfold ords
    rw [List.map_flatten, List.map_map, List.map_map]
    congr 1
    refine List.map_congr_left fun p hp => ?_
    obtain ⟨a1, -, a3⟩ := hj p (hlt p hp)
    rw [a3, I.te hm hd a1]
    rfl
  rw [o2]
  refine (I.go hm _ [] (fun z hz => by cases hz) (fun k hk => ?_)).symm
  unfold ords at hk
  obtain ⟨o, ho, hko⟩ := List.mem_flatten.1 hk
  obtain ⟨t, ht, rfl⟩ := List.mem_map.1 ho
  obtain ⟨p, hp, rfl⟩ := List.mem_map.1 ht
  exact (te_ok hm (hj p (hlt p hp)).1).lt k hko
end Go.Proofs.Ytkbapnjlnnggaaa
/- A diagram's form may be, and it is its own form: mathematics. -/
namespace Go.Proofs.Ytkbapnjlnnggaaa

theorem sd_zero {x : Cr} {a : Int} {p : Bool} : ∀ k, (∀ t, t < k → ¬(x.arc t = a ∧ x.comes t = p)) → sd x a p k = 0
  | 0, _ => rfl
  | k + 1, h => by rw [sd, sd_zero k (fun t ht => h t (by omega)), if_neg (h k (by omega))]
theorem sdTo_zero {C : List Cr} {a : Int} {p : Bool} : ∀ i, (∀ j t, j < i → t < 4 → ¬((C.getD j Cr.none).arc t = a ∧ (C.getD j Cr.none).comes t = p)) → sdTo C a p i = 0
  | 0, _ => rfl
  | i + 1, h => by rw [sdTo, sdTo_zero i (fun j t hj ht => h j t (by omega) ht), sd_zero 4 (fun t ht => h i t (by omega) ht)]
theorem comes_plus {x y : Cr} (h : x.plus = y.plus) (s : Nat) : x.comes s = y.comes s := by unfold Cr.comes; rw [h]
/-- It may be, if the other may be. -/
theorem Iso.may {C D : List Cr} {f g r : Nat → Nat} {l1 : Int} (I : Iso C D f g r) (hm : mayD C l1 = true) (hr : ∀ k s, k < C.length → s < 4 → 1 ≤ (D.getD k Cr.none).arc s ∧ (D.getD k Cr.none).arc s ≤ 2 * (C.length : Int)) : mayD D l1 = true := by
  have hs : sizeB D l1 = true := by
    have := may_size hm
    unfold sizeB at this ⊢
    rw [I.len]
    exact this
  have one : ∀ i k j t, i < C.length → k < 4 → j < C.length → t < 4 → (D.getD j Cr.none).arc t = (D.getD i Cr.none).arc k → (D.getD j Cr.none).comes t = (D.getD i Cr.none).comes k → j = i ∧ t = k := by
    intro i k j t hi hk hj ht ha hc
    have gi := I.glt i hi
    have gj := I.glt j hj
    have ei := I.fg i hi
    have ej := I.fg j hj
    have e : r (arcN (C.getD (g j) Cr.none) t) = r (arcN (C.getD (g i) Cr.none) k) := by
      rw [← I.arc _ _ gj ht, ← I.arc _ _ gi hk, ei, ej]
      unfold arcN
      rw [ha]
    obtain ⟨⟨a1, a2, -⟩, -, -, -⟩ := nb_may hm _ t gj ht
    obtain ⟨⟨b1, b2, -⟩, -, -, -⟩ := nb_may hm _ k gi hk
    have e2 := I.rinj _ _ ⟨a1, a2⟩ ⟨b1, b2⟩ e
    rcases spot_eq hm gj ht gi hk e2 with ⟨x, y⟩ | ⟨x, y⟩
    · refine ⟨?_, y⟩
      rw [← ei, ← ej, x]
    · exfalso
      have h := nb_comes hm _ t gj ht
      rw [x, y] at h
      have p1 := comes_plus (I.plus _ gj) t
      have p2 := comes_plus (I.plus _ gi) k
      rw [ej] at p1
      rw [ei] at p2
      rw [← p1, ← p2, hc] at h
      cases hb : (D.getD i Cr.none).comes k <;> rw [hb] at h <;> cases h
  refine fit_yes hs fun i k hi hk => ?_
  rw [I.len] at hi
  obtain ⟨h1, h2⟩ := hr i k hi hk
  refine ⟨h1, by rw [I.len]; exact h2, ?_⟩
  unfold ahd
  rw [sdTo_zero i (fun j t hj ht h => by have := (one i k j t hi hk (by omega) ht h.1 h.2).1; omega), sd_zero k (fun t ht h => by have := (one i k i t hi hk hi (by omega) h.1 h.2).2; omega)]

theorem addF_pre (F : List Nat) (x : Nat) : F <+: addF F x := by
  unfold addF
  split
  · exact List.prefix_rfl
  · exact List.prefix_append _ _
theorem addF_in (F : List Nat) (x : Nat) : x ∈ addF F x := by
  unfold addF
  split
  · assumption
  · simp
theorem addF_nd {F : List Nat} (h : F.Nodup) (x : Nat) : (addF F x).Nodup := by
  unfold addF
  split
  · exact h
  · rename_i hn
    refine List.nodup_append.2 ⟨h, by simp, fun a ha b hb e => ?_⟩
    rw [e, List.mem_singleton.1 hb] at ha
    exact hn ha
theorem addN_pre (F : List Nat) (x : Cr) (k : Nat) : ∀ d, addN F x k <+: addN F x (k + d)
  | 0 => List.prefix_rfl
  | d + 1 => (addN_pre F x k d).trans (addF_pre _ _)
theorem addN_nd {F : List Nat} (h : F.Nodup) (x : Cr) : ∀ k, (addN F x k).Nodup
  | 0 => h
  | k + 1 => addF_nd (addN_nd h x k) _
theorem canF_pre (C : List Cr) : ∀ (o F : List Nat), F <+: canF C F o
  | [], _ => List.prefix_rfl
  | c :: o, F => (addN_pre F (C.getD c Cr.none) 0 4).trans (canF_pre C o _)
theorem canF_nd (C : List Cr) : ∀ (o F : List Nat), F.Nodup → (canF C F o).Nodup
  | [], _, h => h
  | _ :: o, _, h => canF_nd C o _ (addN_nd h _ 4)
theorem canX_arc (F : List Nat) (x : Cr) {s : Nat} (hs : s < 4) : (canX F x).arc s = canN F x s := by
  unfold canX Cr.arc
  obtain rfl | rfl | rfl | rfl : s = 0 ∨ s = 1 ∨ s = 2 ∨ s = 3 := by omega
  all_goals simp
theorem canGo_arc (C : List Cr) : ∀ (o F : List Nat) (i s : Nat), i < o.length → s < 4 → ((canGo C F o).getD i Cr.none).arc s = ((canF C F o).idxOf (arcN (C.getD (o.getD i 0) Cr.none) s) : Int) + 1 ∧ arcN (C.getD (o.getD i 0) Cr.none) s ∈ canF C F o
  | [], _, _, _, h, _ => by simp at h
  | c :: o, F, 0, s, _, hs => by
    have hin : arcN (C.getD c Cr.none) s ∈ addN F (C.getD c Cr.none) (s + 1) := addF_in _ _
    have hp : addN F (C.getD c Cr.none) (s + 1) <+: canF C F (c :: o) := by
      have h1 := addN_pre F (C.getD c Cr.none) (s + 1) (3 - s)
      rw [show s + 1 + (3 - s) = 4 by omega] at h1
      exact h1.trans (canF_pre C o _)
    have e0 : (canGo C F (c :: o)).getD 0 Cr.none = canX F (C.getD c Cr.none) := rfl
    have e1 : (c :: o).getD 0 0 = c := rfl
    rw [e0, e1, canX_arc _ _ hs, idxOf_pre hp hin]
    exact ⟨rfl, hp.subset hin⟩
  | c :: o, F, i + 1, s, h, hs => by
    have := canGo_arc C o (addN F (C.getD c Cr.none) 4) i s (by simpa using h) hs
    exact this
theorem canGo_plus (C : List Cr) : ∀ (o F : List Nat) (i : Nat), i < o.length → ((canGo C F o).getD i Cr.none).plus = (C.getD (o.getD i 0) Cr.none).plus
  | [], _, _, h => by simp at h
  | c :: o, F, 0, _ => rfl
  | c :: o, F, i + 1, h => canGo_plus C o _ i (by simpa using h)
theorem canF_in {C : List Cr} {loops : Int} (hm : mayD C loops = true) : ∀ (o F : List Nat), (∀ z, z ∈ F → 1 ≤ z ∧ z ≤ 2 * C.length) → (∀ k, k ∈ o → k < C.length) → ∀ z, z ∈ canF C F o → 1 ≤ z ∧ z ≤ 2 * C.length
  | [], _, h, _ => h
  | c :: o, F, h, ho => by
    refine canF_in hm o _ ?_ (fun k hk => ho k (List.mem_cons_of_mem _ hk))
    have hc := ho c List.mem_cons_self
    have : ∀ k, k ≤ 4 → ∀ z, z ∈ addN F (C.getD c Cr.none) k → 1 ≤ z ∧ z ≤ 2 * C.length := by
      intro k
      induction k with
      | zero => intro _; exact h
      | succ k ih =>
        intro hk
        rw [addN]
        obtain ⟨⟨a1, a2, -⟩, -, -, -⟩ := nb_may hm c k hc (by omega)
        exact addF_mem (A := fun z => 1 ≤ z ∧ z ≤ 2 * C.length) (ih (by omega)) ⟨a1, a2⟩
    exact this 4 (Nat.le_refl _)
/-- A telling tells the whole piece. -/
theorem te_all {C : List Cr} {loops : Int} (hm : mayD C loops = true) {k : Nat} (hk : k < C.length) : ∀ x, Con (arcE C) k x → x ∈ (te C k).1 := fun x hx => by
  have ok := te_ok hm hk
  have hcl : ∀ y s, y ∈ (te C k).1 → s < 4 → nbC C y s ∈ (te C k).1 := fun y s hy hs => by
    have hl := List.idxOf_lt_length_of_mem hy
    have := (te_told hm hk _ hl).mem s hs
    rw [getD_idxOf hy] at this
    exact this
  refine hx (fun y => y ∈ (te C k).1) ?_ ?_
  · intro e he
    unfold arcE at he
    obtain ⟨i, hi, rfl⟩ := List.mem_map.1 he
    have hi' := List.mem_range.1 hi
    obtain ⟨-, t1, t2, t3, t4⟩ := en_may hm (i + 1) true (by omega) (by omega)
    obtain ⟨-, u1, u2, u3, u4⟩ := en_may hm (i + 1) false (by omega) (by omega)
    have en : nbC C (enC C (i + 1) true) (enS C (i + 1) true) = enC C (i + 1) false := by
      unfold nbC
      rw [t3, t4]
      rfl
    have em : nbC C (enC C (i + 1) false) (enS C (i + 1) false) = enC C (i + 1) true := by
      unfold nbC
      rw [u3, u4]
      rfl
    exact ⟨fun h => by have := hcl _ _ h t2; rw [en] at this; exact this, fun h => by have := hcl _ _ h u2; rw [em] at this; exact this⟩
  · obtain ⟨t, ht⟩ := teI_pre C k C.length
    unfold te
    rw [← ht]
    simp
/-- The form is the diagram itself, but for numbers. -/
theorem form_iso_self {C K : List Cr} {loops : Int} (hm : mayD C loops = true) (h : IsForm C K) : ∃ f g r, Iso C K f g r ∧ mayD K loops = true := by
  obtain ⟨n, P, σ, p1, p2, p3, rfl⟩ := h
  have hlt : ∀ p, p ∈ σ → p < n := fun p hp => List.mem_range.1 (p2.subset hp)
  have hC : ∀ p, p < n → ∃ k, k < C.length ∧ P.getD k 0 = (p : Int) ∧ leT C P p C.length = te C k := fun p hp => by
    rcases leT_is C P p C.length with ⟨_, b⟩ | h
    · obtain ⟨v, hv, ev⟩ := p1.used p hp
      exact absurd ev (b v hv)
    · exact h
  have nd := ords_nodup hm p1 hC σ (p2.symm.nodup List.nodup_range) hlt
  have o1 : ords (σ.map fun p => leT C P p C.length) = (σ.map fun p => (leT C P p C.length).1).flatten := by unfold ords; rw [List.map_map]; rfl
  rw [o1] at nd
  obtain ⟨o, ho⟩ : ∃ o, o = (σ.map fun p => (leT C P p C.length).1).flatten := ⟨_, rfl⟩
  rw [← ho] at nd ⊢
  have hin : ∀ x, x ∈ o ↔ x < C.length := fun x => by
    constructor
    · intro hx
      rw [ho] at hx
      obtain ⟨l, hl, hxl⟩ := List.mem_flatten.1 hx
      obtain ⟨p, hp, rfl⟩ := List.mem_map.1 hl
      obtain ⟨k, k1, k2, k3⟩ := hC p (hlt p hp)
      rw [k3] at hxl
      exact (te_ok hm k1).lt x hxl
    · intro hx
      have hv := p1.vals x hx
      obtain ⟨p, hp⟩ : ∃ p : Nat, P.getD x 0 = (p : Int) := ⟨(P.getD x 0).toNat, by omega⟩
      have hpn : p < n := by omega
      obtain ⟨k, k1, k2, k3⟩ := hC p hpn
      rw [ho]
      refine List.mem_flatten.2 ⟨_, List.mem_map.2 ⟨p, p2.symm.subset (List.mem_range.2 hpn), rfl⟩, ?_⟩
      rw [k3]
      exact te_all hm k1 x ((p1.same k x k1 hx).1 (by rw [k2, hp]))
  have hperm := perm_range nd hin
  have hol : o.length = C.length := by have := hperm.length_eq; simpa using this
  have hg : ∀ i, i < C.length → o.getD i 0 ∈ o := fun i hi => by rw [List.getD_eq_getElem?_getD, List.getElem?_eq_getElem (by omega)]; exact List.getElem_mem _
  have hgi : ∀ i, i < C.length → o.idxOf (o.getD i 0) = i := fun i hi => by
    rw [List.getD_eq_getElem?_getD, List.getElem?_eq_getElem (by omega), Option.getD_some]
    exact nd.idxOf_getElem i (by omega)
  have hF := canF_in hm o [] (fun z hz => by cases hz) (fun k hk => (hin k).1 hk)
  have hFn := canF_nd C o [] List.nodup_nil
  have hFl : (canF C [] o).length ≤ 2 * C.length := by
    have := List.Nodup.length_le_of_subset hFn (l₂ := (List.range (2 * C.length)).map (· + 1)) (fun z hz => List.mem_map.2 ⟨z - 1, List.mem_range.2 (by have := hF z hz; omega), by have := hF z hz; omega⟩)
    simpa using this
  have harc : ∀ i s, i < C.length → s < 4 → arcN ((canGo C [] o).getD i Cr.none) s = (canF C [] o).idxOf (arcN (C.getD (o.getD i 0) Cr.none) s) + 1 := fun i s hi hs => by
    have := (canGo_arc C o [] i s (by omega) hs).1
    conv => lhs; unfold arcN
    rw [this]
    omega
  have hall : ∀ x, (1 ≤ x ∧ x ≤ 2 * C.length) → x ∈ canF C [] o := fun x hx => by
    obtain ⟨-, t1, t2, t3, -⟩ := en_may hm x true hx.1 hx.2
    have hmem := (hin _).2 t1
    have hl := List.idxOf_lt_length_of_mem hmem
    have := (canGo_arc C o [] _ (enS C x true) hl t2).2
    rw [getD_idxOf hmem] at this
    unfold arcN at this
    rw [t3] at this
    simpa using this
  have I : Iso C (canGo C [] o) (fun k => o.idxOf k) (fun i => o.getD i 0) (fun a => (canF C [] o).idxOf a + 1) := by
    refine ⟨by rw [canGo_len]; exact hol, fun k hk => ?_, fun i hi => (hin _).1 (hg i hi), fun k hk => getD_idxOf ((hin k).2 hk), hgi, fun k hk => ?_, fun k s hk hs => ?_, fun x y hx hy e => ?_⟩
    · have := List.idxOf_lt_length_of_mem ((hin k).2 hk); omega
    · have := List.idxOf_lt_length_of_mem ((hin k).2 hk)
      rw [canGo_plus C o [] _ this, getD_idxOf ((hin k).2 hk)]
    · have := List.idxOf_lt_length_of_mem ((hin k).2 hk)
      rw [harc _ s (by omega) hs, getD_idxOf ((hin k).2 hk)]
    · have h1 := getD_idxOf (hall x hx)
      have h2 := getD_idxOf (hall y hy)
      have e' : (canF C [] o).idxOf x = (canF C [] o).idxOf y := by omega
      rw [e'] at h1
      exact h1.symm.trans h2
  refine ⟨_, _, _, I, I.may hm fun k s hk hs => ?_⟩
  obtain ⟨g1, g2⟩ := canGo_arc C o [] k s (by omega) hs
  have := List.idxOf_lt_length_of_mem g2
  rw [g1]
  omega
/-- It is its own form. -/
theorem form_self {C K K' : List Cr} {loops : Int} (hm : mayD C loops = true) (h : IsForm C K) (h' : IsForm K K') : K' = K := by
  obtain ⟨f, g, r, I, hk⟩ := form_iso_self hm h
  exact (form_iso I hm hk h h').symm
end Go.Proofs.Ytkbapnjlnnggaaa
/- Other numbers of arcs, another order of crossings: mathematics. -/
namespace Go.Proofs.Ytkbapnjlnnggaaa

/-- Two places of a list, one for the other. -/
def swapA {α : Type} (d : α) (L : List α) (x y : Nat) : List α := (L.set x (L.getD y d)).set y (L.getD x d)
def tau (x y k : Nat) : Nat := if k = y then x else if k = x then y else k
theorem swapA_len {α : Type} (d : α) (L : List α) (x y : Nat) : (swapA d L x y).length = L.length := by simp [swapA]
theorem swapA_at {α : Type} (d : α) (L : List α) (x y k : Nat) (hx : x < L.length) (hy : y < L.length) (_hk : k < L.length) : (swapA d L x y).getD k d = L.getD (tau x y k) d := by
  unfold swapA
  simp only [List.getD_eq_getElem?_getD, List.getElem?_set, List.length_set]
  by_cases h1 : k = y
  · have e : tau x y k = x := by unfold tau; rw [if_pos h1]
    rw [e, if_pos h1.symm, if_pos hy]
    rfl
  · rw [if_neg (fun e => h1 e.symm)]
    by_cases h2 : k = x
    · have e : tau x y k = y := by unfold tau; rw [if_neg h1, if_pos h2]
      rw [e, if_pos h2.symm, if_pos hx]
      rfl
    · have e : tau x y k = k := by unfold tau; rw [if_neg h1, if_neg h2]
      rw [e, if_neg (fun e => h2 e.symm)]
theorem tau_tau (x y k : Nat) : tau x y (tau x y k) = k := by
  unfold tau
  by_cases h1 : k = y
  · subst h1
    rw [if_pos rfl]
    by_cases h2 : x = k
    · rw [if_pos h2, h2]
    · rw [if_neg h2, if_pos rfl]
  · rw [if_neg h1]
    by_cases h2 : k = x
    · rw [if_pos h2, if_pos rfl, h2]
    · rw [if_neg h2, if_neg h1, if_neg h2]
theorem tau_lt {x y k n : Nat} (hx : x < n) (hy : y < n) (hk : k < n) : tau x y k < n := by
  unfold tau
  split
  · exact hx
  · split
    · exact hy
    · exact hk
/-- Names of arcs: different ones. -/
structure Nm (L : List Nat) (n : Nat) : Prop where
  len : L.length = n + 1
  rng : ∀ k, 1 ≤ k → k ≤ n → 1 ≤ L.getD k 0 ∧ L.getD k 0 ≤ n
  inj : ∀ j k, 1 ≤ j → j ≤ n → 1 ≤ k → k ≤ n → L.getD j 0 = L.getD k 0 → j = k
theorem Nm.range (n : Nat) : Nm (List.range (n + 1)) n := by
  have e : ∀ k, k ≤ n → (List.range (n + 1)).getD k 0 = k := fun k hk => by simp [List.getD_eq_getElem?_getD, show k < n + 1 by omega]
  exact ⟨by simp, fun k h1 h2 => by rw [e k h2]; omega, fun j k _ h2 _ h4 h => by rw [e j h2, e k h4] at h; exact h⟩
theorem tau_one {x y k n : Nat} (hx : 1 ≤ x ∧ x ≤ n) (hy : 1 ≤ y ∧ y ≤ n) (h1 : 1 ≤ k) (h2 : k ≤ n) : 1 ≤ tau x y k ∧ tau x y k ≤ n := by
  unfold tau
  split
  · exact hx
  · split
    · exact hy
    · exact ⟨h1, h2⟩
theorem Nm.swap {L : List Nat} {n : Nat} (h : Nm L n) {x y : Nat} (hx : 1 ≤ x ∧ x ≤ n) (hy : 1 ≤ y ∧ y ≤ n) : Nm (swapA 0 L x y) n := by
  have e : ∀ k, k ≤ n → (swapA 0 L x y).getD k 0 = L.getD (tau x y k) 0 := fun k hk => swapA_at 0 L x y k (by have := h.len; omega) (by have := h.len; omega) (by have := h.len; omega)
  refine ⟨by rw [swapA_len]; exact h.len, fun k h1 h2 => ?_, fun j k h1 h2 h3 h4 he => ?_⟩
  · rw [e k h2]
    have := tau_one hx hy h1 h2
    exact h.rng _ this.1 this.2
  · rw [e j h2, e k h4] at he
    have a := tau_one hx hy h1 h2
    have b := tau_one hx hy h3 h4
    have := h.inj _ _ a.1 a.2 b.1 b.2 he
    rw [← tau_tau x y j, this, tau_tau]
/-- The crossing with other names. -/
def renX (L : List Nat) (x : Cr) : Cr := ⟨(L.getD x.a.toNat 0 : Nat), (L.getD x.b.toNat 0 : Nat), (L.getD x.c.toNat 0 : Nat), (L.getD x.d.toNat 0 : Nat), x.plus⟩
def renC (L : List Nat) (C : List Cr) : List Cr := C.map (renX L)
theorem renX_arc (L : List Nat) (x : Cr) (s : Nat) : (renX L x).arc s = (L.getD (x.arc s).toNat 0 : Nat) := by
  unfold renX Cr.arc
  simp only
  split
  · rfl
  · split
    · rfl
    · split <;> rfl
theorem renC_at (L : List Nat) (C : List Cr) (k : Nat) (hk : k < C.length) : (renC L C).getD k Cr.none = renX L (C.getD k Cr.none) := by
  simp [renC, List.getD_eq_getElem?_getD, hk]
/-- The diagram with other names; its arcs are names. -/
theorem renC_iso {C : List Cr} {loops : Int} (hm : mayD C loops = true) {L : List Nat} (h : Nm L (2 * C.length)) : Iso C (renC L C) (fun k => k) (fun k => k) (fun a => L.getD a 0) ∧ ∀ k s, k < C.length → s < 4 → 1 ≤ ((renC L C).getD k Cr.none).arc s ∧ ((renC L C).getD k Cr.none).arc s ≤ 2 * (C.length : Int) := by
  refine ⟨⟨by simp [renC], fun k hk => hk, fun k hk => hk, fun _ _ => rfl, fun _ _ => rfl, fun k hk => by rw [renC_at L C k hk]; rfl, fun k s hk hs => ?_, fun x y hx hy e => h.inj x y hx.1 hx.2 hy.1 hy.2 e⟩, fun k s hk hs => ?_⟩
  · rw [renC_at L C k hk]
    unfold arcN
    rw [renX_arc]
    rfl
  · rw [renC_at L C k hk, renX_arc]
    obtain ⟨⟨a1, a2, -⟩, -, -, -⟩ := nb_may hm k s hk hs
    have := h.rng _ a1 a2
    omega
/-- Renamed, so far: it is the diagram but for numbers, its arcs are numbers of arcs. -/
def Ren (C D : List Cr) : Prop := ∃ f g r, Iso C D f g r ∧ ∀ k s, k < C.length → s < 4 → 1 ≤ (D.getD k Cr.none).arc s ∧ (D.getD k Cr.none).arc s ≤ 2 * (C.length : Int)
theorem Ren.swap {C D : List Cr} (h : Ren C D) {x y : Nat} (hx : x < C.length) (hy : y < C.length) : Ren C (swapA Cr.none D x y) := by
  obtain ⟨f, g, r, I, hr⟩ := h
  have e : ∀ k, k < C.length → (swapA Cr.none D x y).getD k Cr.none = D.getD (tau x y k) Cr.none := fun k hk => swapA_at Cr.none D x y k (by rw [I.len]; exact hx) (by rw [I.len]; exact hy) (by rw [I.len]; exact hk)
  refine ⟨fun k => tau x y (f k), fun k => g (tau x y k), r, ⟨by rw [swapA_len]; exact I.len, fun k hk => tau_lt hx hy (I.flt k hk), fun k hk => I.glt _ (tau_lt hx hy hk), fun k hk => ?_, fun k hk => ?_, fun k hk => ?_, fun k s hk hs => ?_, I.rinj⟩, fun k s hk hs => ?_⟩
  · show _ = _
    rw [tau_tau, I.gf k hk]
  · show _ = _
    rw [I.fg _ (tau_lt hx hy hk), tau_tau]
  · show _ = _
    rw [e _ (tau_lt hx hy (I.flt k hk)), tau_tau]
    exact I.plus k hk
  · show _ = _
    rw [e _ (tau_lt hx hy (I.flt k hk)), tau_tau]
    exact I.arc k s hk hs
  · rw [e k hk]
    exact hr _ s (tau_lt hx hy hk) hs
theorem Ren.may {C D : List Cr} {loops : Int} (h : Ren C D) (hm : mayD C loops = true) : mayD D loops = true := by
  obtain ⟨f, g, r, I, hr⟩ := h
  exact I.may hm hr
theorem Ren.form {C D K K' : List Cr} {loops : Int} (h : Ren C D) (hm : mayD C loops = true) (hK : IsForm C K) (hK' : IsForm D K') : K = K' := by
  have hd := h.may hm
  obtain ⟨f, g, r, I, hr⟩ := h
  exact form_iso I hm hd hK hK'
end Go.Proofs.Ytkbapnjlnnggaaa
