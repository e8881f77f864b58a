/- Diagrams that are one but for the numbers of arcs and the order of crossings have one form: mathematics. -/
import Derived.Test.YtkbapnjlnnggaaaC13P
namespace Go.Proofs.Ytkbapnjlnnggaaa

/-- The crossings of D are those of C in another order (f, and g back), the arcs have other numbers (r). -/
structure Iso (C D : List Cr) (f g r : Nat → Nat) : Prop where
  len : D.length = C.length
  flt : ∀ k, k < C.length → f k < C.length
  glt : ∀ k, k < C.length → g k < C.length
  gf : ∀ k, k < C.length → g (f k) = k
  fg : ∀ k, k < C.length → f (g k) = k
  plus : ∀ k, k < C.length → (D.getD (f k) Cr.none).plus = (C.getD k Cr.none).plus
  arc : ∀ k s, k < C.length → s < 4 → arcN (D.getD (f k) Cr.none) s = r (arcN (C.getD k Cr.none) s)
  rinj : ∀ x y, (1 ≤ x ∧ x ≤ 2 * C.length) → (1 ≤ y ∧ y ≤ 2 * C.length) → r x = r y → x = y
theorem Iso.inj {C D : List Cr} {f g r : Nat → Nat} (I : Iso C D f g r) : ∀ x y, x < C.length → y < C.length → f x = f y → x = y := fun x y hx hy e => by
  have := I.gf x hx
  rw [e, I.gf y hy] at this
  exact this.symm
theorem nb_comes {C : List Cr} {loops : Int} (hm : mayD C loops = true) (k s : Nat) (hk : k < C.length) (hs : s < 4) : (C.getD (nbC C k s) Cr.none).comes (nbS C k s) = !(C.getD k Cr.none).comes s := by
  obtain ⟨⟨h1, h2, -⟩, -, -, -⟩ := nb_may hm k s hk hs
  exact (en_may hm _ (!(C.getD k Cr.none).comes s) h1 h2).2.2.2.2
theorem Iso.nb {C D : List Cr} {f g r : Nat → Nat} {l1 l2 : Int} (I : Iso C D f g r) (hm : mayD C l1 = true) (hd : mayD D l2 = true) (k s : Nat) (hk : k < C.length) (hs : s < 4) : nbC D (f k) s = f (nbC C k s) ∧ nbS D (f k) s = nbS C k s := by
  obtain ⟨-, -, h1, h2⟩ := nb_may hm k s hk hs
  have e : arcN (D.getD (f k) Cr.none) s = arcN (D.getD (f (nbC C k s)) Cr.none) (nbS C k s) := by
    rw [I.arc k s hk hs, I.arc _ _ h1 h2, spot_nb hm hk hs]
  rcases spot_eq hd (by rw [I.len]; exact I.flt k hk) hs (by rw [I.len]; exact I.flt _ h1) h2 e with ⟨a, b⟩ | h
  · have a' := I.inj k _ hk h1 a
    have := nb_comes hm k s hk hs
    rw [← a', ← b] at this
    cases hc : (C.getD k Cr.none).comes s <;> rw [hc] at this <;> cases this
  · exact h
theorem Iso.con {C D : List Cr} {f g r : Nat → Nat} {l1 l2 : Int} (I : Iso C D f g r) (hm : mayD C l1 = true) (hd : mayD D l2 = true) (u v : Nat) (hu : u < C.length) (hv : v < C.length) : Con (arcE C) u v ↔ Con (arcE D) (f u) (f v) := by
  constructor
  · intro h S hS hfu
    refine h (fun x => S (f x)) ?_ hfu
    intro e he
    unfold arcE at he
    obtain ⟨i, hi, rfl⟩ := List.mem_map.1 he
    have hi' := List.mem_range.1 hi
    obtain ⟨-, t1, t2, t3, t4⟩ := en_may hm (i + 1) true (by omega) (by omega)
    have en : nbC C (enC C (i + 1) true) (enS C (i + 1) true) = enC C (i + 1) false := by
      unfold nbC
      rw [t3, t4]
      rfl
    have hc := nb_con hd (f (enC C (i + 1) true)) (enS C (i + 1) true) (by rw [I.len]; exact I.flt _ t1) t2
    rw [(I.nb hm hd _ _ t1 t2).1, en] at hc
    exact ⟨fun h => hc S hS h, fun h => hc.symm S hS h⟩
  · intro h S hS hSu
    have := h (fun y => ∃ x, x < C.length ∧ f x = y ∧ S x) ?_ ⟨u, hu, rfl, hSu⟩
    · obtain ⟨x, hx, e, hSx⟩ := this
      rw [← I.inj x v hx hv e]
      exact hSx
    · intro e he
      unfold arcE at he
      obtain ⟨i, hi, rfl⟩ := List.mem_map.1 he
      have hi' := List.mem_range.1 hi
      obtain ⟨-, t1, t2, t3, t4⟩ := en_may hd (i + 1) true (by omega) (by omega)
      have en : nbC D (enC D (i + 1) true) (enS D (i + 1) true) = enC D (i + 1) false := by
        unfold nbC
        rw [t3, t4]
        rfl
      simp only
      rw [I.len] at t1
      have hx := I.glt _ t1
      have ex := I.fg _ t1
      have hn := (I.nb hm hd (g (enC D (i + 1) true)) _ hx t2).1
      rw [ex, en] at hn
      have hc := nb_con hm _ _ hx t2
      have hl := nb_lt hm _ _ hx t2
      constructor
      · rintro ⟨x, h1, h2, h3⟩
        have e2 : x = g (enC D (i + 1) true) := I.inj _ _ h1 hx (by rw [ex, h2])
        rw [e2] at h3
        exact ⟨_, hl, hn.symm, hc S hS h3⟩
      · rintro ⟨x, h1, h2, h3⟩
        have e2 := I.inj _ _ h1 hl (by rw [h2, hn])
        rw [e2] at h3
        exact ⟨_, hx, ex, hc.symm S hS h3⟩
theorem Iso.teS {C D : List Cr} {f g r : Nat → Nat} {l1 l2 : Int} (I : Iso C D f g r) (hm : mayD C l1 = true) (hd : mayD D l2 = true) {c s : Nat} (hc : c < C.length) (hs : s < 4) {p : List Nat × List Int} (h : TeOk C p) : teS D (f c) (p.1.map f, p.2) s = ((Proofs.Ytkbapnjlnnggaaa.teS C c p s).1.map f, (Proofs.Ytkbapnjlnnggaaa.teS C c p s).2) := by
  have hx := nb_lt hm c s hc hs
  unfold Proofs.Ytkbapnjlnnggaaa.teS
  rw [(I.nb hm hd c s hc hs).1, (I.nb hm hd c s hc hs).2]
  have hmem := mem_map_inj (A := (· < C.length)) I.inj h.lt hx
  by_cases hn : nbC C c s ∈ p.1
  · simp only [hn, hmem.2 hn, if_true]
    rw [idxOf_map (A := (· < C.length)) I.inj _ _ h.lt hx]
  · have hn' : ¬f (nbC C c s) ∈ p.1.map f := fun e => hn (hmem.1 e)
    simp only [hn, hn', if_false]
    have e : p.1.map f ++ [f (nbC C c s)] = (p.1 ++ [nbC C c s]).map f := by simp
    rw [e, idxOf_map (A := (· < C.length)) I.inj _ _ (fun y hy => ?_) hx]
    rcases List.mem_append.1 hy with hy | hy
    · exact h.lt y hy
    · rw [List.mem_singleton.1 hy]; exact hx
theorem Iso.teK {C D : List Cr} {f g r : Nat → Nat} {l1 l2 : Int} (I : Iso C D f g r) (hm : mayD C l1 = true) (hd : mayD D l2 = true) {i : Nat} {p : List Nat × List Int} (hi : i < p.1.length) (h : TeOk C p) : ∀ k, k ≤ 4 → teK D i (p.1.map f, p.2) k = ((Proofs.Ytkbapnjlnnggaaa.teK C i p k).1.map f, (Proofs.Ytkbapnjlnnggaaa.teK C i p k).2) := by
  have hg : (p.1.map f).getD i 0 = f (p.1.getD i 0) := by simp [List.getD, hi]
  have hc : p.1.getD i 0 < C.length := h.lt _ (by rw [List.getD_eq_getElem?_getD, List.getElem?_eq_getElem hi]; exact List.getElem_mem hi)
  intro k
  induction k with
  | zero =>
    intro _
    unfold Proofs.Ytkbapnjlnnggaaa.teK
    simp only
    rw [hg, I.plus _ hc]
  | succ k ih =>
    intro hk
    rw [Proofs.Ytkbapnjlnnggaaa.teK, Proofs.Ytkbapnjlnnggaaa.teK, ih (by omega)]
    simp only
    rw [hg, I.teS hm hd hc (by omega) (teK_ok hm hi h (by omega))]
theorem Iso.te {C D : List Cr} {f g r : Nat → Nat} {l1 l2 : Int} (I : Iso C D f g r) (hm : mayD C l1 = true) (hd : mayD D l2 = true) {a : Nat} (ha : a < C.length) : te D (f a) = ((Proofs.Ytkbapnjlnnggaaa.te C a).1.map f, (Proofs.Ytkbapnjlnnggaaa.te C a).2) := by
  have : ∀ i, teI D (f a) i = ((teI C a i).1.map f, (teI C a i).2) := by
    intro i
    induction i with
    | zero => rfl
    | succ i ih =>
      rw [teI, teI, ih]
      by_cases hi : i < (teI C a i).1.length
      · simp only [List.length_map, hi, if_true]
        exact I.teK hm hd hi (teI_ok hm ha i) 4 (Nat.le_refl _)
      · simp only [List.length_map, hi, if_false]
  unfold Proofs.Ytkbapnjlnnggaaa.te
  rw [I.len]
  exact this _
theorem Iso.key {C D : List Cr} {f g r : Nat → Nat} {l1 l2 : Int} (I : Iso C D f g r) (hm : mayD C l1 = true) (hd : mayD D l2 = true) {a : Nat} (ha : a < C.length) : keyT (Proofs.Ytkbapnjlnnggaaa.te D (f a)) = keyT (Proofs.Ytkbapnjlnnggaaa.te C a) := by
  rw [I.te hm hd ha]
  simp [keyT]
/-- The least telling is least. -/
theorem leT_min (C : List Cr) (P : List Int) (p : Nat) : ∀ n k, k < n → P.getD k 0 = (p : Int) → ¬cmpT (te C k) (leT C P p n) < 0 := by
  intro n
  induction n with
  | zero => intro k hk; omega
  | succ n ih =>
    intro k hk hp
    rw [leT]
    by_cases h1 : P.getD n 0 = (p : Int) ∧ ((leT C P p n).1 = [] ∨ cmpT (te C n) (leT C P p n) < 0)
    · rw [if_pos h1]
      by_cases e : k = n
      · rw [e]; exact cmpT_irrefl _
      · have hk' : k < n := by omega
        have hne : (leT C P p n).1 ≠ [] := by
          rcases leT_is C P p n with ⟨_, b⟩ | ⟨j, _, _, b⟩
          · exact absurd hp (b k hk')
          · rw [b]; intro e2; have := te_ne C j; rw [e2] at this; simp at this
        rcases h1.2 with h2 | h2
        · exact absurd h2 hne
        · exact cmpT_ntrans (ih k hk' hp) (cmpT_asymm h2)
    · rw [if_neg h1]
      by_cases e : k = n
      · subst e
        exact fun h => h1 ⟨hp, Or.inr h⟩
      · exact ih k (by omega) hp
end Go.Proofs.Ytkbapnjlnnggaaa
