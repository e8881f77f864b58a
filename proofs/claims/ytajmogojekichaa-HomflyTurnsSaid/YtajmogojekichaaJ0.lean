/- Plain mathematics: arcs that are one when crossings are gone; their numbers; what is left of a diagram. -/
import Derived.Test.YtajmogojekichaaV1
import Derived.Test.YtajmogojekichaaO0
import Derived.Test.YtajmogojekichaaDart
namespace Go.Proofs.Ytajmogojekichaa

/-- The joins of the first arcs: each that leads to a crossing that is gone goes on as f tells. -/
def uTo (C : List Cr) (f : Nat → Nat) (G : List Nat) : Nat → List (Nat × Nat)
  | 0 => []
  | a + 1 => uTo C f G a ++ (if toC C (a + 1) ∈ G then [(a + 1, f (a + 1))] else [])
theorem mem_uTo {C : List Cr} {f : Nat → Nat} {G : List Nat} {n : Nat} {e : Nat × Nat} : e ∈ uTo C f G n ↔ ∃ a, 1 ≤ a ∧ a ≤ n ∧ toC C a ∈ G ∧ e = (a, f a) := by
  induction n with
  | zero =>
    refine ⟨fun h => (by cases h), fun ⟨a, h1, h2, _⟩ => absurd h2 (by omega)⟩
  | succ n ih =>
    rw [uTo, List.mem_append, ih]
    constructor
    · rintro (⟨a, h1, h2, h3, h4⟩ | h)
      · exact ⟨a, h1, by omega, h3, h4⟩
      · split at h
        · rename_i hg
          exact ⟨n + 1, by omega, Nat.le_refl _, hg, by simpa using h⟩
        · cases h
    · rintro ⟨a, h1, h2, h3, h4⟩
      by_cases e : a = n + 1
      · subst e
        right
        rw [if_pos h3]
        simp [h4]
      · exact Or.inl ⟨a, h1, by omega, h3, h4⟩
/-- Of each arc the least one that is one with it. -/
def uniM (C : List Cr) (f : Nat → Nat) (G : List Nat) : List Nat := mers (List.range (2 * C.length + 1)) (uTo C f G (2 * C.length))
theorem uTo_lt {C : List Cr} {f : Nat → Nat} {G : List Nat} (hf : ∀ a, 1 ≤ a → a ≤ 2 * C.length → 1 ≤ f a ∧ f a ≤ 2 * C.length) : ∀ e, e ∈ uTo C f G (2 * C.length) → (1 ≤ e.1 ∧ e.1 < 2 * C.length + 1) ∧ (1 ≤ e.2 ∧ e.2 < 2 * C.length + 1) := fun e he => by
  obtain ⟨a, h1, h2, -, rfl⟩ := mem_uTo.1 he
  have := hf a h1 h2
  exact ⟨⟨h1, by dsimp only; omega⟩, this.1, by dsimp only; omega⟩
theorem uni_least {C : List Cr} {f : Nat → Nat} {G : List Nat} (hf : ∀ a, 1 ≤ a → a ≤ 2 * C.length → 1 ≤ f a ∧ f a ≤ 2 * C.length) : Least (uTo C f G (2 * C.length)) (2 * C.length + 1) (uniM C f G) := by
  have := mers_least (2 * C.length + 1) (uTo C f G (2 * C.length)) [] (List.range (2 * C.length + 1)) (fun e he => by
    have h := uTo_lt hf e (by simpa using he)
    exact ⟨h.1.2, h.2.2⟩) (least_nil _)
  simpa [uniM] using this
/-- Is the crossing to which an arc leads gone? (What stands first leads to none.) -/
def goneB (C : List Cr) (G : List Nat) (a : Nat) : Bool := if a = 0 then false else decide (toC C a ∈ G)
/-- Some arc that is one with v leads to a crossing that is left. -/
def stP (C : List Cr) (G : List Nat) (L : List Nat) (m v : Nat) : Prop := ∃ a, a < m ∧ L.getD a 0 = v ∧ goneB C G a = false
/-- Some crossing that is left has an arc that is one with v. -/
def thP (C : List Cr) (G : List Nat) (L : List Nat) (v : Nat) : Prop := ∃ i s, i < C.length ∧ i ∉ G ∧ s < 4 ∧ L.getD ((C.getD i Cr.none).arc s).toNat 0 = v

theorem nodup_sub : ∀ (l m : List Nat), l.Nodup → (∀ x, x ∈ l → x ∈ m) → l.length ≤ m.length := by
  intro l
  induction l with
  | nil => intro m _ _; exact Nat.zero_le _
  | cons x l ih =>
    intro m hn hs
    obtain ⟨h1, h2⟩ := List.nodup_cons.1 hn
    have hx : x ∈ m := hs x (List.Mem.head _)
    have := ih (m.erase x) h2 (fun y hy => by
      have hne : y ≠ x := fun e => h1 (e ▸ hy)
      exact (List.mem_erase_of_ne hne).2 (hs y (List.Mem.tail _ hy)))
    have hl := List.length_erase_of_mem hx
    have hp := List.length_pos_of_mem hx
    simp only [List.length_cons]
    omega
/-- What a one-to-one map of a finite class into itself misses: nothing. -/
theorem onto_class (f : Nat → Nat) (K : List Nat) (hn : K.Nodup) (hf : ∀ a, a ∈ K → f a ∈ K) (hi : ∀ a b, a ∈ K → b ∈ K → f a = f b → a = b) (y : Nat) (hy : y ∈ K) : ∃ x, x ∈ K ∧ f x = y := by
  refine Classical.byContradiction fun h => ?_
  have hno : y ∉ K.map f := fun hm => by
    obtain ⟨x, hx, e⟩ := List.mem_map.1 hm
    exact h ⟨x, hx, e⟩
  have hnm : (K.map f).Nodup := List.pairwise_map.2 (hn.imp_of_mem fun ha hb hab e => hab (hi _ _ ha hb e))
  have := nodup_sub (y :: K.map f) K (List.nodup_cons.2 ⟨hno, hnm⟩) (fun x hx => by
    rcases List.mem_cons.1 hx with rfl | hx
    · exact hy
    · obtain ⟨z, hz, rfl⟩ := List.mem_map.1 hx
      exact hf z hz)
  simp only [List.length_cons, List.length_map] at this
  omega
/-- What goes on: from arc to arc, one to one, out of the crossing to which the arc leads. -/
structure Goes (C : List Cr) (f : Nat → Nat) : Prop where
  closed : ∀ a, 1 ≤ a → a ≤ 2 * C.length → 1 ≤ f a ∧ f a ≤ 2 * C.length
  inj : ∀ a b, 1 ≤ a → a ≤ 2 * C.length → 1 ≤ b → b ≤ 2 * C.length → f a = f b → a = b
  out : ∀ a, 1 ≤ a → a ≤ 2 * C.length → enC C (f a) false = toC C a
theorem st_th {C : List Cr} {loops : Int} (hm : mayD C loops = true) {f : Nat → Nat} (hf : Goes C f) (G : List Nat) (v : Nat) (h1 : 1 ≤ v) :
    thP C G (uniM C f G) v ↔ ((uniM C f G).getD v 0 = v ∧ stP C G (uniM C f G) (2 * C.length + 1) v) := by
  have hL := uni_least (G := G) hf.closed
  generalize hE : uniM C f G = L at hL ⊢
  have hpos : ∀ e, e ∈ uTo C f G (2 * C.length) → 1 ≤ e.1 ∧ 1 ≤ e.2 := fun e he => ⟨(uTo_lt hf.closed e he).1.1, (uTo_lt hf.closed e he).2.1⟩
  constructor
  · rintro ⟨i, s, hi, hG, hs, e⟩
    have ho := en_one hm i s hi hs
    obtain ⟨a, ha⟩ : ∃ a, ((C.getD i Cr.none).arc s).toNat = a := ⟨_, rfl⟩
    rw [ha] at e ho
    obtain ⟨a1, a2, a3⟩ := ho
    have hroot := hL.root (v := a) (by omega)
    rw [e] at hroot
    refine ⟨hroot, ?_⟩
    cases hc : (C.getD i Cr.none).comes s with
    | true =>
      rw [hc] at a3
      refine ⟨a, by omega, e, ?_⟩
      unfold goneB
      rw [if_neg (by omega)]
      have e3 : toC C a = i := a3
      rw [e3]
      simpa using hG
    | false =>
      rw [hc] at a3
      refine Classical.byContradiction fun hno => ?_
      have hall : ∀ x, 1 ≤ x → x ≤ 2 * C.length → L.getD x 0 = v → toC C x ∈ G := fun x x1 x2 x3 => Classical.byContradiction fun hx => hno ⟨x, by omega, x3, by unfold goneB; rw [if_neg (by omega)]; simpa using hx⟩
      obtain ⟨K, hK⟩ : ∃ K, K = (List.range (2 * C.length + 1)).filter (fun x => decide (1 ≤ x) && decide (L.getD x 0 = v)) := ⟨_, rfl⟩
      have hmem : ∀ x, x ∈ K ↔ (1 ≤ x ∧ x ≤ 2 * C.length ∧ L.getD x 0 = v) := fun x => by
        rw [hK, List.mem_filter, List.mem_range]
        simp only [Bool.and_eq_true, decide_eq_true_eq]
        omega
      obtain ⟨x, hx, hfx⟩ := onto_class f K (by rw [hK]; exact List.nodup_range.filter _) (fun x hx => by
        obtain ⟨x1, x2, x3⟩ := (hmem x).1 hx
        have hc2 := hf.closed x x1 x2
        refine (hmem _).2 ⟨hc2.1, hc2.2, ?_⟩
        rw [← x3]
        exact ((hL.same (by omega) (by omega)).2 (Con.edge (mem_uTo.2 ⟨x, x1, x2, hall x x1 x2 x3, rfl⟩))).symm) (fun x y hx hy e => by
        obtain ⟨x1, x2, -⟩ := (hmem x).1 hx
        obtain ⟨y1, y2, -⟩ := (hmem y).1 hy
        exact hf.inj x y x1 x2 y1 y2 e) a ((hmem a).2 ⟨a1, a2, e⟩)
      obtain ⟨x1, x2, x3⟩ := (hmem x).1 hx
      have h5 := hf.out x x1 x2
      rw [hfx, a3] at h5
      exact hG (h5 ▸ hall x x1 x2 x3)
  · rintro ⟨hr, a, ha, e, hg⟩
    have a1 : 1 ≤ a := by
      rcases Nat.eq_zero_or_pos a with rfl | h
      · have := hL.le (v := 0) (by omega)
        omega
      · exact h
    obtain ⟨-, h4, h5, h6, h7⟩ := to_may hm a a1 (by omega)
    unfold goneB at hg
    rw [if_neg (by omega)] at hg
    exact ⟨toC C a, toS C a, h4, by simpa using hg, h5, by rw [h6]; exact e⟩

/-- How many below k are so. -/
def cntB (P : Nat → Bool) : Nat → Nat
  | 0 => 0
  | k + 1 => cntB P k + (if 1 ≤ k ∧ P k = true then 1 else 0)
theorem cntB_le (P : Nat → Bool) (k : Nat) : cntB P k ≤ k := by
  induction k with
  | zero => exact Nat.le_refl _
  | succ k ih => simp only [cntB]; split <;> omega
theorem cntB_eq {P Q : Nat → Bool} {k : Nat} (h : ∀ u, 1 ≤ u → u < k → P u = Q u) : cntB P k = cntB Q k := by
  induction k with
  | zero => rfl
  | succ k ih =>
    have := ih (fun u h1 h2 => h u h1 (by omega))
    simp only [cntB]
    rw [this]
    by_cases h1 : 1 ≤ k
    · rw [h k h1 (by omega)]
    · rw [if_neg (fun z => h1 z.1), if_neg (fun z => h1 z.1)]
/-- The number of an arc: that of the least one that is one with it. -/
def numM (L : List Nat) (P : Nat → Bool) (a : Nat) : Nat := if P (L.getD a 0) = true then cntB P (L.getD a 0) + 1 else 0
/-- A crossing with other numbers. -/
def reX (h : Nat → Nat) (x : Cr) : Cr := ⟨h x.a.toNat, h x.b.toNat, h x.c.toNat, h x.d.toNat, x.plus⟩
/-- The crossings that are left of the first ones. -/
def reTo (C : List Cr) (G : List Nat) (h : Nat → Nat) : Nat → List Cr
  | 0 => []
  | i + 1 => reTo C G h i ++ (if i ∈ G then [] else [reX h (C.getD i Cr.none)])
theorem reTo_len (C : List Cr) (G : List Nat) (h : Nat → Nat) (i : Nat) : (reTo C G h i).length ≤ i := by
  induction i with
  | zero => exact Nat.le_refl _
  | succ i ih => simp only [reTo, List.length_append]; split <;> simp <;> omega
theorem reTo_eq {C : List Cr} {G : List Nat} {h g : Nat → Nat} {i : Nat} (e : ∀ j, j < i → j ∉ G → reX h (C.getD j Cr.none) = reX g (C.getD j Cr.none)) : reTo C G h i = reTo C G g i := by
  induction i with
  | zero => rfl
  | succ i ih =>
    simp only [reTo]
    rw [ih (fun j hj => e j (by omega))]
    by_cases hg : i ∈ G
    · rw [if_pos hg, if_pos hg]
    · rw [if_neg hg, if_neg hg, e i (by omega) hg]

theorem least_mem {E F : List (Nat × Nat)} (h : ∀ e, e ∈ E ↔ e ∈ F) {n : Nat} {W : List Nat} (hl : Least E n W) : Least F n W := by
  have hc : ∀ u v, Con E u v ↔ Con F u v := fun u v => ⟨fun c S hS => c S (fun e he => hS e ((h e).1 he)), fun c S hS => c S (fun e he => hS e ((h e).2 he))⟩
  exact ⟨hl.1, fun v hv => ⟨(hc _ _).1 (hl.2 v hv).1, fun u hu => (hl.2 v hv).2 u ((hc _ _).2 hu)⟩⟩
/-- Along two edges three rounds are enough. -/
theorem lev_three (e1 e2 : Nat × Nat) (n : Nat) (hE : ∀ e, e ∈ [e1, e2] → e.1 < n ∧ e.2 < n) : Least [e1, e2] n (levR (List.range n) [e1, e2] 3) := by
  have h0 : Lab [e1, e2] n (List.range n) := ⟨by simp, fun v hv => by simp [List.getD_eq_getElem?_getD, hv], fun v hv => by simp [List.getD_eq_getElem?_getD, hv, Con.refl]⟩
  have hF : ∀ e, e ∈ [e1, e2] → e.1 < n ∧ e.2 < n ∧ Con [e1, e2] e.1 e.2 := fun e he => ⟨(hE e he).1, (hE e he).2, Con.edge he⟩
  have hl := fun r => levR_lab hE h0 r
  -- where no edge has one end done and the other not, all are done
  have hall : ∀ r, (∀ e, e ∈ [e1, e2] → (Done [e1, e2] (levR (List.range n) [e1, e2] r) e.1 ↔ Done [e1, e2] (levR (List.range n) [e1, e2] r) e.2)) → ∀ v, v < n → Done [e1, e2] (levR (List.range n) [e1, e2] r) v := fun r hc v hv => by
    obtain ⟨m, hm1, hm2⟩ := con_min [e1, e2] v
    have hmn : m < n := Nat.lt_of_le_of_lt (hm2 v (Con.refl _ v)) hv
    have hmd : Done [e1, e2] (levR (List.range n) [e1, e2] r) m := fun u hu => Nat.le_trans ((hl r).le m hmn) (hm2 u (hm1.trans hu))
    exact hm1.symm (fun z => Done [e1, e2] (levR (List.range n) [e1, e2] r) z) hc hmd
  have step : ∀ r e, e ∈ [e1, e2] → (Done [e1, e2] (levR (List.range n) [e1, e2] r) e.1 ∨ Done [e1, e2] (levR (List.range n) [e1, e2] r) e.2) → Done [e1, e2] (levR (List.range n) [e1, e2] (r + 1)) e.1 ∧ Done [e1, e2] (levR (List.range n) [e1, e2] (r + 1)) e.2 := fun r e he hd => levs_done [e1, e2] hF e he _ (hl r) hd
  have m1 : e1 ∈ [e1, e2] := List.Mem.head _
  have m2 : e2 ∈ [e1, e2] := List.Mem.tail _ (List.Mem.head _)
  have none_all : ∀ r, (∀ v, v < n → Done [e1, e2] (levR (List.range n) [e1, e2] r) v) → ∀ v, v < n → Done [e1, e2] (levR (List.range n) [e1, e2] (r + 1)) v := fun r h v hv u hu => Nat.le_trans ((levs_lab [e1, e2] hF _ (hl r)).2 v) (h v hv u hu)
  have fin : ∀ v, v < n → Done [e1, e2] (levR (List.range n) [e1, e2] 3) v := by
    by_cases a1 : Done [e1, e2] (levR (List.range n) [e1, e2] 0) e1.1 ∨ Done [e1, e2] (levR (List.range n) [e1, e2] 0) e1.2
    · have b1 := step 0 e1 m1 a1
      have c1 := step 1 e1 m1 (Or.inl b1.1)
      by_cases a2 : Done [e1, e2] (levR (List.range n) [e1, e2] 1) e2.1 ∨ Done [e1, e2] (levR (List.range n) [e1, e2] 1) e2.2
      · have c2 := step 1 e2 m2 a2
        refine none_all 2 (hall 2 fun e he => ?_)
        rcases List.mem_cons.1 he with rfl | he
        · exact ⟨fun _ => c1.2, fun _ => c1.1⟩
        · obtain rfl : e = e2 := by simpa using he
          exact ⟨fun _ => c2.2, fun _ => c2.1⟩
      · have := hall 1 fun e he => by
          rcases List.mem_cons.1 he with rfl | he
          · exact ⟨fun _ => b1.2, fun _ => b1.1⟩
          · obtain rfl : e = e2 := by simpa using he
            exact ⟨fun h => absurd (Or.inl h) a2, fun h => absurd (Or.inr h) a2⟩
        exact none_all 2 (none_all 1 this)
    · by_cases a2 : Done [e1, e2] (levR (List.range n) [e1, e2] 0) e2.1 ∨ Done [e1, e2] (levR (List.range n) [e1, e2] 0) e2.2
      · have b2 := step 0 e2 m2 a2
        have c2 := step 1 e2 m2 (Or.inl b2.1)
        by_cases a3 : Done [e1, e2] (levR (List.range n) [e1, e2] 1) e1.1 ∨ Done [e1, e2] (levR (List.range n) [e1, e2] 1) e1.2
        · have c1 := step 1 e1 m1 a3
          refine none_all 2 (hall 2 fun e he => ?_)
          rcases List.mem_cons.1 he with rfl | he
          · exact ⟨fun _ => c1.2, fun _ => c1.1⟩
          · obtain rfl : e = e2 := by simpa using he
            exact ⟨fun _ => c2.2, fun _ => c2.1⟩
        · have := hall 1 fun e he => by
            rcases List.mem_cons.1 he with rfl | he
            · exact ⟨fun h => absurd (Or.inl h) a3, fun h => absurd (Or.inr h) a3⟩
            · obtain rfl : e = e2 := by simpa using he
              exact ⟨fun _ => b2.2, fun _ => b2.1⟩
          exact none_all 2 (none_all 1 this)
      · have := hall 0 fun e he => by
          rcases List.mem_cons.1 he with rfl | he
          · exact ⟨fun h => absurd (Or.inl h) a1, fun h => absurd (Or.inr h) a1⟩
          · obtain rfl : e = e2 := by simpa using he
            exact ⟨fun h => absurd (Or.inl h) a2, fun h => absurd (Or.inr h) a2⟩
        exact none_all 2 (none_all 1 (none_all 0 this))
  exact ⟨(hl 3).len, fun v hv => ⟨(hl 3).con v hv, fin v hv⟩⟩

/-- The side by which the other strand leaves is no way in. -/
theorem sx_comes {C : List Cr} (a : Nat) : (C.getD (toC C a) Cr.none).comes (sxS C a) = false := by
  unfold sxS
  generalize C.getD (toC C a) Cr.none = x
  split
  · rfl
  · split
    · rename_i h; simp [Cr.comes, h]
    · rename_i h; simp [Cr.comes]; simpa using h
theorem sx_goes {C : List Cr} {loops : Int} (hm : mayD C loops = true) : Goes C (sx C) where
  closed := sx_closed hm
  inj := fun a b a1 a2 b1 b2 e => by
    have ha := sx_may hm a a1 a2
    have hb := sx_may hm b b1 b2
    obtain ⟨-, i1, s1, r1, q1⟩ := to_may hm a a1 a2
    obtain ⟨-, i2, s2, r2, q2⟩ := to_may hm b b1 b2
    have ea := end_one hm (sx C a) ha.2.1 ha.2.2 false (toC C a) (sxS C a) i1 (sxS_lt C a) ha.1 (sx_comes a)
    have eb := end_one hm (sx C b) hb.2.1 hb.2.2 false (toC C b) (sxS C b) i2 (sxS_lt C b) hb.1 (sx_comes b)
    rw [e, eb] at ea
    have hc : toC C b = toC C a := by have h := congrArg Prod.fst ea; simp only at h; omega
    have hs : sxS C b = sxS C a := by have h := congrArg Prod.snd ea; simp only at h; omega
    rw [hc] at r2 q2
    have ht : toS C a = toS C b := by
      unfold sxS at hs
      rw [hc] at hs
      generalize C.getD (toC C a) Cr.none = x at r1 q1 r2 q2 hs
      generalize toS C a = s at s1 r1 q1 hs ⊢
      generalize toS C b = t at s2 r2 q2 hs ⊢
      have k1 : s = 0 ∨ (s = 1 ∧ x.plus = false) ∨ (s = 3 ∧ x.plus = true) := by
        match s, s1, q1 with
        | 0, _, _ => exact Or.inl rfl
        | 1, _, q => exact Or.inr (Or.inl ⟨rfl, by simpa [Cr.comes] using q⟩)
        | 2, _, q => simp [Cr.comes] at q
        | 3, _, q => exact Or.inr (Or.inr ⟨rfl, by simpa [Cr.comes] using q⟩)
      have k2 : t = 0 ∨ (t = 1 ∧ x.plus = false) ∨ (t = 3 ∧ x.plus = true) := by
        match t, s2, q2 with
        | 0, _, _ => exact Or.inl rfl
        | 1, _, q => exact Or.inr (Or.inl ⟨rfl, by simpa [Cr.comes] using q⟩)
        | 2, _, q => simp [Cr.comes] at q
        | 3, _, q => exact Or.inr (Or.inr ⟨rfl, by simpa [Cr.comes] using q⟩)
      rcases k1 with rfl | ⟨rfl, p1⟩ | ⟨rfl, p1⟩ <;> rcases k2 with rfl | ⟨rfl, p2⟩ | ⟨rfl, p2⟩ <;> first | rfl | (simp [p1] at hs; done) | (simp [p2] at hs; done) | (rw [p1] at p2; cases p2)
    rw [ht, r2] at r1
    omega
  out := fun a a1 a2 => by
    have ha := sx_may hm a a1 a2
    obtain ⟨-, i1, -, -, -⟩ := to_may hm a a1 a2
    have ea := end_one hm (sx C a) ha.2.1 ha.2.2 false (toC C a) (sxS C a) i1 (sxS_lt C a) ha.1 (sx_comes a)
    unfold enC
    rw [ea]
    rfl
/-- The joins at a crossing that is smoothed. -/
def smE (C : List Cr) (k : Nat) : List (Nat × Nat) := if (C.getD k Cr.none).plus = true then [((C.getD k Cr.none).a.toNat, (C.getD k Cr.none).b.toNat), ((C.getD k Cr.none).d.toNat, (C.getD k Cr.none).c.toNat)] else [((C.getD k Cr.none).a.toNat, (C.getD k Cr.none).d.toNat), ((C.getD k Cr.none).b.toNat, (C.getD k Cr.none).c.toNat)]
theorem to_side {C : List Cr} {loops : Int} (hm : mayD C loops = true) (k s : Nat) (hk : k < C.length) (hs : s < 4) (hc : (C.getD k Cr.none).comes s = true) : 1 ≤ ((C.getD k Cr.none).arc s).toNat ∧ ((C.getD k Cr.none).arc s).toNat ≤ 2 * C.length ∧ toC C ((C.getD k Cr.none).arc s).toNat = k ∧ toS C ((C.getD k Cr.none).arc s).toNat = s := by
  have hf := may_fit hm k s hk hs
  have g1 := hf.1
  have g2 := hf.2.1
  have ha : 1 ≤ ((C.getD k Cr.none).arc s).toNat ∧ ((C.getD k Cr.none).arc s).toNat ≤ 2 * C.length := by omega
  have e := end_one hm _ ha.1 ha.2 true k s hk hs (by omega) hc
  refine ⟨ha.1, ha.2, ?_, ?_⟩
  · unfold toC; rw [e]; rfl
  · unfold toS; rw [e]; rfl
theorem mem_smE {C : List Cr} {loops : Int} (hm : mayD C loops = true) (k : Nat) (hk : k < C.length) (e : Nat × Nat) : e ∈ uTo C (sx C) [k] (2 * C.length) ↔ e ∈ smE C k := by
  rw [mem_uTo]
  constructor
  · rintro ⟨a, a1, a2, hg, rfl⟩
    have hk2 : toC C a = k := by simpa using hg
    obtain ⟨-, -, s1, r1, q1⟩ := to_may hm a a1 a2
    rw [hk2] at r1 q1
    unfold smE sx sxS
    rw [hk2]
    generalize C.getD k Cr.none = x at r1 q1 ⊢
    generalize toS C a = s at s1 r1 q1 ⊢
    obtain ⟨xa, xb, xc, xd, xp⟩ := x
    match s, s1, q1, r1 with
    | 0, _, _, r =>
      have : xa.toNat = a := by simp [Cr.arc] at r; omega
      cases xp <;> simp [Cr.arc, this]
    | 1, _, q, r =>
      have hp : xp = false := by simpa [Cr.comes] using q
      have : xb.toNat = a := by simp [Cr.arc] at r; omega
      subst hp
      simp [Cr.arc, this]
    | 2, _, q, _ => simp [Cr.comes] at q
    | 3, _, q, r =>
      have hp : xp = true := by simpa [Cr.comes] using q
      have : xd.toNat = a := by simp [Cr.arc] at r; omega
      subst hp
      simp [Cr.arc, this]
  · intro he
    have t0 := to_side hm k 0 hk (by omega) (by simp [Cr.comes])
    have t1 : (C.getD k Cr.none).plus = false → _ := fun hp => to_side hm k 1 hk (by omega) (by unfold Cr.comes; rw [hp]; rfl)
    have t3 : (C.getD k Cr.none).plus = true → _ := fun hp => to_side hm k 3 hk (by omega) (by unfold Cr.comes; rw [hp]; rfl)
    unfold smE at he
    cases hp : (C.getD k Cr.none).plus with
    | true =>
      rw [if_pos hp] at he
      have t3 := t3 hp
      rcases List.mem_cons.1 he with rfl | he
      · refine ⟨((C.getD k Cr.none).arc 0).toNat, t0.1, t0.2.1, by rw [t0.2.2.1]; simp, ?_⟩
        unfold sx sxS
        rw [t0.2.2.1, t0.2.2.2, hp]
        rfl
      · obtain rfl := List.mem_singleton.1 he
        refine ⟨((C.getD k Cr.none).arc 3).toNat, t3.1, t3.2.1, by rw [t3.2.2.1]; simp, ?_⟩
        unfold sx sxS
        rw [t3.2.2.1, t3.2.2.2]
        rfl
    | false =>
      rw [if_neg (by rw [hp]; simp)] at he
      have t1 := t1 hp
      rcases List.mem_cons.1 he with rfl | he
      · refine ⟨((C.getD k Cr.none).arc 0).toNat, t0.1, t0.2.1, by rw [t0.2.2.1]; simp, ?_⟩
        unfold sx sxS
        rw [t0.2.2.1, t0.2.2.2, hp]
        rfl
      · obtain rfl := List.mem_singleton.1 he
        refine ⟨((C.getD k Cr.none).arc 1).toNat, t1.1, t1.2.1, by rw [t1.2.2.1]; simp, ?_⟩
        unfold sx sxS
        rw [t1.2.2.1, t1.2.2.2]
        rfl
/-- What the reference's rounds come to is what the code's merging comes to. -/
theorem smooth_levels {C : List Cr} {loops : Int} (hm : mayD C loops = true) (k : Nat) (hk : k < C.length) : levR (List.range (2 * C.length + 1)) (smE C k) 3 = uniM C (sx C) [k] := by
  have h1 := least_mem (mem_smE hm k hk) (uni_least (G := [k]) (sx_goes hm).closed)
  refine Least.eq ?_ h1
  have hE : ∀ e, e ∈ smE C k → e.1 < 2 * C.length + 1 ∧ e.2 < 2 * C.length + 1 := fun e he => by
    have := uTo_lt (G := [k]) (sx_goes hm).closed e ((mem_smE hm k hk e).2 he)
    exact ⟨this.1.2, this.2.2⟩
  revert hE
  unfold smE
  split
  · intro hE; exact lev_three _ _ _ hE
  · intro hE; exact lev_three _ _ _ hE
end Go.Proofs.Ytajmogojekichaa
