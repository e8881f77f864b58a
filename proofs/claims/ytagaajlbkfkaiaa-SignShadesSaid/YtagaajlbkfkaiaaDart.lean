/- Plain mathematics: darts and the faces that they go around; pieces. -/
import Derived.Test.YtagaajlbkfkaiaaLevP
namespace Go.Proofs.Ytagaajlbkfkaiaa

/-- Where arc a ends (p) or begins: the crossing, the side. -/
def enC (C : List Cr) (a : Nat) (p : Bool) : Nat := (endTo C a p C.length).1.toNat
def enS (C : List Cr) (a : Nat) (p : Bool) : Nat := (endTo C a p C.length).2.toNat
theorem en_may {C : List Cr} {loops : Int} (hm : mayD C loops = true) (a : Nat) (p : Bool) (h1 : 1 ≤ a) (h2 : a ≤ 2 * C.length) : endTo C a p C.length = ((enC C a p : Int), (enS C a p : Int)) ∧ enC C a p < C.length ∧ enS C a p < 4 ∧ (C.getD (enC C a p) Cr.none).arc (enS C a p) = (a : Int) ∧ (C.getD (enC C a p) Cr.none).comes (enS C a p) = p := by
  obtain ⟨i, k, h3, h4, h5, h6, h7⟩ := end_may hm a h1 h2 p
  have e1 : enC C a p = i := by unfold enC; rw [h7]; simp
  have e2 : enS C a p = k := by unfold enS; rw [h7]; simp
  rw [e1, e2]
  exact ⟨h7, h3, h4, h5, h6⟩
/-- Dart j: its arc, whether it goes back; the dart of an arc. They are numbered from 1 on. -/
def dA (j : Nat) : Nat := (j + 1) / 2
def dB (j : Nat) : Bool := decide (j % 2 = 0)
def mkD (a : Nat) (p : Bool) : Nat := if p = true then 2 * a else 2 * a - 1
theorem dA_mk {a : Nat} {p : Bool} (h : 1 ≤ a) : dA (mkD a p) = a := by unfold dA mkD; split <;> omega
theorem dB_mk {a : Nat} {p : Bool} (h : 1 ≤ a) : dB (mkD a p) = p := by
  unfold dB mkD
  cases p
  · simp; omega
  · simp
theorem mk_d {j : Nat} (h : 1 ≤ j) : mkD (dA j) (dB j) = j := by
  unfold mkD dA dB
  split
  · rename_i hd; simp at hd; omega
  · rename_i hd; simp at hd; omega
theorem dA_le {j n : Nat} (h1 : 1 ≤ j) (h : j ≤ 4 * n) : 1 ≤ dA j ∧ dA j ≤ 2 * n := by unfold dA; omega
theorem mk_le {a n : Nat} {p : Bool} (h1 : 1 ≤ a) (h : a ≤ 2 * n) : 1 ≤ mkD a p ∧ mkD a p ≤ 4 * n := by unfold mkD; split <;> omega
/-- Where a dart ends; the dart behind it. -/
def dC (C : List Cr) (j : Nat) : Nat := enC C (dA j) (!dB j)
def dS (C : List Cr) (j : Nat) : Nat := enS C (dA j) (!dB j)
def fd (C : List Cr) (j : Nat) : Nat := mkD ((C.getD (dC C j) Cr.none).arc ((dS C j + 3) % 4)).toNat ((C.getD (dC C j) Cr.none).comes ((dS C j + 3) % 4))
theorem d_may {C : List Cr} {loops : Int} (hm : mayD C loops = true) (j : Nat) (h1 : 1 ≤ j) (h2 : j ≤ 4 * C.length) : endTo C (dA j) (!dB j) C.length = ((dC C j : Int), (dS C j : Int)) ∧ dC C j < C.length ∧ dS C j < 4 := by
  have h := dA_le h1 h2
  have g := en_may hm (dA j) (!dB j) h.1 h.2
  exact ⟨g.1, g.2.1, g.2.2.1⟩
theorem fd_may {C : List Cr} {loops : Int} (hm : mayD C loops = true) (j : Nat) (h1 : 1 ≤ j) (h2 : j ≤ 4 * C.length) : (C.getD (dC C j) Cr.none).arc ((dS C j + 3) % 4) = (dA (fd C j) : Int) ∧ (C.getD (dC C j) Cr.none).comes ((dS C j + 3) % 4) = dB (fd C j) ∧ 1 ≤ fd C j ∧ fd C j ≤ 4 * C.length := by
  have g := d_may hm j h1 h2
  have hf := may_fit hm (dC C j) ((dS C j + 3) % 4) g.2.1 (by omega)
  have g1 := hf.1
  have g2 := hf.2.1
  unfold fd
  generalize (C.getD (dC C j) Cr.none).comes ((dS C j + 3) % 4) = p
  generalize (C.getD (dC C j) Cr.none).arc ((dS C j + 3) % 4) = x at g1 g2
  have hx : 1 ≤ x.toNat ∧ x.toNat ≤ 2 * C.length := by omega
  rw [dA_mk hx.1, dB_mk hx.1]
  have := mk_le (p := p) hx.1 hx.2
  exact ⟨by omega, rfl, this.1, this.2⟩
theorem fd_closed {C : List Cr} {loops : Int} (hm : mayD C loops = true) : ∀ j, 1 ≤ j → j ≤ 4 * C.length → 1 ≤ fd C j ∧ fd C j ≤ 4 * C.length := fun j h1 h2 => (fd_may hm j h1 h2).2.2
/-- The faces: rings of darts. -/
def facesM (C : List Cr) : List (List Nat) := (walksTo (fd C) (4 * C.length) (4 * C.length)).1

/-- The crossing at the other end of the arc on a side. -/
def nbC (C : List Cr) (k s : Nat) : Nat := enC C ((C.getD k Cr.none).arc s).toNat (!(C.getD k Cr.none).comes s)
def arcE (C : List Cr) : List (Nat × Nat) := (List.range (2 * C.length)).map fun i => (enC C (i + 1) true, enC C (i + 1) false)
theorem en_one {C : List Cr} {loops : Int} (hm : mayD C loops = true) (k s : Nat) (hk : k < C.length) (hs : s < 4) : 1 ≤ ((C.getD k Cr.none).arc s).toNat ∧ ((C.getD k Cr.none).arc s).toNat ≤ 2 * C.length ∧ enC C ((C.getD k Cr.none).arc s).toNat ((C.getD k Cr.none).comes s) = k := by
  have hf := may_fit hm k s hk hs
  have g1 := hf.1
  have g2 := hf.2.1
  have ha : 1 ≤ ((C.getD k Cr.none).arc s).toNat ∧ ((C.getD k Cr.none).arc s).toNat ≤ 2 * C.length := by omega
  refine ⟨ha.1, ha.2, ?_⟩
  have e := end_one hm _ ha.1 ha.2 ((C.getD k Cr.none).comes s) k s hk hs (by omega) rfl
  unfold enC
  rw [e]
  rfl
theorem nb_lt {C : List Cr} {loops : Int} (hm : mayD C loops = true) (k s : Nat) (hk : k < C.length) (hs : s < 4) : nbC C k s < C.length := by
  have h := en_one hm k s hk hs
  exact (en_may hm _ _ h.1 h.2.1).2.1
theorem mem_arcE {C : List Cr} {a : Nat} (h1 : 1 ≤ a) (h2 : a ≤ 2 * C.length) : (enC C a true, enC C a false) ∈ arcE C := by
  unfold arcE
  refine List.mem_map.2 ⟨a - 1, List.mem_range.2 (by omega), ?_⟩
  rw [Nat.sub_add_cancel h1]
theorem nb_con {C : List Cr} {loops : Int} (hm : mayD C loops = true) (k s : Nat) (hk : k < C.length) (hs : s < 4) : Con (arcE C) k (nbC C k s) := by
  have h := en_one hm k s hk hs
  have he := Con.edge (mem_arcE h.1 h.2.1)
  unfold nbC
  cases hc : (C.getD k Cr.none).comes s with
  | true =>
    rw [hc] at h
    rw [h.2.2] at he
    exact he
  | false =>
    rw [hc] at h
    rw [h.2.2] at he
    exact he.symm
theorem edge_nb {C : List Cr} {loops : Int} (hm : mayD C loops = true) (e : Nat × Nat) (he : e ∈ arcE C) : e.1 < C.length ∧ e.2 < C.length ∧ (∃ s, s < 4 ∧ nbC C e.1 s = e.2) ∧ ∃ s, s < 4 ∧ nbC C e.2 s = e.1 := by
  obtain ⟨i, hi, rfl⟩ := List.mem_map.1 he
  have hi' := List.mem_range.1 hi
  have h1 := en_may hm (i + 1) true (by omega) (by omega)
  have h2 := en_may hm (i + 1) false (by omega) (by omega)
  refine ⟨h1.2.1, h2.2.1, ⟨enS C (i + 1) true, h1.2.2.1, ?_⟩, ⟨enS C (i + 1) false, h2.2.2.1, ?_⟩⟩
  · unfold nbC
    rw [h1.2.2.2.1, h1.2.2.2.2]
    rfl
  · unfold nbC
    rw [h2.2.2.2.1, h2.2.2.2.2]
    rfl
theorem arcE_lt {C : List Cr} {loops : Int} (hm : mayD C loops = true) : ∀ e, e ∈ arcE C → e.1 < C.length ∧ e.2 < C.length := fun e he => ⟨(edge_nb hm e he).1, (edge_nb hm e he).2.1⟩

/-- A piece's number under way: P0 ahead of it, P now; todo: whose sides are to be looked at; of k the sides below s were. -/
structure Spr (C : List Cr) (P0 P : List Int) (f : Nat) (num : Int) (todo : List Nat) (k s : Nat) : Prop where
  len : P.length = C.length
  old : ∀ v, v < C.length → P0.getD v 0 ≠ -1 → P.getD v 0 = P0.getD v 0
  new : ∀ v, v < C.length → P0.getD v 0 = -1 → P.getD v 0 = -1 ∨ (P.getD v 0 = num ∧ Con (arcE C) f v)
  fst : P.getD f 0 = num
  tod : ∀ v, v ∈ todo → v < C.length ∧ Con (arcE C) f v
  proc : ∀ v, v < C.length → P.getD v 0 = num → v ∈ todo ∨ ∀ t, t < 4 → (v = k → t < s) → P.getD (nbC C v t) 0 ≠ -1
theorem getI_set (P : List Int) (i v : Nat) (z : Int) (hi : i < P.length) : (P.set i z).getD v 0 = if v = i then z else P.getD v 0 := by
  simp only [List.getD_eq_getElem?_getD, List.getElem?_set]
  by_cases h : i = v
  · subst h; simp [hi]
  · simp [h, Ne.symm h]
theorem Spr.start {C : List Cr} {P0 : List Int} {f : Nat} {num : Int} (hl : P0.length = C.length) (hf : f < C.length) (h0 : P0.getD f 0 = -1) (hn : ∀ v, v < C.length → P0.getD v 0 ≠ num) : Spr C P0 (P0.set f num) f num [f] 0 4 := by
  have hs : ∀ v, (P0.set f num).getD v 0 = if v = f then num else P0.getD v 0 := fun v => getI_set _ _ _ _ (by omega)
  refine ⟨by simp [hl], fun v hv h => ?_, fun v hv h => ?_, by rw [hs, if_pos rfl], fun v hv => ?_, fun v hv h => ?_⟩
  · rw [hs, if_neg (fun e => h (by rw [e, h0]))]
  · rw [hs]
    by_cases e : v = f
    · rw [if_pos e, e]; exact Or.inr ⟨rfl, Con.refl _ _⟩
    · rw [if_neg e]; exact Or.inl h
  · rw [List.mem_singleton.1 hv]; exact ⟨hf, Con.refl _ _⟩
  · rw [hs] at h
    by_cases e : v = f
    · exact Or.inl (by rw [e]; exact List.mem_singleton.2 rfl)
    · rw [if_neg e] at h
      exact absurd h (hn v hv)
/-- One is taken out of the row. -/
theorem Spr.take {C : List Cr} {P0 P : List Int} {f : Nat} {num : Int} {k : Nat} {todo : List Nat} {k0 : Nat} (h : Spr C P0 P f num (k :: todo) k0 4) : Spr C P0 P f num todo k 0 := by
  refine ⟨h.len, h.old, h.new, h.fst, fun v hv => h.tod v (List.Mem.tail _ hv), fun v hv e => ?_⟩
  by_cases hk : v = k
  · exact Or.inr fun t _ hs => absurd (hs hk) (Nat.not_lt_zero _)
  · rcases h.proc v hv e with h1 | h1
    · rcases List.mem_cons.1 h1 with h2 | h2
      · exact absurd h2 hk
      · exact Or.inl h2
    · exact Or.inr fun t ht _ => h1 t ht (fun _ => ht)
/-- A side whose other end has a number. -/
theorem Spr.old_side {C : List Cr} {P0 P : List Int} {f : Nat} {num : Int} {k s : Nat} {todo : List Nat} (h : Spr C P0 P f num todo k s) (hn : P.getD (nbC C k s) 0 ≠ -1) : Spr C P0 P f num todo k (s + 1) := by
  refine ⟨h.len, h.old, h.new, h.fst, h.tod, fun v hv e => ?_⟩
  rcases h.proc v hv e with h1 | h1
  · exact Or.inl h1
  · refine Or.inr fun t ht hs => ?_
    by_cases hvk : v = k
    · by_cases hts : t = s
      · rw [hvk, hts]; exact hn
      · exact h1 t ht (fun e => by have := hs e; omega)
    · exact h1 t ht (fun e => absurd e hvk)
/-- A side whose other end has none yet. -/
theorem Spr.new_side {C : List Cr} {loops : Int} (hm : mayD C loops = true) {P0 P : List Int} {f : Nat} {num : Int} {k s : Nat} {todo : List Nat} (h : Spr C P0 P f num todo k s) (hnum : num ≠ -1) (hk : k < C.length) (hs : s < 4) (hc : Con (arcE C) f k) (hn : P.getD (nbC C k s) 0 = -1) : Spr C P0 (P.set (nbC C k s) num) f num (todo ++ [nbC C k s]) k (s + 1) := by
  have hb := nb_lt hm k s hk hs
  have hcon := hc.trans (nb_con hm k s hk hs)
  generalize hy : nbC C k s = y at hb hcon hn ⊢
  have hg : ∀ v, (P.set y num).getD v 0 = if v = y then num else P.getD v 0 := fun v => getI_set _ _ _ _ (by rw [h.len]; exact hb)
  have hne : ∀ v, P.getD v 0 ≠ -1 → (P.set y num).getD v 0 ≠ -1 := fun v hv => by
    rw [hg]
    split
    · exact hnum
    · exact hv
  refine ⟨by simp [h.len], fun v hv e => ?_, fun v hv e => ?_, ?_, fun v hv => ?_, fun v hv e => ?_⟩
  · rw [hg, if_neg (fun e2 => by rw [e2] at e; have := h.old y hb e; rw [hn] at this; exact e this.symm)]
    exact h.old v hv e
  · rw [hg]
    by_cases e2 : v = y
    · rw [if_pos e2, e2]; exact Or.inr ⟨rfl, hcon⟩
    · rw [if_neg e2]; exact h.new v hv e
  · rw [hg, h.fst]; split <;> rfl
  · rcases List.mem_append.1 hv with h1 | h1
    · exact h.tod v h1
    · rw [List.mem_singleton.1 h1]; exact ⟨hb, hcon⟩
  · by_cases e2 : v = y
    · exact Or.inl (List.mem_append.2 (Or.inr (List.mem_singleton.2 e2)))
    · rw [hg, if_neg e2] at e
      rcases h.proc v hv e with h1 | h1
      · exact Or.inl (List.mem_append.2 (Or.inl h1))
      · refine Or.inr fun t ht hst => ?_
        by_cases hvk : v = k
        · by_cases hts : t = s
          · rw [hvk, hts, hy, hg, if_pos rfl]; exact hnum
          · exact hne _ (h1 t ht (fun e => by have := hst e; omega))
        · exact hne _ (h1 t ht (fun e => absurd e hvk))
/-- Pieces under way: the crossings below k have numbers, below c. -/
structure Pcs (C : List Cr) (P : List Int) (c k : Nat) : Prop where
  len : P.length = C.length
  few : c ≤ k
  cl : ∀ e, e ∈ arcE C → P.getD e.1 0 = P.getD e.2 0
  vals : ∀ v, v < C.length → P.getD v 0 = -1 ∨ (0 ≤ P.getD v 0 ∧ P.getD v 0 < (c : Int))
  join : ∀ u v, u < C.length → v < C.length → P.getD u 0 ≠ -1 → P.getD u 0 = P.getD v 0 → Con (arcE C) u v
  used : ∀ p, p < c → ∃ v, v < C.length ∧ P.getD v 0 = (p : Int)
  done : ∀ v, v < k → v < C.length → P.getD v 0 ≠ -1
theorem Pcs.start (C : List Cr) (P : List Int) (hP : P = List.replicate C.length (-1)) (hE : ∀ e, e ∈ arcE C → e.1 < C.length ∧ e.2 < C.length) : Pcs C P 0 0 := by
  have hg : ∀ v, v < C.length → P.getD v 0 = -1 := fun v hv => by rw [hP]; simp [List.getD_eq_getElem?_getD, hv]
  exact ⟨by rw [hP]; simp, Nat.le_refl _, fun e he => by rw [hg _ (hE e he).1, hg _ (hE e he).2], fun v hv => Or.inl (hg v hv), fun u v hu _ h _ => absurd (hg u hu) h, fun p hp => absurd hp (Nat.not_lt_zero _), fun v hv => absurd hv (Nat.not_lt_zero _)⟩
theorem Pcs.skip {C : List Cr} {P : List Int} {c k : Nat} (h : Pcs C P c k) (hk : P.getD k 0 ≠ -1) : Pcs C P c (k + 1) :=
  ⟨h.len, by have := h.few; omega, h.cl, h.vals, h.join, h.used, fun v hv hn => by
    by_cases e : v = k
    · rw [e]; exact hk
    · exact h.done v (by omega) hn⟩
theorem Pcs.more {C : List Cr} {loops : Int} (hm : mayD C loops = true) {P0 P : List Int} {c k k1 : Nat} (h : Pcs C P0 c k) (hk : k < C.length) (_h0 : P0.getD k 0 = -1) (g : Spr C P0 P k c [] k1 4) : Pcs C P (c + 1) (k + 1) := by
  have hc1 : ((c : Nat) : Int) ≠ -1 := by omega
  have hold : ∀ v, v < C.length → P.getD v 0 = (c : Int) → P0.getD v 0 = -1 := fun v hv e => Classical.byContradiction fun hne => by
    have h1 := g.old v hv hne
    rcases h.vals v hv with h2 | h2
    · exact hne h2
    · omega
  have hone : ∀ u v, u < C.length → v < C.length → P0.getD u 0 = P0.getD v 0 → (∃ t, t < 4 ∧ nbC C u t = v) → (∃ t, t < 4 ∧ nbC C v t = u) → P.getD u 0 = P.getD v 0 := by
    intro u v hu hv e ⟨t, ht, ht'⟩ ⟨t2, ht2, ht2'⟩
    by_cases h1 : P0.getD u 0 = -1
    · have h2 : P0.getD v 0 = -1 := by rw [← e]; exact h1
      rcases g.new u hu h1 with a | a
      · rcases g.new v hv h2 with b | b
        · rw [a, b]
        · rcases g.proc v hv b.1 with c1 | c1
          · cases c1
          · have := c1 t2 ht2 (fun _ => ht2)
            rw [ht2'] at this
            exact absurd a this
      · rcases g.proc u hu a.1 with c1 | c1
        · cases c1
        · have hx := c1 t ht (fun _ => ht)
          rw [ht'] at hx
          rcases g.new v hv h2 with b | b
          · exact absurd b hx
          · rw [a.1, b.1]
    · have h2 : P0.getD v 0 ≠ -1 := by rw [← e]; exact h1
      rw [g.old u hu h1, g.old v hv h2, e]
  refine ⟨g.len, by have := h.few; omega, fun e he => ?_, fun v hv => ?_, fun u v hu hv hne e => ?_, fun p hp => ?_, fun v hv hn => ?_⟩
  · obtain ⟨a1, a2, a3, a4⟩ := edge_nb hm e he
    exact hone _ _ a1 a2 (h.cl e he) a3 a4
  · by_cases h1 : P0.getD v 0 = -1
    · rcases g.new v hv h1 with a | a
      · exact Or.inl a
      · exact Or.inr (by rw [a.1]; omega)
    · rw [g.old v hv h1]
      rcases h.vals v hv with a | a
      · exact Or.inl a
      · exact Or.inr (by omega)
  · by_cases h1 : P.getD u 0 = (c : Int)
    · have hu1 := hold u hu h1
      have hv1 := hold v hv (by rw [← e]; exact h1)
      rcases g.new u hu hu1 with a | a
      · exact absurd a hne
      · rcases g.new v hv hv1 with b | b
        · exact absurd (by rw [e]; exact b) hne
        · exact a.2.symm.trans b.2
    · have hu1 : P0.getD u 0 ≠ -1 := fun hx => by
        rcases g.new u hu hx with a | a
        · exact hne a
        · exact h1 a.1
      have hv1 : P0.getD v 0 ≠ -1 := fun hx => by
        rcases g.new v hv hx with a | a
        · exact hne (by rw [e]; exact a)
        · exact h1 (by rw [e]; exact a.1)
      rw [g.old u hu hu1, g.old v hv hv1] at e
      exact h.join u v hu hv hu1 e
  · by_cases e : p = c
    · exact ⟨k, hk, by rw [g.fst, e]⟩
    · obtain ⟨v, hv, e2⟩ := h.used p (by omega)
      exact ⟨v, hv, by rw [g.old v hv (by rw [e2]; omega), e2]⟩
  · by_cases e : v = k
    · rw [e, g.fst]; exact hc1
    · have := h.done v (by omega) hn
      rw [g.old v hn this]; exact this
/-- All have their numbers. -/
structure PcsAll (C : List Cr) (P : List Int) (c : Nat) : Prop where
  len : P.length = C.length
  few : c ≤ C.length
  vals : ∀ v, v < C.length → 0 ≤ P.getD v 0 ∧ P.getD v 0 < (c : Int)
  same : ∀ u v, u < C.length → v < C.length → (P.getD u 0 = P.getD v 0 ↔ Con (arcE C) u v)
  used : ∀ p, p < c → ∃ v, v < C.length ∧ P.getD v 0 = (p : Int)
theorem Pcs.all {C : List Cr} {P : List Int} {c : Nat} (h : Pcs C P c C.length) : PcsAll C P c := by
  refine ⟨h.len, h.few, fun v hv => ?_, fun u v hu hv => ⟨fun e => h.join u v hu hv (h.done u hu hu) e, fun hc => ?_⟩, h.used⟩
  · rcases h.vals v hv with a | a
    · exact absurd a (h.done v hv hv)
    · exact a
  · exact (hc (fun z => P.getD u 0 = P.getD z 0) (fun e he => by show P.getD u 0 = P.getD e.1 0 ↔ P.getD u 0 = P.getD e.2 0; rw [h.cl e he]) rfl)
/-- Of a piece: as many faces (told by the crossings at which their first darts end) as there are, less its crossings. -/
def exI (n : Nat) (G : List Nat) (P : List Int) (p : Nat) : Int := ((G.countP fun g => decide (P.getD g 0 = (p : Int)) : Nat) : Int) - (((List.range n).countP fun v => decide (P.getD v 0 = (p : Int)) : Nat) : Int)
def exN (n : Nat) (G : List Nat) (W : List Nat) (p : Nat) : Int := ((G.countP fun g => decide (W.getD g 0 = p) : Nat) : Int) - (((List.range n).countP fun v => decide (W.getD v 0 = p) : Nat) : Int)
theorem ex_same {C : List Cr} {P : List Int} {c : Nat} {W : List Nat} {G : List Nat} (hP : PcsAll C P c) (hW : Least (arcE C) C.length W) (hG : ∀ g, g ∈ G → g < C.length) (v : Nat) (hv : v < C.length) (p : Nat) (hp : P.getD v 0 = (p : Int)) : exI C.length G P p = exN C.length G W (W.getD v 0) := by
  have key : ∀ g, g < C.length → decide (P.getD g 0 = (p : Int)) = decide (W.getD g 0 = W.getD v 0) := fun g hg => by
    rw [← hp]
    exact decide_eq_decide.2 ((hP.same g v hg hv).trans (hW.same hg hv).symm)
  unfold exI exN
  rw [List.countP_congr (p := fun g => decide (P.getD g 0 = (p : Int))) (q := fun g => decide (W.getD g 0 = W.getD v 0)) (l := G) (fun g hg => by rw [key g (hG g hg)]),
    List.countP_congr (p := fun g => decide (P.getD g 0 = (p : Int))) (q := fun g => decide (W.getD g 0 = W.getD v 0)) (l := List.range C.length) (fun g hg => by rw [key g (List.mem_range.1 hg)])]
theorem sphere_iff {C : List Cr} {P : List Int} {c : Nat} {W : List Nat} {G : List Nat} (hP : PcsAll C P c) (hW : Least (arcE C) C.length W) (hG : ∀ g, g ∈ G → g < C.length) : (∀ p, p < c → exI C.length G P p = 2) ↔ ∀ p, p < C.length → W.getD p 0 = p → exN C.length G W p = 2 := by
  constructor
  · intro h p hp e
    have hv := hP.vals p hp
    have := ex_same hP hW hG p hp (P.getD p 0).toNat (by omega)
    rw [e] at this
    rw [← this]
    exact h _ (by omega)
  · intro h p hp
    obtain ⟨v, hv, e⟩ := hP.used p hp
    rw [ex_same hP hW hG v hv p e]
    have hw := hW.lt hv
    exact h _ hw ((hW.same hw hv).2 (hW.2 v hv).1.symm)
end Go.Proofs.Ytagaajlbkfkaiaa
