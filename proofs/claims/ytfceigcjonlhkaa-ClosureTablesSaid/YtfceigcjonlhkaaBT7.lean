/- Tables of polynomials in form. -/
import Derived.Test.YtfceigcjonlhkaaBT4
namespace Go.Proofs.Ytfceigcjonlhkaa.Poly
open Go.RowKit Go.Maps

/-- A polynomial in form, with the coefficients f. -/
def PV (W : World) (v : Value) (f : Int → Int) : Prop := ∃ l, PolyC W W.heap.size v l ∧ Canon l f
theorem canon_zero : Canon ([] : List (Int × Int)) (fun _ => 0) := ⟨List.Pairwise.nil, fun x c => by simp only [List.not_mem_nil, false_iff]; rintro ⟨rfl, h⟩; exact h rfl⟩
theorem pv_nil (W : World) : PV W (.slice none 0 0) (fun _ => 0) := ⟨[], ⟨Or.inl ⟨rfl, rfl⟩, none, 0, 0, rfl, Nat.le_refl _, Nat.zero_le _⟩, canon_zero⟩
theorem PV.up {W W' : World} {v : Value} {f : Int → Int} (h : PV W v f) (hb : Below W.heap.size W W') : PV W' v f := by
  obtain ⟨l, h1, h2⟩ := h
  exact ⟨l, h1.up hb, h2⟩
/-- A store into a block of slices leaves it. -/
theorem PV.set {W W' : World} {v : Value} {f : Int → Int} {q : Nat} (h : PV W v f) (hg : W.grownBy W' (some q)) (hs : ∀ o v, W.cell? ⟨q, o, none⟩ = some v → ∃ a m c, v = .slice a m c) : PV W' v f := by
  obtain ⟨l, ⟨h1, h3⟩, h2⟩ := h
  refine ⟨l, ⟨?_, h3⟩, h2⟩
  rcases h1 with h1 | h1 | ⟨b, off, cap, e, hlt, hT⟩
  · exact Or.inl h1
  · exact Or.inr (Or.inl h1)
  · refine Or.inr (Or.inr ⟨b, off, cap, e, Nat.lt_of_lt_of_le hlt hg.size, fun i hi => ?_⟩)
    have hne : some b ≠ some q := fun e => by
      obtain ⟨a, m, c, e2⟩ := hs _ _ (by rw [← Option.some.inj e]; exact (hT i hi).1)
      cases e2
    have hbl := hg.block b hlt hne
    have hcell : ∀ o, W'.cell? ⟨b, o, none⟩ = W.cell? ⟨b, o, none⟩ := fun o => by simp only [World.cell?, hbl]
    exact ⟨(hcell _).trans (hT i hi).1, (hcell _).trans (hT i hi).2⟩
/-- A row with no room to spare holds its cells and no others. -/
theorem row_all {w : World} {B e n g : Nat} {xs : List Value} (h : w.ownsRow B e 1 (.slice (some ⟨g, 0, none⟩) n n) n xs) (o : Nat) (v : Value) (hv : w.cell? ⟨g, o, none⟩ = some v) : o < n ∧ xs[o]? = some v := by
  have hlt : o < n := by
    rcases h.2 with ⟨h1, -⟩ | ⟨q, cap, cur, h1, h2, h3, h4⟩
    · cases h1
    · injection h1 with e1 e2 e3
      obtain rfl : g = q := by injection e1 with e1; injection e1
      subst e3
      by_cases hh : o < n
      · exact hh
      · exfalso
        have hsz : cur.size ≤ o := by have := h4.2.1; omega
        simp [World.cell?, h3, Array.getElem?_eq_none hsz] at hv
  exact ⟨hlt, by rw [← h.cellAt o (by omega)]; exact hv⟩
/-- A table of polynomials at work, n by n, its first k rows laid. -/
structure Td (B g n : Nat) (gs : Nat → Nat) (k : Nat) (V : Nat → Nat → Value) (F : Nat → Nat → Int → Int) (W : World) : Prop where
  outer : W.ownsRow B 74 1 (.slice (some ⟨g, 0, none⟩) n n) n (outT n n gs k)
  rows : ∀ i, i < k → W.ownsRow B 76 1 (.slice (some ⟨gs i, 0, none⟩) n n) n (vaL n (V i))
  inj : ∀ i j, i < k → j < k → gs i = gs j → i = j
  vals : ∀ i j, i < k → j < n → PV W (V i j) (F i j)
variable {B g n k : Nat} {gs : Nat → Nat} {V : Nat → Nat → Value} {F : Nat → Nat → Int → Int} {W W' W1 : World}
theorem Td.any (h : Td B g n gs k V F W) (hb : Below W.heap.size W W') : Td B g n gs k V F W' :=
  ⟨own_any h.outer (grown_below hb none), fun i hi => own_any (h.rows i hi) (grown_below hb none), h.inj, fun i j hi hj => (h.vals i j hi hj).up hb⟩
theorem Td.cellO (h : Td B g n gs k V F W) (i : Nat) (hi : i < k) (hn : i < n) : W.cell? ⟨g, i, none⟩ = some (.slice (some ⟨gs i, 0, none⟩) n n) := by
  rw [h.outer.cellAt i (by omega), outT_get n n gs k i hn, if_pos hi]
theorem Td.cellR (h : Td B g n gs k V F W) (i j : Nat) (hi : i < k) (hj : j < n) : W.cell? ⟨gs i, j, none⟩ = some (V i j) := by
  rw [(h.rows i hi).cellAt j (by omega), vaL_get _ _ _ hj]
theorem Td.lt (h : Td B g n gs k V F W) : (B ≤ g ∧ g < W.heap.size) ∧ ∀ i, i < k → B ≤ gs i ∧ gs i < W.heap.size := ⟨h.outer.lt g rfl, fun i hi => (h.rows i hi).lt (gs i) rfl⟩
theorem Td.cellS (h : Td B g n gs k V F W) (i : Nat) (hi : i < k) : ∀ o v, W.cell? ⟨gs i, o, none⟩ = some v → ∃ a m c, v = .slice a m c := fun o v hv => by
  obtain ⟨j, hj, rfl⟩ : ∃ j, j < n ∧ v = V i j := by
    obtain ⟨h1, h2⟩ := row_all (h.rows i hi) o v hv
    rw [vaL_get n (V i) o h1] at h2
    exact ⟨o, h1, (Option.some.inj h2).symm⟩
  obtain ⟨l, hp, -⟩ := h.vals i j hi hj
  obtain ⟨-, a, m, c, e, -⟩ := hp
  exact ⟨a, m, c, e⟩
theorem Td.cellG (h : Td B g n gs k V F W) : ∀ o v, W.cell? ⟨g, o, none⟩ = some v → ∃ a m c, v = .slice a m c := fun o v hv => by
  obtain ⟨h1, h2⟩ := row_all h.outer o v hv
  rw [outT_get n n gs k o h1] at h2
  have h3 := Option.some.inj h2
  by_cases e : o < k
  · rw [if_pos e] at h3; exact ⟨_, _, _, h3.symm⟩
  · rw [if_neg e] at h3; exact ⟨_, _, _, h3.symm⟩
/-- A value of a row is stored. -/
theorem Td.set {V' : Nat → Nat → Value} {F' : Nat → Nat → Int → Int} (h : Td B g n gs k V F W) (i j : Nat) (u : Value) (hi : i < k) (hV : ∀ a b, a < k → b < n → V' a b = if a = i ∧ b = j then u else V a b) (hF : ∀ a b, a < k → b < n → ¬ (a = i ∧ b = j) → F' a b = F a b) (hu : j < n → PV W u (F' i j)) :
    Td B g n gs k V' F' (W.setCell ⟨gs i, j, none⟩ u) ∧ W.grownBy (W.setCell ⟨gs i, j, none⟩ u) (some (gs i)) := by
  have hst := (h.rows i hi).stored j u
  have hcs : ∀ o v, W.cell? ⟨gs i, o, none⟩ = some v → ∃ a m c, v = .slice a m c := h.cellS i hi
  refine ⟨⟨h.outer.kept hst.2 (own_ne h.outer (h.rows i hi) (by decide)), fun a ha => ?_, h.inj, fun a b ha hb => ?_⟩, hst.2⟩
  · by_cases e : a = i
    · subst e
      rw [vaL_set n (V a) (V' a) j u (fun b hb => by rw [hV a b ha hb]; by_cases e : b = j <;> simp [e])] at hst
      exact hst.1
    · have hr := (h.rows a ha).kept hst.2 (Or.inr (fun q => e (h.inj a i ha hi (Option.some.inj q))))
      have e2 : vaL n (V' a) = vaL n (V a) := List.map_congr_left fun b hb => by rw [hV a b ha (List.mem_range.1 hb), if_neg (fun q => e q.1)]
      rw [e2]
      exact hr
  · by_cases e : a = i ∧ b = j
    · rw [hV a b ha hb, if_pos e, e.1, e.2]
      exact (hu (by rw [← e.2]; exact hb)).set hst.2 hcs
    · rw [hV a b ha hb, if_neg e, hF a b ha hb e]
      exact (h.vals a b ha hb).set hst.2 hcs
/-- A row more, of nothing. -/
theorem Td.more {q : Nat} (h : Td B g n gs k V F W) (hb : Below W.heap.size W W1) (hrow : W1.ownsRow B 76 1 (.slice (some ⟨q, 0, none⟩) n n) n (vaL n fun _ => .slice none 0 0)) (hnew : W.heap.size ≤ q) :
    Td B g n (fun i => if i = k then q else gs i) (k + 1) (fun i j => if i = k then .slice none 0 0 else V i j) (fun i j => if i = k then fun _ => 0 else F i j) (W1.setCell ⟨g, k, none⟩ (.slice (some ⟨q, 0, none⟩) n n)) ∧ W1.grownBy (W1.setCell ⟨g, k, none⟩ (.slice (some ⟨q, 0, none⟩) n n)) (some g) := by
  have h1 := h.any hb
  have hst := h1.outer.stored k (.slice (some ⟨q, 0, none⟩) n n)
  have hcs : ∀ o v, W1.cell? ⟨g, o, none⟩ = some v → ∃ a m c, v = .slice a m c := h1.cellG
  have hlt : ∀ i, i < k → gs i < q := fun i hi => by have := ((h.rows i hi).lt (gs i) rfl).2; omega
  refine ⟨⟨?_, fun i hi => ?_, fun i j hi hj e => ?_, fun i j hi hj => ?_⟩, hst.2⟩
  · have e : (outT n n gs k).set k (.slice (some ⟨q, 0, none⟩) n n) = outT n n (fun i => if i = k then q else gs i) (k + 1) := by
      apply List.ext_getElem?
      intro j
      by_cases hj : j < n
      · rw [outT_get _ _ _ _ _ hj, List.getElem?_set, outT_len]
        by_cases e : k = j
        · subst e; simp [hj]
        · rw [if_neg e, outT_get _ _ _ _ _ hj]
          by_cases h2 : j < k
          · rw [if_pos h2, if_pos (by omega), if_neg (by omega)]
          · rw [if_neg h2, if_neg (by omega)]
      · rw [List.getElem?_eq_none (by simp [outT_len]; omega), List.getElem?_eq_none (by simp [outT_len]; omega)]
    rw [← e]
    exact hst.1
  · by_cases e : i = k
    · subst e
      simp only [if_true]
      exact hrow.kept hst.2 (own_ne hrow h1.outer (by decide))
    · simp only [if_neg e]
      have hr := h1.rows i (by omega)
      exact hr.kept hst.2 (own_ne hr h1.outer (by decide))
  · have e : (if i = k then q else gs i) = (if j = k then q else gs j) := e
    by_cases e1 : i = k
    · by_cases e2 : j = k
      · omega
      · rw [if_pos e1, if_neg e2] at e
        have := hlt j (by omega)
        omega
    · by_cases e2 : j = k
      · rw [if_neg e1, if_pos e2] at e
        have := hlt i (by omega)
        omega
      · rw [if_neg e1, if_neg e2] at e
        exact h.inj i j (by omega) (by omega) e
  · by_cases e : i = k
    · simp only [if_pos e]
      exact pv_nil _
    · simp only [if_neg e]
      exact (h1.vals i j (by omega) hj).set hst.2 hcs
theorem Td.congr {V' : Nat → Nat → Value} {F' : Nat → Nat → Int → Int} {gs' : Nat → Nat} (h : Td B g n gs k V F W) (hV : ∀ a b, a < k → b < n → V' a b = V a b) (hF : ∀ a b, a < k → b < n → F' a b = F a b) (hg : ∀ a, a < k → gs' a = gs a) : Td B g n gs' k V' F' W := by
  refine ⟨?_, fun i hi => ?_, fun i j hi hj e => h.inj i j hi hj (by rw [← hg i hi, ← hg j hj]; exact e), fun i j hi hj => by rw [hV i j hi hj, hF i j hi hj]; exact h.vals i j hi hj⟩
  · have e : outT n n gs' k = outT n n gs k := List.map_congr_left fun b hb => by
      by_cases hb2 : b < k
      · rw [if_pos hb2, if_pos hb2, hg b hb2]
      · rw [if_neg hb2, if_neg hb2]
    rw [e]
    exact h.outer
  · have e2 : vaL n (V' i) = vaL n (V i) := List.map_congr_left fun b hb => hV i b hi (List.mem_range.1 hb)
    rw [hg i hi, e2]
    exact h.rows i hi
theorem made_nilS (n : Nat) : (madeCells (Value.slice none 0 0).cells (n * 1)).toList = vaL n fun _ => .slice none 0 0 := by
  have e : (Value.slice none 0 0).cells = #[Value.slice none 0 0] := rfl
  rw [e, toList_madeCells_one, Nat.mul_one]
  apply List.ext_getElem?
  intro j
  by_cases hj : j < n
  · rw [vaL_get _ _ _ hj]; simp [hj]
  · rw [List.getElem?_eq_none (by simp; omega), List.getElem?_eq_none (by rw [vaL_len]; omega)]
theorem infoTs : (Try.prog.info? 76).map (fun i => (i.zero, i.size, i.bytes)) = some (some (.slice none 0 0), 1, 24) := by kernel_rfl
theorem infoTss : (Try.prog.info? 74).map (fun i => (i.zero, i.size, i.bytes)) = some (some (.slice none 0 0), 1, 24) := by kernel_rfl
end Go.Proofs.Ytfceigcjonlhkaa.Poly
