/- Burau's tables at work; the walk of closure.unit. -/
import Derived.Test.YtfceigcjonlhkaaBT3
import Derived.Test.YtfceigcjonlhkaaW5P
namespace Go.Proofs.Ytfceigcjonlhkaa.Poly
open Go.RowKit Go.Maps

theorem infoW : (Try.prog.info? 180).map (fun i => (i.zero, i.size, i.bytes)) = some (some (.map none), 1, 8) := by kernel_rfl
theorem infoWs : (Try.prog.info? 179).map (fun i => (i.zero, i.size, i.bytes)) = some (some (.slice none 0 0), 1, 24) := by kernel_rfl
/-- The cells of a row of values. -/
def vaL (n : Nat) (f : Nat → Value) : List Value := (List.range n).map f
theorem vaL_get (n : Nat) (f : Nat → Value) (j : Nat) (h : j < n) : (vaL n f)[j]? = some (f j) := by simp [vaL, h]
theorem vaL_len (n : Nat) (f : Nat → Value) : (vaL n f).length = n := by simp [vaL]
theorem vaL_set (n : Nat) (f g : Nat → Value) (j : Nat) (u : Value) (h : ∀ i, i < n → g i = if i = j then u else f i) : (vaL n f).set j u = vaL n g := by
  apply List.ext_getElem?
  intro i
  rw [List.getElem?_set, vaL_len]
  by_cases hi : i < n
  · rw [vaL_get n g i hi, h i hi]
    by_cases e : j = i
    · subst e; simp [hi]
    · rw [if_neg e, if_neg (fun x => e x.symm), vaL_get n f i hi]
  · rw [List.getElem?_eq_none (show (vaL n g).length ≤ i by rw [vaL_len]; omega)]
    split
    · rw [if_neg (by omega)]
    · rw [List.getElem?_eq_none (by rw [vaL_len]; omega)]
/-- A table of polynomials at work, n by n, its first k rows laid. -/
structure Bu (B g n N K : Nat) (gs : Nat → Nat) (k : Nat) (V : Nat → Nat → Value) (F : Nat → Nat → Int → Int) (W : World) : Prop where
  outer : W.ownsRow B 179 1 (.slice (some ⟨g, 0, none⟩) n n) n (outT n n gs k)
  rows : ∀ i, i < k → W.ownsRow B 180 1 (.slice (some ⟨gs i, 0, none⟩) n n) n (vaL n (V i))
  inj : ∀ i j, i < k → j < k → gs i = gs j → i = j
  vals : ∀ i j, i < k → j < n → WkV W W.heap.size (V i j) N K (F i j)
variable {B g n N K k : Nat} {gs : Nat → Nat} {V : Nat → Nat → Value} {F : Nat → Nat → Int → Int} {W W' W1 : World}
theorem Bu.any (h : Bu B g n N K gs k V F W) (hb : Below W.heap.size W W') : Bu B g n N K gs k V F W' :=
  ⟨own_any h.outer (grown_below hb none), fun i hi => own_any (h.rows i hi) (grown_below hb none), h.inj, fun i j hi hj => ((h.vals i j hi hj).on hb).mono hb.size (Nat.le_refl _) (Nat.le_refl _)⟩
theorem row_cells {w : World} {B e s n g c : Nat} {xs : List Value} (h : w.ownsRow B e s (.slice (some ⟨g, 0, none⟩) n c) n xs) : ∃ cs, w.heap[g]? = some (.cells cs e (0, 0)) := by
  rcases h.2 with ⟨h1, -⟩ | ⟨q, cap, cur, h1, h2, h3, -⟩
  · cases h1
  · injection h1 with e1 e2 e3
    obtain rfl : g = q := by injection e1 with e1; injection e1
    exact ⟨cur, h3⟩
theorem Bu.cellO (h : Bu B g n N K gs k V F W) (i : Nat) (hi : i < k) (hn : i < n) : W.cell? ⟨g, i, none⟩ = some (.slice (some ⟨gs i, 0, none⟩) n n) := by
  rw [h.outer.cellAt i (by omega), outT_get n n gs k i hn, if_pos hi]
theorem Bu.cellR (h : Bu B g n N K gs k V F W) (i j : Nat) (hi : i < k) (hj : j < n) : W.cell? ⟨gs i, j, none⟩ = some (V i j) := by
  rw [(h.rows i hi).cellAt j (by omega), vaL_get _ _ _ hj]
theorem Bu.lt (h : Bu B g n N K gs k V F W) : (B ≤ g ∧ g < W.heap.size) ∧ ∀ i, i < k → B ≤ gs i ∧ gs i < W.heap.size := ⟨h.outer.lt g rfl, fun i hi => (h.rows i hi).lt (gs i) rfl⟩
theorem Bu.kept {q : Nat} (h : Bu B g n N K gs k V F W) (hg : W.grownBy W' (some q)) (h1 : g ≠ q) (h2 : ∀ i, i < k → gs i ≠ q) {cs : Array Value} {e : TypeId} {z : Nat × Nat} (hc : W.heap[q]? = some (.cells cs e z)) : Bu B g n N K gs k V F W' :=
  ⟨h.outer.kept hg (Or.inr fun e => h1 (Option.some.inj e)), fun i hi => (h.rows i hi).kept hg (Or.inr fun e => h2 i hi (Option.some.inj e)), h.inj, fun i j hi hj => ((h.vals i j hi hj).set hg hc).mono hg.size (Nat.le_refl _) (Nat.le_refl _)⟩
/-- A value of a row is stored. -/
theorem Bu.set {V' : Nat → Nat → Value} {F' : Nat → Nat → Int → Int} (h : Bu B g n N K gs k V F W) (i j : Nat) (u : Value) (hi : i < k) (hV : ∀ a b, a < k → b < n → V' a b = if a = i ∧ b = j then u else V a b) (hF : ∀ a b, a < k → b < n → ¬ (a = i ∧ b = j) → F' a b = F a b) (hu : j < n → WkV W W.heap.size u N K (F' i j)) :
    Bu B g n N K gs k V' F' (W.setCell ⟨gs i, j, none⟩ u) ∧ W.grownBy (W.setCell ⟨gs i, j, none⟩ u) (some (gs i)) := by
  have hst := (h.rows i hi).stored j u
  obtain ⟨cs, hcs⟩ := row_cells (h.rows i hi)
  refine ⟨⟨h.outer.kept hst.2 (own_ne h.outer (h.rows i hi) (by decide)), fun a ha => ?_, h.inj, fun a b ha hb => ?_⟩, hst.2⟩
  · by_cases e : a = i
    · subst e
      rw [vaL_set n (V a) (V' a) j u (fun b hb => by rw [hV a b ha hb]; by_cases e : b = j <;> simp [e])] at hst
      exact hst.1
    · have hr := (h.rows a ha).kept hst.2 (Or.inr (fun q => e (h.inj a i ha hi (Option.some.inj q))))
      have e2 : vaL n (V' a) = vaL n (V a) := List.map_congr_left fun b hb => by rw [hV a b ha (List.mem_range.1 hb), if_neg (fun q => e q.1)]
      rw [e2]
      exact hr
  · by_cases e : a = i ∧ b = j
    · rw [hV a b ha hb, if_pos e, e.1, e.2]
      exact ((hu (by rw [← e.2]; exact hb)).set hst.2 hcs).mono hst.2.size (Nat.le_refl _) (Nat.le_refl _)
    · rw [hV a b ha hb, if_neg e, hF a b ha hb e]
      exact ((h.vals a b ha hb).set hst.2 hcs).mono hst.2.size (Nat.le_refl _) (Nat.le_refl _)
/-- A row more, of nothing. -/
theorem Bu.more {q : Nat} (h : Bu B g n N K gs k V F W) (hb : Below W.heap.size W W1) (hrow : W1.ownsRow B 180 1 (.slice (some ⟨q, 0, none⟩) n n) n (vaL n fun _ => .map none)) (hnew : W.heap.size ≤ q) :
    Bu B g n N K (fun i => if i = k then q else gs i) (k + 1) (fun i j => if i = k then .map none else V i j) (fun i j => if i = k then fun _ => 0 else F i j) (W1.setCell ⟨g, k, none⟩ (.slice (some ⟨q, 0, none⟩) n n)) ∧ W1.grownBy (W1.setCell ⟨g, k, none⟩ (.slice (some ⟨q, 0, none⟩) n n)) (some g) := by
  have h1 := h.any hb
  have hst := h1.outer.stored k (.slice (some ⟨q, 0, none⟩) n n)
  obtain ⟨cs, hcs⟩ := row_cells h1.outer
  have hlt : ∀ i, i < k → gs i < q := fun i hi => by have := ((h.rows i hi).lt (gs i) rfl).2; omega
  refine ⟨⟨?_, fun i hi => ?_, fun i j hi hj e => ?_, fun i j hi hj => ?_⟩, hst.2⟩
  · have e : (outT n n gs k).set k (.slice (some ⟨q, 0, none⟩) n n) = outT n n (fun i => if i = k then q else gs i) (k + 1) := by
      apply List.ext_getElem?
      intro j
      by_cases hj : j < n
      · rw [outT_get _ _ _ _ _ hj, List.getElem?_set, outT_len]
        by_cases e : k = j
        · subst e; simp [hj]
        · rw [if_neg e, outT_get _ _ _ _ _ hj]
          by_cases h2 : j < k
          · rw [if_pos h2, if_pos (by omega), if_neg (by omega)]
          · rw [if_neg h2, if_neg (by omega)]
      · rw [List.getElem?_eq_none (by simp [outT_len]; omega), List.getElem?_eq_none (by simp [outT_len]; omega)]
    rw [← e]
    exact hst.1
  · by_cases e : i = k
    · subst e
      simp only [if_true]
      exact hrow.kept hst.2 (own_ne hrow h1.outer (by decide))
    · simp only [if_neg e]
      have hr := h1.rows i (by omega)
      exact hr.kept hst.2 (own_ne hr h1.outer (by decide))
  · have e : (if i = k then q else gs i) = (if j = k then q else gs j) := e
    by_cases e1 : i = k
    · by_cases e2 : j = k
      · omega
      · rw [if_pos e1, if_neg e2] at e
        have := hlt j (by omega)
        omega
    · by_cases e2 : j = k
      · rw [if_neg e1, if_pos e2] at e
        have := hlt i (by omega)
        omega
      · rw [if_neg e1, if_neg e2] at e
        exact h.inj i j (by omega) (by omega) e
  · by_cases e : i = k
    · simp only [if_pos e]
      exact Or.inl ⟨rfl, fun _ => rfl⟩
    · simp only [if_neg e]
      exact ((h1.vals i j (by omega) hj).set hst.2 hcs).mono hst.2.size (Nat.le_refl _) (Nat.le_refl _)
theorem Bu.congr {V' : Nat → Nat → Value} {F' : Nat → Nat → Int → Int} {gs' : Nat → Nat} (h : Bu B g n N K gs k V F W) (hV : ∀ a b, a < k → b < n → V' a b = V a b) (hF : ∀ a b, a < k → b < n → F' a b = F a b) (hg : ∀ a, a < k → gs' a = gs a) : Bu B g n N K gs' k V' F' W := by
  refine ⟨?_, fun i hi => ?_, fun i j hi hj e => h.inj i j hi hj (by rw [← hg i hi, ← hg j hj]; exact e), fun i j hi hj => by rw [hV i j hi hj, hF i j hi hj]; exact h.vals i j hi hj⟩
  · have e : outT n n gs' k = outT n n gs k := List.map_congr_left fun b hb => by
      by_cases hb2 : b < k
      · rw [if_pos hb2, if_pos hb2, hg b hb2]
      · rw [if_neg hb2, if_neg hb2]
    rw [e]
    exact h.outer
  · have e2 : vaL n (V' i) = vaL n (V i) := List.map_congr_left fun b hb => hV i b hi (List.mem_range.1 hb)
    rw [hg i hi, e2]
    exact h.rows i hi
theorem Bu.mono {N' K' : Nat} (h : Bu B g n N K gs k V F W) (hN : N ≤ N') (hK : K ≤ K') : Bu B g n N' K' gs k V F W := ⟨h.outer, h.rows, h.inj, fun i j hi hj => (h.vals i j hi hj).mono (Nat.le_refl _) hN hK⟩
theorem made_nilM (n : Nat) : (madeCells (Value.map none).cells (n * 1)).toList = vaL n fun _ => .map none := by
  have e : (Value.map none).cells = #[Value.map none] := rfl
  rw [e, toList_madeCells_one, Nat.mul_one]
  apply List.ext_getElem?
  intro j
  by_cases hj : j < n
  · rw [vaL_get _ _ _ hj]; simp [hj]
  · rw [List.getElem?_eq_none (by simp; omega), List.getElem?_eq_none (by rw [vaL_len]; omega)]
end Go.Proofs.Ytfceigcjonlhkaa.Poly
