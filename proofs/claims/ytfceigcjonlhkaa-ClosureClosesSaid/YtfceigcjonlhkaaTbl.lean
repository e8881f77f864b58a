/- Tables of numbers that a call owns, n rows of m. -/
import Derived.Test.YtfceigcjonlhkaaIn
namespace Go.Proofs.Ytfceigcjonlhkaa
open Go.RowKit

/-- The cells of a table's outer slice, its first k rows being laid. -/
def outT (n m : Nat) (gs : Nat → Nat) (k : Nat) : List Value := (List.range n).map fun i => if i < k then .slice (some ⟨gs i, 0, none⟩) m m else .slice none 0 0
theorem outT_len (n m : Nat) (gs : Nat → Nat) (k : Nat) : (outT n m gs k).length = n := by simp [outT]
theorem outT_get (n m : Nat) (gs : Nat → Nat) (k i : Nat) (h : i < n) : (outT n m gs k)[i]? = some (if i < k then .slice (some ⟨gs i, 0, none⟩) m m else .slice none 0 0) := by simp [outT, h]
/-- A table of numbers, n by m, that a call owns: its first k rows. -/
structure Tb (B gt n m : Nat) (gs : Nat → Nat) (k : Nat) (T : Nat → Nat → Int) (W : World) : Prop where
  outer : W.ownsRow B 53 1 (.slice (some ⟨gt, 0, none⟩) n n) n (outT n m gs k)
  rows : ∀ i, i < k → W.ownsRow B 3 1 (.slice (some ⟨gs i, 0, none⟩) m m) m (intsV (mapI m (T i)))
  inj : ∀ i j, i < k → j < k → gs i = gs j → i = j
theorem Tb.any {B gt n m k : Nat} {gs : Nat → Nat} {T : Nat → Nat → Int} {W W' : World} (h : Tb B gt n m gs k T W) (hg : W.grownBy W' none) : Tb B gt n m gs k T W' :=
  ⟨own_any h.outer hg, fun i hi => own_any (h.rows i hi) hg, h.inj⟩
theorem Tb.cellO {B gt n m k : Nat} {gs : Nat → Nat} {T : Nat → Nat → Int} {W : World} (h : Tb B gt n m gs k T W) (i : Nat) (hi : i < k) (hm : i < n) : W.cell? ⟨gt, i, none⟩ = some (.slice (some ⟨gs i, 0, none⟩) m m) := by
  rw [h.outer.cellAt i (by omega), outT_get n m gs k i hm, if_pos hi]
theorem Tb.cellR {B gt n m k : Nat} {gs : Nat → Nat} {T : Nat → Nat → Int} {W : World} (h : Tb B gt n m gs k T W) (i j : Nat) (hi : i < k) (hj : j < m) : W.cell? ⟨gs i, j, none⟩ = some (.int .i64 (T i j)) := by
  rw [(h.rows i hi).cellAt j (by omega), intsV_get _ j (by rw [mapI_len]; exact hj), mapI_at _ _ _ hj]
theorem Tb.set {B gt n m k : Nat} {gs : Nat → Nat} {T T' : Nat → Nat → Int} {W : World} (h : Tb B gt n m gs k T W) (i j : Nat) (x : Int) (hi : i < k) (hT : ∀ a b, a < k → b < m → T' a b = if a = i ∧ b = j then x else T a b) : Tb B gt n m gs k T' (W.setCell ⟨gs i, j, none⟩ (.int .i64 x)) ∧ W.grownBy (W.setCell ⟨gs i, j, none⟩ (.int .i64 x)) (some (gs i)) := by
  have hst := (h.rows i hi).stored j (.int .i64 x)
  rw [intsV_set] at hst
  refine ⟨⟨h.outer.kept hst.2 (own_ne h.outer (h.rows i hi) (by decide)), fun a ha => ?_, h.inj⟩, hst.2⟩
  by_cases e : a = i
  · subst e
    rw [mapI_set m (T a) (T' a) j x (fun b hb => by rw [hT a b ha hb]; by_cases e : b = j <;> simp [e])] at hst
    exact hst.1
  · have hr := (h.rows a ha).kept hst.2 (Or.inr (fun q => e (h.inj a i ha hi (Option.some.inj q))))
    rw [mapI_congr m (T' a) (T a) (fun b hb => by rw [hT a b ha hb, if_neg (fun q => e q.1)])]
    exact hr
/-- A row more. -/
theorem Tb.more {B gt n m k g : Nat} {gs : Nat → Nat} {T : Nat → Nat → Int} {W W1 : World} (h : Tb B gt n m gs k T W) (hg : W.grownBy W1 none) (hrow : W1.ownsRow B 3 1 (.slice (some ⟨g, 0, none⟩) m m) m (intsV (mapI m (T k)))) (hnew : W.heap.size ≤ g) :
    Tb B gt n m (fun i => if i = k then g else gs i) (k + 1) T (W1.setCell ⟨gt, k, none⟩ (.slice (some ⟨g, 0, none⟩) m m)) ∧ W1.grownBy (W1.setCell ⟨gt, k, none⟩ (.slice (some ⟨g, 0, none⟩) m m)) (some gt) := by
  have h1 := h.any hg
  have hst := h1.outer.stored k (.slice (some ⟨g, 0, none⟩) m m)
  have hlt : ∀ i, i < k → gs i < g := fun i hi => by have := ((h.rows i hi).lt (gs i) rfl).2; omega
  refine ⟨⟨?_, fun i hi => ?_, fun i j hi hj e => ?_⟩, hst.2⟩
  · have e : (outT n m gs k).set k (.slice (some ⟨g, 0, none⟩) m m) = outT n m (fun i => if i = k then g else gs i) (k + 1) := by
      apply List.ext_getElem?
      intro j
      by_cases hj : j < n
      · rw [outT_get _ _ _ _ _ hj, List.getElem?_set, outT_len]
        by_cases e : k = j
        · subst e; simp [hj]
        · rw [if_neg e, outT_get _ _ _ _ _ hj]
          by_cases h2 : j < k
          · rw [if_pos h2, if_pos (by omega), if_neg (by omega)]
          · rw [if_neg h2, if_neg (by omega)]
      · rw [List.getElem?_eq_none (by simp [outT_len]; omega), List.getElem?_eq_none (by simp [outT_len]; omega)]
    rw [← e]
    exact hst.1
  · by_cases e : i = k
    · subst e
      simp only [if_true]
      exact hrow.kept hst.2 (own_ne hrow h1.outer (by decide))
    · simp only [if_neg e]
      have hr := h1.rows i (by omega)
      exact hr.kept hst.2 (own_ne hr h1.outer (by decide))
  · have e : (if i = k then g else gs i) = (if j = k then g else gs j) := e
    by_cases e1 : i = k
    · by_cases e2 : j = k
      · omega
      · rw [if_pos e1, if_neg e2] at e
        have := hlt j (by omega)
        omega
    · by_cases e2 : j = k
      · rw [if_neg e1, if_pos e2] at e
        have := hlt i (by omega)
        omega
      · rw [if_neg e1, if_neg e2] at e
        exact h.inj i j (by omega) (by omega) e
theorem made_nilsT (n m : Nat) : (madeCells (Value.slice none 0 0).cells (n * 1)).toList = outT n m (fun _ => 0) 0 := by
  have e : (Value.slice none 0 0).cells = #[Value.slice none 0 0] := rfl
  rw [e, toList_madeCells_one, Nat.mul_one]
  apply List.ext_getElem?
  intro j
  by_cases hj : j < n
  · rw [outT_get _ _ _ _ _ hj, if_neg (by omega)]; simp [hj]
  · rw [List.getElem?_eq_none (by simp; omega), List.getElem?_eq_none (by simp [outT_len]; omega)]
theorem Tb.congr {B gt n m k : Nat} {gs : Nat → Nat} {T T' : Nat → Nat → Int} {W : World} (h : Tb B gt n m gs k T W) (e : ∀ x y, x < k → y < m → T' x y = T x y) : Tb B gt n m gs k T' W :=
  ⟨h.outer, fun i hi => by rw [mapI_congr m (T' i) (T i) (fun y hy => e i y hi hy)]; exact h.rows i hi, h.inj⟩
theorem Tb.kept {B gt n m k g : Nat} {gs : Nat → Nat} {T : Nat → Nat → Int} {W W' : World} (h : Tb B gt n m gs k T W) (hg : W.grownBy W' (some g)) (h1 : gt ≠ g) (h2 : ∀ i, i < k → gs i ≠ g) : Tb B gt n m gs k T W' :=
  ⟨h.outer.kept hg (Or.inr fun e => h1 (Option.some.inj e)), fun i hi => (h.rows i hi).kept hg (Or.inr fun e => h2 i hi (Option.some.inj e)), h.inj⟩
theorem Tb.lt {B gt n m k : Nat} {gs : Nat → Nat} {T : Nat → Nat → Int} {W : World} (h : Tb B gt n m gs k T W) : (B ≤ gt ∧ gt < W.heap.size) ∧ ∀ i, i < k → B ≤ gs i ∧ gs i < W.heap.size := ⟨h.outer.lt gt rfl, fun i hi => (h.rows i hi).lt (gs i) rfl⟩
theorem Tb.ne {B gt n m k i : Nat} {gs : Nat → Nat} {T : Nat → Nat → Int} {W : World} (h : Tb B gt n m gs k T W) {B' gt' n' m' k' : Nat} {gs' : Nat → Nat} {T' : Nat → Nat → Int} (h' : Tb B' gt' n' m' gs' k' T' W) (hi : i < k) : gs i ≠ gt' := fun e => by
  rcases own_ne (h.rows i hi) h'.outer (by decide) with h1 | h1
  · cases h1
  · exact h1 (by rw [e]; rfl)
end Go.Proofs.Ytfceigcjonlhkaa
