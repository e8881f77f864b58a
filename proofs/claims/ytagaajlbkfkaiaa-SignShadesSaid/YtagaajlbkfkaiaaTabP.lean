/- Several texts of the proof, one behind the other. -/
import Derived.Test.YtagaajlbkfkaiaaInP
/- Tables of numbers that a call owns. -/
namespace Go.Proofs.Ytagaajlbkfkaiaa
open Go.RowKit

/-- The cells of a table's outer slice, its first k rows being laid. -/
def outC0 (m : Nat) (gs : Nat → Nat) (k : Nat) : List Value := (List.range m).map fun i => if i < k then .slice (some ⟨gs i, 0, none⟩) m m else .slice none 0 0
theorem outC0_len (m : Nat) (gs : Nat → Nat) (k : Nat) : (outC0 m gs k).length = m := by simp [outC0]
theorem outC0_get (m : Nat) (gs : Nat → Nat) (k i : Nat) (h : i < m) : (outC0 m gs k)[i]? = some (if i < k then .slice (some ⟨gs i, 0, none⟩) m m else .slice none 0 0) := by simp [outC0, h]
/-- A table of numbers, m by m, that a call owns: its first k rows. -/
structure TabAt (B gt m : Nat) (gs : Nat → Nat) (k : Nat) (T : Nat → Nat → Int) (W : World) : Prop where
  outer : W.ownsRow B 46 1 (.slice (some ⟨gt, 0, none⟩) m m) m (outC0 m gs k)
  rows : ∀ i, i < k → W.ownsRow B 3 1 (.slice (some ⟨gs i, 0, none⟩) m m) m (intsV (mapI m (T i)))
  inj : ∀ i j, i < k → j < k → gs i = gs j → i = j
theorem TabAt.any {B gt m k : Nat} {gs : Nat → Nat} {T : Nat → Nat → Int} {W W' : World} (h : TabAt B gt m gs k T W) (hg : W.grownBy W' none) : TabAt B gt m gs k T W' :=
  ⟨own_any h.outer hg, fun i hi => own_any (h.rows i hi) hg, h.inj⟩
theorem TabAt.cellO {B gt m k : Nat} {gs : Nat → Nat} {T : Nat → Nat → Int} {W : World} (h : TabAt B gt m gs k T W) (i : Nat) (hi : i < k) (hm : i < m) : W.cell? ⟨gt, i, none⟩ = some (.slice (some ⟨gs i, 0, none⟩) m m) := by
  rw [h.outer.cellAt i (by omega), outC0_get m gs k i hm, if_pos hi]
theorem TabAt.cellR {B gt m k : Nat} {gs : Nat → Nat} {T : Nat → Nat → Int} {W : World} (h : TabAt B gt m gs k T W) (i j : Nat) (hi : i < k) (hj : j < m) : W.cell? ⟨gs i, j, none⟩ = some (.int .i64 (T i j)) := by
  rw [(h.rows i hi).cellAt j (by omega), intsV_get _ j (by rw [mapI_len]; exact hj), mapI_at _ _ _ hj]
theorem TabAt.set {B gt m k : Nat} {gs : Nat → Nat} {T T' : Nat → Nat → Int} {W : World} (h : TabAt B gt m gs k T W) (i j : Nat) (x : Int) (hi : i < k) (hT : ∀ a b, a < k → b < m → T' a b = if a = i ∧ b = j then x else T a b) : TabAt B gt m gs k T' (W.setCell ⟨gs i, j, none⟩ (.int .i64 x)) ∧ W.grownBy (W.setCell ⟨gs i, j, none⟩ (.int .i64 x)) (some (gs i)) := by
  have hst := (h.rows i hi).stored j (.int .i64 x)
  rw [intsV_set] at hst
  refine ⟨⟨h.outer.kept hst.2 (own_ne h.outer (h.rows i hi) (by decide)), fun a ha => ?_, h.inj⟩, hst.2⟩
  by_cases e : a = i
  · subst e
    rw [mapI_set m (T a) (T' a) j x (fun b hb => by rw [hT a b ha hb]; by_cases e : b = j <;> simp [e])] at hst
    exact hst.1
  · have hr := (h.rows a ha).kept hst.2 (Or.inr (fun q => e (h.inj a i ha hi (Option.some.inj q))))
    rw [mapI_congr m (T' a) (T a) (fun b hb => by rw [hT a b ha hb, if_neg (fun q => e q.1)])]
    exact hr
/-- A row more. -/
theorem TabAt.more {B gt m k g : Nat} {gs : Nat → Nat} {T : Nat → Nat → Int} {W W1 : World} (h : TabAt B gt m gs k T W) (hg : W.grownBy W1 none) (hrow : W1.ownsRow B 3 1 (.slice (some ⟨g, 0, none⟩) m m) m (intsV (mapI m (T k)))) (hnew : W.heap.size ≤ g) :
    TabAt B gt m (fun i => if i = k then g else gs i) (k + 1) T (W1.setCell ⟨gt, k, none⟩ (.slice (some ⟨g, 0, none⟩) m m)) ∧ W1.grownBy (W1.setCell ⟨gt, k, none⟩ (.slice (some ⟨g, 0, none⟩) m m)) (some gt) := by
  have h1 := h.any hg
  have hst := h1.outer.stored k (.slice (some ⟨g, 0, none⟩) m m)
  have hlt : ∀ i, i < k → gs i < g := fun i hi => by have := ((h.rows i hi).lt (gs i) rfl).2; omega
  refine ⟨⟨?_, fun i hi => ?_, fun i j hi hj e => ?_⟩, hst.2⟩
  · have e : (outC0 m gs k).set k (.slice (some ⟨g, 0, none⟩) m m) = outC0 m (fun i => if i = k then g else gs i) (k + 1) := by
      apply List.ext_getElem?
      intro j
      by_cases hj : j < m
      · rw [outC0_get _ _ _ _ hj, List.getElem?_set, outC0_len]
        by_cases e : k = j
        · subst e; simp [hj]
        · rw [if_neg e, outC0_get _ _ _ _ hj]
          by_cases h2 : j < k
          · rw [if_pos h2, if_pos (by omega), if_neg (by omega)]
          · rw [if_neg h2, if_neg (by omega)]
      · rw [List.getElem?_eq_none (by simp [outC0_len]; omega), List.getElem?_eq_none (by simp [outC0_len]; omega)]
    rw [← e]
    exact hst.1
  · by_cases e : i = k
    · subst e
      simp only [if_true]
      exact hrow.kept hst.2 (own_ne hrow h1.outer (by decide))
    · simp only [if_neg e]
      have hr := h1.rows i (by omega)
      exact hr.kept hst.2 (own_ne hr h1.outer (by decide))
  · have e : (if i = k then g else gs i) = (if j = k then g else gs j) := e
    by_cases e1 : i = k
    · by_cases e2 : j = k
      · omega
      · rw [if_pos e1, if_neg e2] at e
        have := hlt j (by omega)
        omega
    · by_cases e2 : j = k
      · rw [if_neg e1, if_pos e2] at e
        have := hlt i (by omega)
        omega
      · rw [if_neg e1, if_neg e2] at e
        exact h.inj i j (by omega) (by omega) e
theorem made_nils (n : Nat) : (madeCells (Value.slice none 0 0).cells (n * 1)).toList = outC0 n (fun _ => 0) 0 := by
  have e : (Value.slice none 0 0).cells = #[Value.slice none 0 0] := rfl
  rw [e, toList_madeCells_one, Nat.mul_one]
  apply List.ext_getElem?
  intro j
  by_cases hj : j < n
  · rw [outC0_get _ _ _ _ hj, if_neg (by omega)]; simp [hj]
  · rw [List.getElem?_eq_none (by simp; omega), List.getElem?_eq_none (by simp [outC0_len]; omega)]
theorem TabAt.congr {B gt m k : Nat} {gs : Nat → Nat} {T T' : Nat → Nat → Int} {W : World} (h : TabAt B gt m gs k T W) (e : ∀ x y, x < k → y < m → T' x y = T x y) : TabAt B gt m gs k T' W :=
  ⟨h.outer, fun i hi => by rw [mapI_congr m (T' i) (T i) (fun y hy => e i y hi hy)]; exact h.rows i hi, h.inj⟩
theorem TabAt.low {B B' gt m k : Nat} {gs : Nat → Nat} {T : Nat → Nat → Int} {W : World} (h : TabAt B gt m gs k T W) (hB : B' ≤ B) : TabAt B' gt m gs k T W :=
  ⟨own_low h.outer hB, fun i hi => own_low (h.rows i hi) hB, h.inj⟩
end Go.Proofs.Ytagaajlbkfkaiaa
/- Tables of numbers whose rows lie in blocks of their own, and such under way (out of Q2 and Q4). -/
namespace Go.Proofs.Ytagaajlbkfkaiaa
open Go.RowKit

def hdr (n m : Nat) (gs : Nat → Nat) : List Value := (List.range n).map fun i => .slice (some ⟨gs i, 0, none⟩) m m
theorem hdr_len (n m : Nat) (gs : Nat → Nat) : (hdr n m gs).length = n := by simp [hdr]
theorem hdr_get (n m : Nat) (gs : Nat → Nat) (i : Nat) (h : i < n) : (hdr n m gs)[i]? = some (.slice (some ⟨gs i, 0, none⟩) m m) := by simp [hdr, h]
theorem hdr_ext {n m : Nat} {gs : Nat → Nat} {l : List Value} (hl : l.length = n) (h : ∀ i, i < n → l[i]? = some (.slice (some ⟨gs i, 0, none⟩) m m)) : l = hdr n m gs := by
  apply List.ext_getElem?
  intro j
  by_cases hj : j < n
  · rw [h j hj, hdr_get n m gs j hj]
  · rw [List.getElem?_eq_none (by omega), List.getElem?_eq_none (by rw [hdr_len]; omega)]
/-- A table of numbers, n rows of m, that a call owns. -/
structure TabO (B gt cap n m : Nat) (gs : Nat → Nat) (T : Nat → Nat → Int) (W : World) : Prop where
  outer : W.ownsRow B 46 1 (.slice (some ⟨gt, 0, none⟩) n cap) n (hdr n m gs)
  rows : ∀ i, i < n → W.ownsRow B 3 1 (.slice (some ⟨gs i, 0, none⟩) m m) m (intsV (mapI m (T i)))
  inj : ∀ i j, i < n → j < n → gs i = gs j → i = j
theorem TabO.any {B gt cap n m : Nat} {gs : Nat → Nat} {T : Nat → Nat → Int} {W W' : World} (h : TabO B gt cap n m gs T W) (hg : W.grownBy W' none) : TabO B gt cap n m gs T W' :=
  ⟨own_any h.outer hg, fun i hi => own_any (h.rows i hi) hg, h.inj⟩
theorem TabO.cellO {B gt cap n m : Nat} {gs : Nat → Nat} {T : Nat → Nat → Int} {W : World} (h : TabO B gt cap n m gs T W) (i : Nat) (hi : i < n) : W.cell? ⟨gt, i, none⟩ = some (.slice (some ⟨gs i, 0, none⟩) m m) := by
  rw [h.outer.cellAt i (by omega), hdr_get n m gs i hi]
theorem TabO.cellR {B gt cap n m : Nat} {gs : Nat → Nat} {T : Nat → Nat → Int} {W : World} (h : TabO B gt cap n m gs T W) (i j : Nat) (hi : i < n) (hj : j < m) : W.cell? ⟨gs i, j, none⟩ = some (.int .i64 (T i j)) := by
  rw [(h.rows i hi).cellAt j (by omega), intsV_get _ j (by rw [mapI_len]; exact hj), mapI_at _ _ _ hj]
theorem TabO.set {B gt cap n m : Nat} {gs : Nat → Nat} {T T' : Nat → Nat → Int} {W : World} (h : TabO B gt cap n m gs T W) (i j : Nat) (x : Int) (hi : i < n) (hT : ∀ a b, a < n → b < m → T' a b = if a = i ∧ b = j then x else T a b) :
    TabO B gt cap n m gs T' (W.setCell ⟨gs i, j, none⟩ (.int .i64 x)) ∧ W.grownBy (W.setCell ⟨gs i, j, none⟩ (.int .i64 x)) (some (gs i)) := by
  have hst := (h.rows i hi).stored j (.int .i64 x)
  rw [intsV_set] at hst
  refine ⟨⟨h.outer.kept hst.2 (own_ne h.outer (h.rows i hi) (by decide)), fun a ha => ?_, h.inj⟩, hst.2⟩
  by_cases e : a = i
  · subst e
    rw [mapI_set m (T a) (T' a) j x (fun b hb => by rw [hT a b ha hb]; by_cases e : b = j <;> simp [e])] at hst
    exact hst.1
  · have hr := (h.rows a ha).kept hst.2 (Or.inr (fun q => e (h.inj a i ha hi (Option.some.inj q))))
    rw [mapI_congr m (T' a) (T a) (fun b hb => by rw [hT a b ha hb, if_neg (fun q => e q.1)])]
    exact hr
theorem TabO.congr {B gt cap n m : Nat} {gs : Nat → Nat} {T T' : Nat → Nat → Int} {W : World} (h : TabO B gt cap n m gs T W) (e : ∀ x y, x < n → y < m → T' x y = T x y) : TabO B gt cap n m gs T' W :=
  ⟨h.outer, fun i hi => by rw [mapI_congr m (T' i) (T i) (fun y hy => e i y hi hy)]; exact h.rows i hi, h.inj⟩
/-- A table under way: its outer slice is whatever append gave. -/
structure TabP (B n m : Nat) (gs : Nat → Nat) (T : Nat → Nat → Int) (v : Value) (W : World) : Prop where
  outer : W.ownsRow B 46 1 v n (hdr n m gs)
  rows : ∀ i, i < n → W.ownsRow B 3 1 (.slice (some ⟨gs i, 0, none⟩) m m) m (intsV (mapI m (T i)))
  inj : ∀ i j, i < n → j < n → gs i = gs j → i = j
theorem TabP.any {B n m : Nat} {gs : Nat → Nat} {T : Nat → Nat → Int} {v : Value} {W W' : World} (h : TabP B n m gs T v W) (hg : W.grownBy W' none) : TabP B n m gs T v W' :=
  ⟨own_any h.outer hg, fun i hi => own_any (h.rows i hi) hg, h.inj⟩
theorem TabP.nil (B m : Nat) (gs : Nat → Nat) (T : Nat → Nat → Int) (W : World) : TabP B 0 m gs T (.slice none 0 0) W :=
  ⟨World.ownsRow_nil _ _ _ _, fun _ hi => absurd hi (Nat.not_lt_zero _), fun _ _ hi => absurd hi (Nat.not_lt_zero _)⟩
/-- What a store into another block leaves. -/
theorem TabP.other {B n m g : Nat} {gs : Nat → Nat} {T : Nat → Nat → Int} {v : Value} {W W' : World} (h : TabP B n m gs T v W) (hg : W.grownBy W' (some g)) (hv : v.ownBlock ≠ some g) (hr : ∀ i, i < n → gs i ≠ g) : TabP B n m gs T v W' :=
  ⟨h.outer.kept hg (Or.inr hv), fun i hi => (h.rows i hi).kept hg (Or.inr (fun e => hr i hi (Option.some.inj e))), h.inj⟩
theorem hdr_next (n m g : Nat) (gs : Nat → Nat) : hdr n m gs ++ [.slice (some ⟨g, 0, none⟩) m m] = hdr (n + 1) m (fun i => if i = n then g else gs i) := by
  unfold hdr
  rw [List.range_succ, List.map_append]
  congr 1
  · refine List.map_congr_left fun i hi => ?_
    have h : i ≠ n := by have := List.mem_range.1 hi; omega
    simp [h]
  · simp
/-- A row more, by append. -/
theorem TabP.more {B n m g : Nat} {gs : Nat → Nat} {T : Nat → Nat → Int} {v v' : Value} {W W' : World} (h : TabP B n m gs T v W) (hr : W.ownsRow B 3 1 (.slice (some ⟨g, 0, none⟩) m m) m (intsV (mapI m (T n)))) (hne : ∀ i, i < n → gs i ≠ g)
    (hg : W.grownBy W' v.ownBlock) (ho : W'.ownsRow B 46 1 v' (n + 1) (hdr n m gs ++ [.slice (some ⟨g, 0, none⟩) m m])) : TabP B (n + 1) m (fun i => if i = n then g else gs i) T v' W' := by
  refine ⟨by rw [← hdr_next]; exact ho, fun i hi => ?_, fun i j hi hj e => ?_⟩
  · by_cases e : i = n
    · subst e
      simp only [if_true]
      exact hr.kept hg (own_ne hr h.outer (by decide))
    · simp only [if_neg e]
      have := h.rows i (by omega)
      exact this.kept hg (own_ne this h.outer (by decide))
  · have e : (if i = n then g else gs i) = (if j = n then g else gs j) := e
    by_cases e1 : i = n
    · by_cases e2 : j = n
      · omega
      · rw [if_pos e1, if_neg e2] at e; exact absurd e.symm (hne j (by omega))
    · by_cases e2 : j = n
      · rw [if_neg e1, if_pos e2] at e; exact absurd e (hne i (by omega))
      · rw [if_neg e1, if_neg e2] at e; exact h.inj i j (by omega) (by omega) e
theorem TabP.whole {B n m : Nat} {gs : Nat → Nat} {T : Nat → Nat → Int} {v : Value} {W : World} (h : TabP B n m gs T v W) (hn : 0 < n) : ∃ gt cap, v = .slice (some ⟨gt, 0, none⟩) n cap ∧ n ≤ cap ∧ TabO B gt cap n m gs T W := by
  rcases h.outer.2 with ⟨_, h0⟩ | ⟨g, cap, cur, hv, _, _, hc, _⟩
  · omega
  · subst hv
    exact ⟨g, cap, rfl, hc, h.outer, h.rows, h.inj⟩
end Go.Proofs.Ytagaajlbkfkaiaa
