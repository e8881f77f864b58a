/- Visits: lists of them that a call owns; the walks of gauss.visits and gauss.signs. -/
import Derived.Test.YtdlmhcickcgnfaaW5
namespace Go.Proofs.Ytdlmhcickcgnfaa
open Go.RowKit

/-- The visit to which arc a leads. -/
def vis (C : List Cr) (a : Nat) : Nat × Bool := (toC C a, !decide (toS C a = 0))
def visL (C : List Cr) (l : List Nat) : List (Nat × Bool) := l.map (vis C)
def visM (C : List Cr) : List (List (Nat × Bool)) := (walksM C).map (visL C)
/-- Visits as cells. -/
def vflat (V : List (Nat × Bool)) : List Value := V.flatMap fun t => [.int .i64 (t.1 : Nat), .bool t.2]
theorem vflat_length (l : List (Nat × Bool)) : (vflat l).length = l.length * 2 := by
  induction l with
  | nil => rfl
  | cons t l ih => simp [vflat] at *; omega
theorem vflat_append (l m : List (Nat × Bool)) : vflat (l ++ m) = vflat l ++ vflat m := by simp [vflat]
theorem vflat_get (l : List (Nat × Bool)) (i : Nat) (hi : i < l.length) : (vflat l)[i * 2]? = some (.int .i64 ((l.getD i (0, false)).1 : Nat)) ∧ (vflat l)[i * 2 + 1]? = some (.bool (l.getD i (0, false)).2) := by
  induction l generalizing i with
  | nil => simp at hi
  | cons t l ih =>
    have e : vflat (t :: l) = .int .i64 (t.1 : Nat) :: .bool t.2 :: vflat l := rfl
    cases i with
    | zero => rw [e]; exact ⟨rfl, rfl⟩
    | succ i =>
      have := ih i (by simpa using hi)
      rw [e, show (i + 1) * 2 = i * 2 + 1 + 1 by omega]
      exact this
theorem vflat_set (l : List (Nat × Bool)) (i : Nat) (hi : i < l.length) (t : Nat × Bool) : ((vflat l).set (i * 2) (.int .i64 (t.1 : Nat))).set (i * 2 + 1) (.bool t.2) = vflat (l.set i t) := by
  induction l generalizing i with
  | nil => simp at hi
  | cons s l ih =>
    have e : vflat (s :: l) = .int .i64 (s.1 : Nat) :: .bool s.2 :: vflat l := rfl
    cases i with
    | zero => rw [e]; rfl
    | succ i =>
      have := ih i (by simpa using hi)
      have e2 : vflat ((s :: l).set (i + 1) t) = .int .i64 (s.1 : Nat) :: .bool s.2 :: vflat (l.set i t) := rfl
      rw [e, e2, show (i + 1) * 2 = i * 2 + 1 + 1 by omega, List.set_cons_succ, List.set_cons_succ, List.set_cons_succ, List.set_cons_succ, this]
theorem vflat_one (l : List (Nat × Bool)) : ∀ u ∈ vflat l, u.oneCell' = true := by
  intro u hu
  simp only [vflat, List.mem_flatMap] at hu
  obtain ⟨t, _, ht⟩ := hu
  simp at ht
  rcases ht with rfl | rfl <;> rfl
theorem vflat_zeros (n : Nat) : (madeCells #[Value.int .i64 0, .bool false] (n * 2)).toList = vflat (List.replicate n (0, false)) := by
  apply List.ext_getElem?
  intro j
  by_cases hj : j < n * 2
  · have g := vflat_get (List.replicate n (0, false)) (j / 2) (by simp; omega)
    have e : (List.replicate n ((0 : Nat), false)).getD (j / 2) (0, false) = (0, false) := by
      rw [List.getD_eq_getElem?_getD, List.getElem?_replicate]
      split <;> rfl
    rw [e] at g
    simp only [madeCells]
    rcases Nat.mod_two_eq_zero_or_one j with h | h
    · rw [show j / 2 * 2 = j by omega] at g
      rw [g.1]
      simp [hj, h]
    · rw [show j / 2 * 2 + 1 = j by omega] at g
      rw [g.2]
      simp [hj, h]
  · rw [List.getElem?_eq_none (by simp [madeCells]; omega), List.getElem?_eq_none (by rw [vflat_length]; simp; omega)]
/-- What the loop has done behind i visits. -/
def partTo (C : List Cr) (l : List Nat) (i : Nat) : List (Nat × Bool) := visL C (l.take i) ++ List.replicate (l.length - i) (0, false)
theorem part_len (C : List Cr) (l : List Nat) (i : Nat) (h : i ≤ l.length) : (partTo C l i).length = l.length := by simp [partTo, visL]; omega
theorem part_next (C : List Cr) (l : List Nat) (i : Nat) (h : i < l.length) : (partTo C l i).set i (vis C (l.getD i 0)) = partTo C l (i + 1) := by
  unfold partTo visL
  rw [List.set_append_right _ _ (by simp; omega)]
  have e : l.length - i = (l.length - (i + 1)) + 1 := by omega
  have e2 : l.take (i + 1) = l.take i ++ [l.getD i 0] := by
    rw [List.take_add_one, List.getD_eq_getElem?_getD, List.getElem?_eq_getElem h]
    rfl
  rw [e2, List.map_append, e, List.replicate_succ]
  simp [Nat.min_eq_left (Nat.le_of_lt h)]
theorem part_all (C : List Cr) (l : List Nat) : partTo C l l.length = visL C l := by simp [partTo]
theorem own_stv {w : World} {B e n g cap i : Nat} {l : List (Nat × Bool)} {t : Nat × Bool} (h : w.ownsRow B e 2 (.slice (some ⟨g, 0, none⟩) n cap) n (vflat l)) (hi : i < l.length) : (st2 w g (i * 2) (.int .i64 (t.1 : Nat)) (.bool t.2)).ownsRow B e 2 (.slice (some ⟨g, 0, none⟩) n cap) n (vflat (l.set i t)) := by
  have h1 := (h.stored (i * 2) (.int .i64 (t.1 : Nat))).1
  have h2 := (h1.stored (i * 2 + 1) (.bool t.2)).1
  rw [vflat_set l i hi t] at h2
  exact h2
/-- The walks as one looks at them. -/
def WksAt (w : World) (v : Value) (L : List (List Nat)) : Prop := ∃ ys : List Value, ys.length = L.length ∧ Slots w w.heap.size v ys ∧ ∀ j, j < L.length → Slots w w.heap.size (ys.getD j (.bool false)) (nats (L.getD j []))
theorem NatsOwn.wks {w : World} {B : Nat} {v : Value} {L : List (List Nat)} (h : NatsOwn w B v L) : WksAt w v L := by
  obtain ⟨ys, h1, h2, h3⟩ := h
  exact ⟨ys, h1, slots_of_own h2, fun j hj => slots_of_own (h3 j hj)⟩
theorem WksAt.on {w w' : World} {v : Value} {L : List (List Nat)} (h : WksAt w v L) (hb : Below w.heap.size w w') : WksAt w' v L := by
  obtain ⟨ys, h1, h2, h3⟩ := h
  exact ⟨ys, h1, (h2.on hb).mono hb.size, fun j hj => ((h3 j hj).on hb).mono hb.size⟩
theorem walksM_facts {C : List Cr} {loops : Int} (hm : mayD C loops = true) : (walksM C).length ≤ 2 * C.length ∧ ∀ j, j < (walksM C).length → 0 < ((walksM C).getD j []).length ∧ ((walksM C).getD j []).length ≤ 2 * C.length + 1 ∧ ∀ i, i < ((walksM C).getD j []).length → 1 ≤ ((walksM C).getD j []).getD i 0 ∧ ((walksM C).getD j []).getD i 0 ≤ 2 * C.length := by
  refine ⟨walksTo_count _ _ _, fun j hj => ?_⟩
  have hmem : (walksM C).getD j [] ∈ walksM C := by
    rw [List.getD_eq_getElem?_getD, List.getElem?_eq_getElem hj]
    exact List.getElem_mem hj
  have h := walksTo_mem (nx_closed hm) (2 * C.length) (Nat.le_refl _) _ hmem
  clear hmem
  generalize (walksM C).getD j [] = l at h
  refine ⟨List.length_pos_iff.2 h.1, h.2.1, fun i hi => h.2.2 _ ?_⟩
  rw [List.getD_eq_getElem?_getD, List.getElem?_eq_getElem hi]
  exact List.getElem_mem hi

end Go.Proofs.Ytdlmhcickcgnfaa
