/- Raw tables; small at whatever row of them; a slice that is cut; a list whose coefficients are changed. -/
import Derived.Test.YthbhllomikfbhaaDoorXF1
namespace Go.Proofs.YthbhllomikfbhaaDoor.Poly
open Go.RowKit Go.Maps

/-- A row of raw numbers. -/
def RawRow (w : World) (B : Nat) (v : Value) : Prop :=
  ∃ a n c, v = .slice a n c ∧ n ≤ maxLen ∧ (0 < n → ∃ b off X, a = some ⟨b, off, none⟩ ∧ b < B ∧ Ints w b off n X)
/-- A table of raw numbers. -/
def RawT (w : World) (B : Nat) (v : Value) : Prop :=
  ∃ xs : List Value, Slots w B v xs ∧ xs.length ≤ maxLen ∧ ∀ i, i < xs.length → RawRow w B (xs.getD i (.bool false))

theorem RawRow.on {w w' : World} {B : Nat} {v : Value} (h : RawRow w B v) (hb : Below B w w') : RawRow w' B v := by
  obtain ⟨a, n, c, rfl, hn, g⟩ := h
  refine ⟨a, n, c, rfl, hn, fun h0 => ?_⟩
  obtain ⟨b, off, X, rfl, hlt, hX⟩ := g h0
  exact ⟨b, off, X, rfl, hlt, fun i hi => ⟨bcell hb hlt (hX i hi).1, (hX i hi).2⟩⟩
theorem RawRow.mono {w : World} {B B' : Nat} {v : Value} (h : RawRow w B v) (hB : B ≤ B') : RawRow w B' v := by
  obtain ⟨a, n, c, rfl, hn, g⟩ := h
  refine ⟨a, n, c, rfl, hn, fun h0 => ?_⟩
  obtain ⟨b, off, X, rfl, hlt, hX⟩ := g h0
  exact ⟨b, off, X, rfl, Nat.lt_of_lt_of_le hlt hB, hX⟩
theorem RawT.up {w w' : World} {v : Value} (h : RawT w w.heap.size v) (hb : Below w.heap.size w w') : RawT w' w'.heap.size v := by
  obtain ⟨xs, h1, h2, h3⟩ := h
  exact ⟨xs, (h1.on hb).mono hb.size, h2, fun i hi => ((h3 i hi).on hb).mono hb.size⟩

theorem small_any (v : Value) (w : World) (h : RawRow w w.heap.size v) :
    Calls Tryd.prog 15 #[v] w fun e w' => ∃ v l, e = .returned v ∧ w'.ownsRow w.heap.size 36 2 v l.length (flat l) ∧ Fine l 4 9 ∧ Below w.heap.size w w' := by
  obtain ⟨a, n, c, rfl, hn, g⟩ := h
  rcases Nat.eq_zero_or_pos n with h0 | h0
  · subst h0
    exact ksmall_none a c w
  · obtain ⟨b, off, X, rfl, hlt, hX⟩ := g h0
    exact ksmall_some b off c n X w hn hlt hX

/-- A shorter slice of what is owned. -/
theorem own_cut {w : World} {B e s n k cap : Nat} {a : Option Addr} {xs : List Value} (h : w.ownsRow B e s (.slice a n cap) n xs) (hk : k ≤ n) (hp : 0 < k) : w.ownsRow B e s (.slice a k cap) k (xs.take (k * s)) := by
  rcases h.2 with ⟨h1, h2⟩ | ⟨g, cap', cur, h1, h2, h3, h4, h5, h6, h7⟩
  · omega
  · injection h1 with e1 e2 e3
    subst e1
    have hks : k * s ≤ n * s := Nat.mul_le_mul_right _ hk
    refine ⟨by rw [List.length_take, h.1]; omega, .inr ⟨g, cap, cur, rfl, h2, h3, by omega, by omega, by rw [e3]; exact h6, ?_⟩⟩
    rw [← h7, List.take_take, Nat.min_eq_left hks]

theorem flat_take (l : List (Int × Int)) (k : Nat) : (flat l).take (k * 2) = flat (l.take k) := by
  induction l generalizing k with
  | nil => simp [flat]
  | cons t l ih =>
    cases k with
    | zero => simp [flat]
    | succ k =>
      have e : flat (t :: l) = .int .i64 t.1 :: .int .i64 t.2 :: flat l := rfl
      have e2 : (t :: l).take (k + 1) = t :: l.take k := rfl
      have e3 : flat (t :: l.take k) = .int .i64 t.1 :: .int .i64 t.2 :: flat (l.take k) := rfl
      rw [e, e2, e3, show (k + 1) * 2 = k * 2 + 1 + 1 by omega, List.take_succ_cons, List.take_succ_cons, ih]
/-- Another coefficient at place i. -/
def setC (l : List (Int × Int)) (i : Nat) (c : Int) : List (Int × Int) := l.set i ((l.getD i (0, 0)).1, c)
theorem setC_length (l : List (Int × Int)) (i : Nat) (c : Int) : (setC l i c).length = l.length := by simp [setC]
theorem flat_setC (l : List (Int × Int)) (i : Nat) (c : Int) (hi : i < l.length) : (flat l).set (i * 2 + 1) (.int .i64 c) = flat (setC l i c) := by
  induction l generalizing i with
  | nil => simp at hi
  | cons t l ih =>
    have e : flat (t :: l) = .int .i64 t.1 :: .int .i64 t.2 :: flat l := rfl
    cases i with
    | zero =>
      have e2 : setC (t :: l) 0 c = (t.1, c) :: l := rfl
      rw [e, e2]
      rfl
    | succ i =>
      have e2 : setC (t :: l) (i + 1) c = t :: setC l i c := rfl
      have e3 : flat (t :: setC l i c) = .int .i64 t.1 :: .int .i64 t.2 :: flat (setC l i c) := rfl
      rw [e, e2, e3, show (i + 1) * 2 + 1 = i * 2 + 1 + 1 + 1 by omega, List.set_cons_succ, List.set_cons_succ, ih i (by simpa using hi)]
theorem flat_cellC (l : List (Int × Int)) (i : Nat) (hi : i < l.length) : (flat l)[i * 2 + 1]? = some (.int .i64 (l.getD i (0, 0)).2) := by
  induction l generalizing i with
  | nil => simp at hi
  | cons t l ih =>
    have e : flat (t :: l) = .int .i64 t.1 :: .int .i64 t.2 :: flat l := rfl
    cases i with
    | zero => rw [e]; rfl
    | succ i =>
      have := ih i (by simpa using hi)
      rw [e, show (i + 1) * 2 + 1 = i * 2 + 1 + 1 + 1 by omega, List.getElem?_cons_succ, List.getElem?_cons_succ, this]
      rfl
theorem setC_get (l : List (Int × Int)) (i j : Nat) (c : Int) (hi : i < l.length) : (setC l i c).getD j (0, 0) = if i = j then ((l.getD i (0, 0)).1, c) else l.getD j (0, 0) := by
  unfold setC List.getD
  rw [List.getElem?_set]
  by_cases h : i = j
  · subst h
    simp [hi]
  · simp [h]

/-- What the loop has done behind i terms. -/
structure FixTo (l m : List (Int × Int)) (i : Nat) : Prop where
  len : m.length = l.length
  exp : ∀ j, j < l.length → (m.getD j (0, 0)).1 = (l.getD j (0, 0)).1
  done : ∀ j, j < i → j < l.length → (m.getD j (0, 0)).2 ≠ 0 ∧ -2 ≤ (m.getD j (0, 0)).2 ∧ (m.getD j (0, 0)).2 ≤ 2
  rest : ∀ j, i ≤ j → j < l.length → (m.getD j (0, 0)).2 = (l.getD j (0, 0)).2

theorem fix_start (l : List (Int × Int)) : FixTo l l 0 := ⟨rfl, fun _ _ => rfl, fun j hj => by omega, fun _ _ _ => rfl⟩
theorem fix_next {l m : List (Int × Int)} {i : Nat} (h : FixTo l m i) (hi : i < l.length) (c : Int) (h0 : c ≠ 0) (h1 : -2 ≤ c) (h2 : c ≤ 2) : FixTo l (setC m i c) (i + 1) := by
  have hm : i < m.length := by rw [h.len]; exact hi
  refine ⟨by rw [setC_length, h.len], fun j hj => ?_, fun j hj hjl => ?_, fun j hj hjl => ?_⟩
  · rw [setC_get m i j c hm]
    split
    · next e => subst e; exact h.exp i hj
    · exact h.exp j hj
  · rw [setC_get m i j c hm]
    split
    · exact ⟨h0, h1, h2⟩
    · exact h.done j (by omega) hjl
  · rw [setC_get m i j c hm, if_neg (by omega)]
    exact h.rest j (by omega) hjl
theorem fix_end {l m : List (Int × Int)} (h : FixTo l m l.length) (hf : Fine l 4 9) (h2 : l.length ≤ 2) : Fine m 4 2 ∧ m.length ≤ 2 := by
  have hp := hf.1.1
  refine ⟨⟨canon_self ?_ ?_, ?_⟩, by rw [h.len]; exact h2⟩
  · rw [List.pairwise_iff_getElem] at hp ⊢
    intro i j hi hj hij
    have hi' : i < l.length := by rw [← h.len]; exact hi
    have hj' : j < l.length := by rw [← h.len]; exact hj
    have e1 := h.exp i hi'
    have e2 := h.exp j hj'
    simp only [List.getD, List.getElem?_eq_getElem hi, List.getElem?_eq_getElem hj, List.getElem?_eq_getElem hi', List.getElem?_eq_getElem hj', Option.getD_some] at e1 e2
    rw [e1, e2]
    exact hp i j hi' hj' hij
  · intro t ht
    obtain ⟨i, hi, rfl⟩ := List.getElem_of_mem ht
    have hi' : i < l.length := by rw [← h.len]; exact hi
    have := (h.done i hi' hi').1
    simp only [List.getD, List.getElem?_eq_getElem hi, Option.getD_some] at this
    exact this
  · intro t ht
    obtain ⟨i, hi, rfl⟩ := List.getElem_of_mem ht
    have hi' : i < l.length := by rw [← h.len]; exact hi
    have e1 := h.exp i hi'
    have e2 := (h.done i hi' hi').2
    have e3 := hf.2 l[i] (List.getElem_mem hi')
    simp only [List.getD, List.getElem?_eq_getElem hi, List.getElem?_eq_getElem hi', Option.getD_some] at e1 e2
    rw [e1]
    exact ⟨e3.1, e3.2.1, e2.1, e2.2⟩
theorem fine_take {l : List (Int × Int)} {E C : Int} (h : Fine l E C) (k : Nat) : Fine (l.take k) E C :=
  ⟨canon_self (h.1.1.sublist (List.take_sublist _ _)) fun t ht => ((h.1.2 t.1 t.2).1 (List.mem_of_mem_take ht)).2, fun t ht => h.2 t (List.mem_of_mem_take ht)⟩
theorem tmod3 (c : Int) : -2 ≤ c.tmod 3 ∧ c.tmod 3 ≤ 2 := by
  rcases Int.le_total 0 c with h | h
  · rw [Int.tmod_eq_emod_of_nonneg h]; omega
  · have e : c = -(-c) := by omega
    rw [e, Int.neg_tmod, Int.tmod_eq_emod_of_nonneg (by omega)]; omega
end Go.Proofs.YthbhllomikfbhaaDoor.Poly
