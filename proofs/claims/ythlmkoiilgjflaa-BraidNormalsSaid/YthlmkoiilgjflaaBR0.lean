/- Words of braids, and what they make of texts: plain mathematics. -/
import Derived.Test.YthlmkoiilgjflaaInP
namespace Go.Proofs.Ythlmkoiilgjflaa

/-- No letter. -/
def badL (n x : Int) : Bool := decide (x = 0) || (decide (x ≤ -n) || decide (n ≤ x))
/-- What is wrong with a word. -/
def wordN (n : Int) (w : List Int) : Int := if n < 2 ∨ 6 < n then 3 else if w.any (badL n) then 3 else if 20 < w.length then 2 else 0
theorem badL_no {n x : Int} (h : badL n x = false) : x ≠ 0 ∧ -n < x ∧ x < n := by
  unfold badL at h
  simp only [Bool.or_eq_false_iff, decide_eq_false_iff_not] at h
  omega
theorem wordN_ok {n : Int} {w : List Int} (h : wordN n w = 0) : 2 ≤ n ∧ n ≤ 6 ∧ (∀ j, j < w.length → w.getD j 0 ≠ 0 ∧ -n < w.getD j 0 ∧ w.getD j 0 < n) ∧ w.length ≤ 20 := by
  unfold wordN at h
  by_cases h1 : n < 2 ∨ 6 < n
  · rw [if_pos h1] at h; cases h
  · rw [if_neg h1] at h
    by_cases h2 : w.any (badL n) = true
    · rw [if_pos h2] at h; cases h
    · rw [if_neg h2] at h
      by_cases h3 : 20 < w.length
      · rw [if_pos h3] at h; cases h
      · refine ⟨by omega, by omega, fun j hj => ?_, by omega⟩
        have h4 : badL n (w.getD j 0) = false := by
          cases hb : badL n (w.getD j 0) with
          | false => rfl
          | true =>
            exact absurd (List.any_eq_true.2 ⟨w.getD j 0, by rw [List.getD_eq_getElem?_getD, List.getElem?_eq_getElem hj]; exact List.getElem_mem hj, hb⟩) h2
        exact badL_no h4
theorem wordN_range {n : Int} {w : List Int} (h : wordN n w ≠ 0) : wordN n w = 3 ∨ wordN n w = 2 := by
  unfold wordN at h ⊢
  split
  · exact Or.inl rfl
  · split
    · exact Or.inl rfl
    · split
      · exact Or.inr rfl
      · rename_i h1 h2 h3
        rw [if_neg h1, if_neg h2, if_neg h3] at h
        exact absurd rfl h

/-- A text, and one letter more behind it. -/
def push (o : List Int) (x : Int) : List Int := if 0 < o.length ∧ o.getD (o.length - 1) 0 = -x then o.take (o.length - 1) else o ++ [x]
/-- A text behind another one. -/
def gl (a b : List Int) : List Int := b.foldl push a
/-- The reciprocal. -/
def rc (a : List Int) : List Int := mapI a.length (fun i => -a.getD (a.length - 1 - i) 0)
/-- No neighbours are reciprocals. -/
def RedP (a : List Int) : Prop := ∀ i, i + 1 < a.length → a.getD i 0 ≠ -a.getD (i + 1) 0
theorem getD_takeI (a : List Int) (k i : Nat) (h : i < k) : (a.take k).getD i 0 = a.getD i 0 := by
  simp [List.getD_eq_getElem?_getD, h]
theorem getD_snoc (a : List Int) (x : Int) (i : Nat) : (a ++ [x]).getD i 0 = if i < a.length then a.getD i 0 else if i = a.length then x else 0 := by
  rw [List.getD_eq_getElem?_getD]
  by_cases h : i < a.length
  · rw [if_pos h, List.getElem?_append_left h, List.getD_eq_getElem?_getD]
  · rw [if_neg h, List.getElem?_append_right (by omega)]
    by_cases e : i = a.length
    · rw [if_pos e, e]; simp
    · rw [if_neg e, List.getElem?_eq_none (by simp; omega)]; rfl
theorem push_red {o : List Int} (h : RedP o) (x : Int) : RedP (push o x) := by
  unfold push
  split
  · intro i hi
    rw [List.length_take] at hi
    rw [getD_takeI _ _ _ (by omega), getD_takeI _ _ _ (by omega)]
    exact h i (by omega)
  · rename_i hn
    intro i hi
    rw [List.length_append, List.length_singleton] at hi
    rw [getD_snoc, getD_snoc, if_pos (by omega)]
    by_cases e : i + 1 < o.length
    · rw [if_pos e]; exact h i e
    · rw [if_neg e, if_pos (by omega)]
      intro e2
      exact hn ⟨by omega, by rw [show o.length - 1 = i by omega]; exact e2⟩
theorem foldl_keeps {α β : Type} (f : β → α → β) (p : β → Prop) (hp : ∀ b a, p b → p (f b a)) : ∀ (l : List α) (b : β), p b → p (l.foldl f b)
  | [], _, h => h
  | a :: t, b, h => foldl_keeps f p hp t (f b a) (hp b a h)
theorem gl_red {a : List Int} (h : RedP a) (b : List Int) : RedP (gl a b) := foldl_keeps push RedP (fun _ x ho => push_red ho x) b a h
theorem rc_len (a : List Int) : (rc a).length = a.length := mapI_len _ _
theorem rc_at (a : List Int) (i : Nat) (h : i < a.length) : (rc a).getD i 0 = -a.getD (a.length - 1 - i) 0 := mapI_at _ _ _ h
theorem rc_red {a : List Int} (h : RedP a) : RedP (rc a) := by
  intro i hi
  rw [rc_len] at hi
  rw [rc_at _ _ (by omega), rc_at _ _ hi]
  have := h (a.length - 2 - i) (by omega)
  rw [show a.length - 2 - i + 1 = a.length - 1 - i by omega] at this
  rw [show a.length - 1 - (i + 1) = a.length - 2 - i by omega]
  omega
theorem gl_take (a b : List Int) (k : Nat) (h : k < b.length) : gl a (b.take (k + 1)) = push (gl a (b.take k)) (b.getD k 0) := by
  unfold gl
  rw [List.take_succ_eq_append_getElem h, List.foldl_append, List.getD_eq_getElem?_getD, List.getElem?_eq_getElem h]
  rfl
theorem gl_zero (a b : List Int) : gl a (b.take 0) = a := rfl
theorem gl_all (a b : List Int) : gl a (b.take b.length) = gl a b := by rw [List.take_length]
theorem gl_own {a : List Int} (h : RedP a) : gl [] a = a := by
  have key : ∀ k, k ≤ a.length → gl [] (a.take k) = a.take k := by
    intro k
    induction k with
    | zero => intro _; rfl
    | succ k ih =>
      intro hk
      rw [gl_take _ _ _ (by omega), ih (by omega)]
      unfold push
      rw [if_neg]
      · rw [List.take_succ_eq_append_getElem (by omega), List.getD_eq_getElem?_getD, List.getElem?_eq_getElem (by omega)]
        rfl
      · rintro ⟨h1, h2⟩
        rw [List.length_take] at h1 h2
        rw [getD_takeI _ _ _ (by omega), show min k a.length - 1 = k - 1 by omega] at h2
        have := h (k - 1) (by omega)
        rw [show k - 1 + 1 = k by omega] at this
        exact this h2
  have := key a.length (Nat.le_refl _)
  rw [List.take_length] at this
  exact this
theorem push_len (o : List Int) (x : Int) : (push o x).length ≤ o.length + 1 := by
  unfold push
  split
  · rw [List.length_take]; omega
  · simp
theorem gl_len (a b : List Int) : (gl a b).length ≤ a.length + b.length := by
  have key : ∀ (b a : List Int), (b.foldl push a).length ≤ a.length + b.length := by
    intro b
    induction b with
    | nil => intro a; simp
    | cons x t ih =>
      intro a
      have h1 := ih (push a x)
      have h2 := push_len a x
      rw [List.foldl_cons, List.length_cons]
      omega
  exact key b a
/-- Small numbers alone. -/
def SmI (a : List Int) : Prop := ∀ i, -6 ≤ a.getD i 0 ∧ a.getD i 0 ≤ 6
theorem push_sm {o : List Int} (h : SmI o) {x : Int} (hx : -6 ≤ x ∧ x ≤ 6) : SmI (push o x) := by
  unfold push
  split
  · intro i
    by_cases hi : i < o.length - 1
    · rw [getD_takeI _ _ _ hi]; exact h i
    · rw [List.getD_eq_getElem?_getD, List.getElem?_eq_none (by rw [List.length_take]; omega)]
      show -6 ≤ (0 : Int) ∧ (0 : Int) ≤ 6
      omega
  · intro i
    rw [getD_snoc]
    split
    · exact h i
    · split
      · exact hx
      · omega
theorem gl_sm {a b : List Int} (ha : SmI a) (hb : SmI b) : SmI (gl a b) := by
  have key : ∀ k, k ≤ b.length → SmI (gl a (b.take k)) := by
    intro k
    induction k with
    | zero => intro _; exact ha
    | succ k ih =>
      intro hk
      rw [gl_take _ _ _ (by omega)]
      exact push_sm (ih (by omega)) (hb k)
  have := key b.length (Nat.le_refl _)
  rw [List.take_length] at this
  exact this
theorem rc_sm {a : List Int} (h : SmI a) : SmI (rc a) := by
  intro i
  by_cases hi : i < a.length
  · rw [rc_at _ _ hi]
    have := h (a.length - 1 - i)
    omega
  · rw [List.getD_eq_getElem?_getD, List.getElem?_eq_none (by rw [rc_len]; omega)]
    show -6 ≤ (0 : Int) ∧ (0 : Int) ≤ 6
    omega

/-- What a letter makes of the texts. -/
def stp (T : List (List Int)) (x : Int) : List (List Int) :=
  if 0 < x then (T.set (x.natAbs - 1) (gl (gl (T.getD (x.natAbs - 1) []) (T.getD x.natAbs [])) (rc (T.getD (x.natAbs - 1) [])))).set x.natAbs (T.getD (x.natAbs - 1) [])
  else (T.set (x.natAbs - 1) (T.getD x.natAbs [])).set x.natAbs (gl (gl (rc (T.getD x.natAbs [])) (T.getD (x.natAbs - 1) [])) (T.getD x.natAbs []))
/-- The texts at first. -/
def act0 (n : Nat) : List (List Int) := (List.range n).map fun (k : Nat) => [(k : Int) + 1]
/-- The texts after the first k letters. -/
def actT (n : Nat) (w : List Int) (k : Nat) : List (List Int) := (w.take k).foldl stp (act0 n)
theorem actT_next (n : Nat) (w : List Int) (k : Nat) (h : k < w.length) : actT n w (k + 1) = stp (actT n w k) (w.getD k 0) := by
  unfold actT
  rw [List.take_succ_eq_append_getElem h, List.foldl_append, List.getD_eq_getElem?_getD, List.getElem?_eq_getElem h]
  rfl
/-- What holds of texts. -/
structure TxOk (n m : Nat) (T : List (List Int)) : Prop where
  ln : T.length = n
  red : ∀ j, RedP (T.getD j [])
  len : ∀ j, (T.getD j []).length ≤ m
  sm : ∀ j, SmI (T.getD j [])
theorem getD_setL (T : List (List Int)) (i j : Nat) (r : List Int) : (T.set i r).getD j [] = if j = i ∧ i < T.length then r else T.getD j [] := by
  rw [List.getD_eq_getElem?_getD, List.getElem?_set]
  by_cases e : i = j
  · subst e
    by_cases h : i < T.length
    · rw [if_pos rfl, if_pos h, if_pos ⟨rfl, h⟩]; rfl
    · rw [if_pos rfl, if_neg h, if_neg (fun q => h q.2), List.getD_eq_getElem?_getD, List.getElem?_eq_none (by omega)]
  · rw [if_neg e, if_neg (fun q => e q.1.symm), List.getD_eq_getElem?_getD]
theorem TxOk.stp {n m : Nat} {T : List (List Int)} (h : TxOk n m T) (x : Int) : TxOk n (3 * m) (stp T x) := by
  have row : ∀ (p : List Int → Prop), (∀ j, p (T.getD j [])) → (∀ i j, p (gl (gl (T.getD i []) (T.getD j [])) (rc (T.getD i [])))) → (∀ i j, p (gl (gl (rc (T.getD j [])) (T.getD i [])) (T.getD j []))) → ∀ j, p ((Go.Proofs.Ythlmkoiilgjflaa.stp T x).getD j []) := by
    intro p h1 h2 h3 j
    unfold Go.Proofs.Ythlmkoiilgjflaa.stp
    split
    · rw [getD_setL, getD_setL]
      split
      · exact h1 _
      · split
        · exact h2 _ _
        · exact h1 _
    · rw [getD_setL, getD_setL]
      split
      · exact h3 _ _
      · split
        · exact h1 _
        · exact h1 _
  refine ⟨?_, row RedP h.red (fun i j => gl_red (gl_red (h.red i) _) _) (fun i j => gl_red (gl_red (rc_red (h.red j)) _) _), row (fun r => r.length ≤ 3 * m) (fun j => by have := h.len j; omega) (fun i j => ?_) (fun i j => ?_), row SmI h.sm (fun i j => gl_sm (gl_sm (h.sm i) (h.sm j)) (rc_sm (h.sm i))) (fun i j => gl_sm (gl_sm (rc_sm (h.sm j)) (h.sm i)) (h.sm j))⟩
  · unfold Go.Proofs.Ythlmkoiilgjflaa.stp
    split <;> simp [h.ln]
  · have h1 := gl_len (gl (T.getD i []) (T.getD j [])) (rc (T.getD i []))
    have h2 := gl_len (T.getD i []) (T.getD j [])
    rw [rc_len] at h1
    have h3 := h.len i
    have h4 := h.len j
    omega
  · have h1 := gl_len (gl (rc (T.getD j [])) (T.getD i [])) (T.getD j [])
    have h2 := gl_len (rc (T.getD j [])) (T.getD i [])
    rw [rc_len] at h2
    have h3 := h.len i
    have h4 := h.len j
    omega
theorem act0_at (n k : Nat) : (act0 n).getD k [] = if k < n then [(k : Int) + 1] else [] := by
  unfold act0
  by_cases h : k < n
  · rw [if_pos h]; simp [List.getD_eq_getElem?_getD, h]
  · rw [if_neg h, List.getD_eq_getElem?_getD, List.getElem?_eq_none (by simp; omega)]; rfl
theorem act0_ok (n : Nat) (hn : n ≤ 6) : TxOk n 1 (act0 n) := by
  refine ⟨by simp [act0], fun j => ?_, fun j => ?_, fun j => ?_⟩
  · rw [act0_at]
    split
    · intro i hi; simp at hi
    · intro i hi; simp at hi
  · rw [act0_at]
    split <;> simp
  · rw [act0_at]
    intro i
    split
    · cases i with
      | zero => show -6 ≤ (j : Int) + 1 ∧ (j : Int) + 1 ≤ 6; omega
      | succ i => show -6 ≤ (0 : Int) ∧ (0 : Int) ≤ 6; omega
    · show -6 ≤ (0 : Int) ∧ (0 : Int) ≤ 6
      omega
theorem actT_ok (n : Nat) (hn : n ≤ 6) (w : List Int) (k : Nat) (hk : k ≤ w.length) : TxOk n (3 ^ k) (actT n w k) := by
  induction k with
  | zero => exact act0_ok n hn
  | succ k ih =>
    rw [actT_next n w k (by omega), Nat.pow_succ, Nat.mul_comm]
    exact (ih (by omega)).stp _
theorem TxOk.up {n m m' : Nat} {T : List (List Int)} (h : TxOk n m T) (hm : m ≤ m') : TxOk n m' T := ⟨h.ln, h.red, fun j => Nat.le_trans (h.len j) hm, h.sm⟩
theorem three_pow (k : Nat) (hk : k ≤ 20) : 3 ^ k ≤ 3486784401 := Nat.le_trans (Nat.pow_le_pow_right (by decide) hk) (by decide)

/-- Places i and i + 1 traded. -/
def trd (l : List Int) (i : Nat) : List Int := (l.set (i - 1) (l.getD i 0)).set i (l.getD (i - 1) 0)
/-- Who begins where, after the first k letters. -/
def begT (n : Nat) (w : List Int) (k : Nat) : List Int := (w.take k).foldl (fun l x => trd l x.natAbs) (mapI n fun i => (i : Int) + 1)
theorem begT_next (n : Nat) (w : List Int) (k : Nat) (h : k < w.length) : begT n w (k + 1) = trd (begT n w k) (w.getD k 0).natAbs := by
  unfold begT
  rw [List.take_succ_eq_append_getElem h, List.foldl_append, List.getD_eq_getElem?_getD, List.getElem?_eq_getElem h]
  rfl
/-- Numbers of places. -/
structure PlOk (n : Nat) (l : List Int) : Prop where
  ln : l.length = n
  rng : ∀ i, i < n → 1 ≤ l.getD i 0 ∧ l.getD i 0 ≤ n
theorem getD_setI (l : List Int) (i j : Nat) (x : Int) : (l.set i x).getD j 0 = if j = i ∧ i < l.length then x else l.getD j 0 := by
  rw [List.getD_eq_getElem?_getD, List.getElem?_set]
  by_cases e : i = j
  · subst e
    by_cases h : i < l.length
    · rw [if_pos rfl, if_pos h, if_pos ⟨rfl, h⟩]; rfl
    · rw [if_pos rfl, if_neg h, if_neg (fun q => h q.2), List.getD_eq_getElem?_getD, List.getElem?_eq_none (by omega)]
  · rw [if_neg e, if_neg (fun q => e q.1.symm), List.getD_eq_getElem?_getD]
theorem PlOk.trd {n : Nat} {l : List Int} (h : PlOk n l) {i : Nat} (hi : i < n) : PlOk n (trd l i) := by
  refine ⟨by unfold Go.Proofs.Ythlmkoiilgjflaa.trd; simp [h.ln], fun j hj => ?_⟩
  unfold Go.Proofs.Ythlmkoiilgjflaa.trd
  rw [getD_setI, getD_setI]
  split
  · exact h.rng _ (by omega)
  · split
    · exact h.rng _ hi
    · exact h.rng _ hj
theorem begT_ok (n : Nat) (w : List Int) (hw : ∀ j, j < w.length → (w.getD j 0).natAbs < n) (k : Nat) (hk : k ≤ w.length) : PlOk n (begT n w k) := by
  induction k with
  | zero => exact ⟨mapI_len _ _, fun i hi => by show 1 ≤ (mapI n fun i => (i : Int) + 1).getD i 0 ∧ _; rw [show (begT n w 0) = mapI n fun i => (i : Int) + 1 from rfl, mapI_at _ _ _ hi]; omega⟩
  | succ k ih =>
    rw [begT_next n w k (by omega)]
    exact (ih (by omega)).trd (hw k (by omega))
/-- Ends of begins, the first k laid. -/
def endT (l : List Int) (k : Nat) : List Int := (List.range k).foldl (fun o i => o.set (l.getD i 0 - 1).toNat ((i : Int) + 1)) (List.replicate l.length 0)
theorem endT_next (l : List Int) (k : Nat) : endT l (k + 1) = (endT l k).set (l.getD k 0 - 1).toNat ((k : Int) + 1) := by
  unfold endT
  rw [List.range_succ, List.foldl_append]
  rfl
theorem endT_len (l : List Int) (k : Nat) : (endT l k).length = l.length := by
  induction k with
  | zero => simp [endT]
  | succ k ih => rw [endT_next, List.length_set, ih]
end Go.Proofs.Ythlmkoiilgjflaa
