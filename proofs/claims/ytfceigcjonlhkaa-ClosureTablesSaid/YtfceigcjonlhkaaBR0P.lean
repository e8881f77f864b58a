/- Several texts of the proof, one behind the other. -/
import Derived.Test.YtfceigcjonlhkaaW5P
/- Words of braids, and what they make of texts: plain mathematics. -/
namespace Go.Proofs.Ytfceigcjonlhkaa

/-- No letter. -/
def badL (n x : Int) : Bool := decide (x = 0) || (decide (x ≤ -n) || decide (n ≤ x))
/-- What is wrong with a word. -/
def wordN (n : Int) (w : List Int) : Int := if n < 2 ∨ 6 < n then 3 else if w.any (badL n) then 3 else if 20 < w.length then 2 else 0
theorem badL_no {n x : Int} (h : badL n x = false) : x ≠ 0 ∧ -n < x ∧ x < n := by
  unfold badL at h
  simp only [Bool.or_eq_false_iff, decide_eq_false_iff_not] at h
  omega
theorem wordN_ok {n : Int} {w : List Int} (h : wordN n w = 0) : 2 ≤ n ∧ n ≤ 6 ∧ (∀ j, j < w.length → w.getD j 0 ≠ 0 ∧ -n < w.getD j 0 ∧ w.getD j 0 < n) ∧ w.length ≤ 20 := by
  unfold wordN at h
  by_cases h1 : n < 2 ∨ 6 < n
  · rw [if_pos h1] at h; cases h
  · rw [if_neg h1] at h
    by_cases h2 : w.any (badL n) = true
    · rw [if_pos h2] at h; cases h
    · rw [if_neg h2] at h
      by_cases h3 : 20 < w.length
      · rw [if_pos h3] at h; cases h
      · refine ⟨by omega, by omega, fun j hj => ?_, by omega⟩
        have h4 : badL n (w.getD j 0) = false := by
          cases hb : badL n (w.getD j 0) with
          | false => rfl
          | true =>
            exact absurd (List.any_eq_true.2 ⟨w.getD j 0, by rw [List.getD_eq_getElem?_getD, List.getElem?_eq_getElem hj]; exact List.getElem_mem hj, hb⟩) h2
        exact badL_no h4
theorem wordN_range {n : Int} {w : List Int} (h : wordN n w ≠ 0) : wordN n w = 3 ∨ wordN n w = 2 := by
  unfold wordN at h ⊢
  split
  · exact Or.inl rfl
  · split
    · exact Or.inl rfl
    · split
      · exact Or.inr rfl
      · rename_i h1 h2 h3
        rw [if_neg h1, if_neg h2, if_neg h3] at h
        exact absurd rfl h

/-- A text, and one letter more behind it. -/
def push (o : List Int) (x : Int) : List Int := if 0 < o.length ∧ o.getD (o.length - 1) 0 = -x then o.take (o.length - 1) else o ++ [x]
/-- A text behind another one. -/
def gl (a b : List Int) : List Int := b.foldl push a
/-- The reciprocal. -/
def rc (a : List Int) : List Int := mapI a.length (fun i => -a.getD (a.length - 1 - i) 0)
/-- No neighbours are reciprocals. -/
def RedP (a : List Int) : Prop := ∀ i, i + 1 < a.length → a.getD i 0 ≠ -a.getD (i + 1) 0
theorem getD_takeI (a : List Int) (k i : Nat) (h : i < k) : (a.take k).getD i 0 = a.getD i 0 := by
  simp [List.getD_eq_getElem?_getD, h]
theorem getD_snoc (a : List Int) (x : Int) (i : Nat) : (a ++ [x]).getD i 0 = if i < a.length then a.getD i 0 else if i = a.length then x else 0 := by
  rw [List.getD_eq_getElem?_getD]
  by_cases h : i < a.length
  · rw [if_pos h, List.getElem?_append_left h, List.getD_eq_getElem?_getD]
  · rw [if_neg h, List.getElem?_append_right (by omega)]
    by_cases e : i = a.length
    · rw [if_pos e, e]; simp
    · rw [if_neg e, List.getElem?_eq_none (by simp; omega)]; rfl
theorem push_red {o : List Int} (h : RedP o) (x : Int) : RedP (push o x) := by
  unfold push
  split
  · intro i hi
    rw [List.length_take] at hi
    rw [getD_takeI _ _ _ (by omega), getD_takeI _ _ _ (by omega)]
    exact h i (by omega)
  · rename_i hn
    intro i hi
    rw [List.length_append, List.length_singleton] at hi
    rw [getD_snoc, getD_snoc, if_pos (by omega)]
    by_cases e : i + 1 < o.length
    · rw [if_pos e]; exact h i e
    · rw [if_neg e, if_pos (by omega)]
      intro e2
      exact hn ⟨by omega, by rw [show o.length - 1 = i by omega]; exact e2⟩
theorem foldl_keeps {α β : Type} (f : β → α → β) (p : β → Prop) (hp : ∀ b a, p b → p (f b a)) : ∀ (l : List α) (b : β), p b → p (l.foldl f b)
  | [], _, h => h
  | a :: t, b, h => foldl_keeps f p hp t (f b a) (hp b a h)
theorem gl_red {a : List Int} (h : RedP a) (b : List Int) : RedP (gl a b) := foldl_keeps push RedP (fun _ x ho => push_red ho x) b a h
theorem rc_len (a : List Int) : (rc a).length = a.length := mapI_len _ _
theorem rc_at (a : List Int) (i : Nat) (h : i < a.length) : (rc a).getD i 0 = -a.getD (a.length - 1 - i) 0 := mapI_at _ _ _ h
theorem rc_red {a : List Int} (h : RedP a) : RedP (rc a) := by
  intro i hi
  rw [rc_len] at hi
  rw [rc_at _ _ (by omega), rc_at _ _ hi]
  have := h (a.length - 2 - i) (by omega)
  rw [show a.length - 2 - i + 1 = a.length - 1 - i by omega] at this
  rw [show a.length - 1 - (i + 1) = a.length - 2 - i by omega]
  omega
theorem gl_take (a b : List Int) (k : Nat) (h : k < b.length) : gl a (b.take (k + 1)) = push (gl a (b.take k)) (b.getD k 0) := by
  unfold gl
  rw [List.take_succ_eq_append_getElem h, List.foldl_append, List.getD_eq_getElem?_getD, List.getElem?_eq_getElem h]
  rfl
theorem gl_zero (a b : List Int) : gl a (b.take 0) = a := rfl
theorem gl_all (a b : List Int) : gl a (b.take b.length) = gl a b := by rw [List.take_length]
theorem gl_own {a : List Int} (h : RedP a) : gl [] a = a := by
  have key : ∀ k, k ≤ a.length → gl [] (a.take k) = a.take k := by
    intro k
    induction k with
    | zero => intro _; rfl
    | succ k ih =>
      intro hk
      rw [gl_take _ _ _ (by omega), ih (by omega)]
      unfold push
      rw [if_neg]
      · rw [List.take_succ_eq_append_getElem (by omega), List.getD_eq_getElem?_getD, List.getElem?_eq_getElem (by omega)]
        rfl
      · rintro ⟨h1, h2⟩
        rw [List.length_take] at h1 h2
        rw [getD_takeI _ _ _ (by omega), show min k a.length - 1 = k - 1 by omega] at h2
        have := h (k - 1) (by omega)
        rw [show k - 1 + 1 = k by omega] at this
        exact this h2
  have := key a.length (Nat.le_refl _)
  rw [List.take_length] at this
  exact this
theorem push_len (o : List Int) (x : Int) : (push o x).length ≤ o.length + 1 := by
  unfold push
  split
  · rw [List.length_take]; omega
  · simp
theorem gl_len (a b : List Int) : (gl a b).length ≤ a.length + b.length := by
  have key : ∀ (b a : List Int), (b.foldl push a).length ≤ a.length + b.length := by
    intro b
    induction b with
    | nil => intro a; simp
    | cons x t ih =>
      intro a
      have h1 := ih (push a x)
      have h2 := push_len a x
      rw [List.foldl_cons, List.length_cons]
      omega
  exact key b a
/-- Small numbers alone. -/
def SmI (a : List Int) : Prop := ∀ i, -6 ≤ a.getD i 0 ∧ a.getD i 0 ≤ 6
theorem push_sm {o : List Int} (h : SmI o) {x : Int} (hx : -6 ≤ x ∧ x ≤ 6) : SmI (push o x) := by
  unfold push
  split
  · intro i
    by_cases hi : i < o.length - 1
    · rw [getD_takeI _ _ _ hi]; exact h i
    · rw [List.getD_eq_getElem?_getD, List.getElem?_eq_none (by rw [List.length_take]; omega)]
      show -6 ≤ (0 : Int) ∧ (0 : Int) ≤ 6
      omega
  · intro i
    rw [getD_snoc]
    split
    · exact h i
    · split
      · exact hx
      · omega
theorem gl_sm {a b : List Int} (ha : SmI a) (hb : SmI b) : SmI (gl a b) := by
  have key : ∀ k, k ≤ b.length → SmI (gl a (b.take k)) := by
    intro k
    induction k with
    | zero => intro _; exact ha
    | succ k ih =>
      intro hk
      rw [gl_take _ _ _ (by omega)]
      exact push_sm (ih (by omega)) (hb k)
  have := key b.length (Nat.le_refl _)
  rw [List.take_length] at this
  exact this
theorem rc_sm {a : List Int} (h : SmI a) : SmI (rc a) := by
  intro i
  by_cases hi : i < a.length
  · rw [rc_at _ _ hi]
    have := h (a.length - 1 - i)
    omega
  · rw [List.getD_eq_getElem?_getD, List.getElem?_eq_none (by rw [rc_len]; omega)]
    show -6 ≤ (0 : Int) ∧ (0 : Int) ≤ 6
    omega

/-- What a letter makes of the texts. -/
def stp (T : List (List Int)) (x : Int) : List (List Int) :=
  if 0 < x then (T.set (x.natAbs - 1) (gl (gl (T.getD (x.natAbs - 1) []) (T.getD x.natAbs [])) (rc (T.getD (x.natAbs - 1) [])))).set x.natAbs (T.getD (x.natAbs - 1) [])
  else (T.set (x.natAbs - 1) (T.getD x.natAbs [])).set x.natAbs (gl (gl (rc (T.getD x.natAbs [])) (T.getD (x.natAbs - 1) [])) (T.getD x.natAbs []))
/-- The texts at first. -/
def act0 (n : Nat) : List (List Int) := (List.range n).map fun (k : Nat) => [(k : Int) + 1]
/-- The texts after the first k letters. -/
def actT (n : Nat) (w : List Int) (k : Nat) : List (List Int) := (w.take k).foldl stp (act0 n)
theorem actT_next (n : Nat) (w : List Int) (k : Nat) (h : k < w.length) : actT n w (k + 1) = stp (actT n w k) (w.getD k 0) := by
  unfold actT
  rw [List.take_succ_eq_append_getElem h, List.foldl_append, List.getD_eq_getElem?_getD, List.getElem?_eq_getElem h]
  rfl
/-- What holds of texts. -/
structure TxOk (n m : Nat) (T : List (List Int)) : Prop where
  ln : T.length = n
  red : ∀ j, RedP (T.getD j [])
  len : ∀ j, (T.getD j []).length ≤ m
  sm : ∀ j, SmI (T.getD j [])
theorem getD_setL (T : List (List Int)) (i j : Nat) (r : List Int) : (T.set i r).getD j [] = if j = i ∧ i < T.length then r else T.getD j [] := by
  rw [List.getD_eq_getElem?_getD, List.getElem?_set]
  by_cases e : i = j
  · subst e
    by_cases h : i < T.length
    · rw [if_pos rfl, if_pos h, if_pos ⟨rfl, h⟩]; rfl
    · rw [if_pos rfl, if_neg h, if_neg (fun q => h q.2), List.getD_eq_getElem?_getD, List.getElem?_eq_none (by omega)]
  · rw [if_neg e, if_neg (fun q => e q.1.symm), List.getD_eq_getElem?_getD]
theorem TxOk.stp {n m : Nat} {T : List (List Int)} (h : TxOk n m T) (x : Int) : TxOk n (3 * m) (stp T x) := by
  have row : ∀ (p : List Int → Prop), (∀ j, p (T.getD j [])) → (∀ i j, p (gl (gl (T.getD i []) (T.getD j [])) (rc (T.getD i [])))) → (∀ i j, p (gl (gl (rc (T.getD j [])) (T.getD i [])) (T.getD j []))) → ∀ j, p ((Go.Proofs.Ytfceigcjonlhkaa.stp T x).getD j []) := by
    intro p h1 h2 h3 j
    unfold Go.Proofs.Ytfceigcjonlhkaa.stp
    split
    · rw [getD_setL, getD_setL]
      split
      · exact h1 _
      · split
        · exact h2 _ _
        · exact h1 _
    · rw [getD_setL, getD_setL]
      split
      · exact h3 _ _
      · split
        · exact h1 _
        · exact h1 _
  refine ⟨?_, row RedP h.red (fun i j => gl_red (gl_red (h.red i) _) _) (fun i j => gl_red (gl_red (rc_red (h.red j)) _) _), row (fun r => r.length ≤ 3 * m) (fun j => by have := h.len j; omega) (fun i j => ?_) (fun i j => ?_), row SmI h.sm (fun i j => gl_sm (gl_sm (h.sm i) (h.sm j)) (rc_sm (h.sm i))) (fun i j => gl_sm (gl_sm (rc_sm (h.sm j)) (h.sm i)) (h.sm j))⟩
  · unfold Go.Proofs.Ytfceigcjonlhkaa.stp
    split <;> simp [h.ln]
  · have h1 := gl_len (gl (T.getD i []) (T.getD j [])) (rc (T.getD i []))
    have h2 := gl_len (T.getD i []) (T.getD j [])
    rw [rc_len] at h1
    have h3 := h.len i
    have h4 := h.len j
    omega
  · have h1 := gl_len (gl (rc (T.getD j [])) (T.getD i [])) (T.getD j [])
    have h2 := gl_len (rc (T.getD j [])) (T.getD i [])
    rw [rc_len] at h2
    have h3 := h.len i
    have h4 := h.len j
    omega
theorem act0_at (n k : Nat) : (act0 n).getD k [] = if k < n then [(k : Int) + 1] else [] := by
  unfold act0
  by_cases h : k < n
  · rw [if_pos h]; simp [List.getD_eq_getElem?_getD, h]
  · rw [if_neg h, List.getD_eq_getElem?_getD, List.getElem?_eq_none (by simp; omega)]; rfl
theorem act0_ok (n : Nat) (hn : n ≤ 6) : TxOk n 1 (act0 n) := by
  refine ⟨by simp [act0], fun j => ?_, fun j => ?_, fun j => ?_⟩
  · rw [act0_at]
    split
    · intro i hi; simp at hi
    · intro i hi; simp at hi
  · rw [act0_at]
    split <;> simp
  · rw [act0_at]
    intro i
    split
    · cases i with
      | zero => show -6 ≤ (j : Int) + 1 ∧ (j : Int) + 1 ≤ 6; omega
      | succ i => show -6 ≤ (0 : Int) ∧ (0 : Int) ≤ 6; omega
    · show -6 ≤ (0 : Int) ∧ (0 : Int) ≤ 6
      omega
theorem actT_ok (n : Nat) (hn : n ≤ 6) (w : List Int) (k : Nat) (hk : k ≤ w.length) : TxOk n (3 ^ k) (actT n w k) := by
  induction k with
  | zero => exact act0_ok n hn
  | succ k ih =>
    rw [actT_next n w k (by omega), Nat.pow_succ, Nat.mul_comm]
    exact (ih (by omega)).stp _
theorem TxOk.up {n m m' : Nat} {T : List (List Int)} (h : TxOk n m T) (hm : m ≤ m') : TxOk n m' T := ⟨h.ln, h.red, fun j => Nat.le_trans (h.len j) hm, h.sm⟩
theorem three_pow (k : Nat) (hk : k ≤ 20) : 3 ^ k ≤ 3486784401 := Nat.le_trans (Nat.pow_le_pow_right (by decide) hk) (by decide)

/-- Places i and i + 1 traded. -/
def trd (l : List Int) (i : Nat) : List Int := (l.set (i - 1) (l.getD i 0)).set i (l.getD (i - 1) 0)
/-- Who begins where, after the first k letters. -/
def begT (n : Nat) (w : List Int) (k : Nat) : List Int := (w.take k).foldl (fun l x => trd l x.natAbs) (mapI n fun i => (i : Int) + 1)
theorem begT_next (n : Nat) (w : List Int) (k : Nat) (h : k < w.length) : begT n w (k + 1) = trd (begT n w k) (w.getD k 0).natAbs := by
  unfold begT
  rw [List.take_succ_eq_append_getElem h, List.foldl_append, List.getD_eq_getElem?_getD, List.getElem?_eq_getElem h]
  rfl
/-- Numbers of places. -/
structure PlOk (n : Nat) (l : List Int) : Prop where
  ln : l.length = n
  rng : ∀ i, i < n → 1 ≤ l.getD i 0 ∧ l.getD i 0 ≤ n
theorem getD_setI (l : List Int) (i j : Nat) (x : Int) : (l.set i x).getD j 0 = if j = i ∧ i < l.length then x else l.getD j 0 := by
  rw [List.getD_eq_getElem?_getD, List.getElem?_set]
  by_cases e : i = j
  · subst e
    by_cases h : i < l.length
    · rw [if_pos rfl, if_pos h, if_pos ⟨rfl, h⟩]; rfl
    · rw [if_pos rfl, if_neg h, if_neg (fun q => h q.2), List.getD_eq_getElem?_getD, List.getElem?_eq_none (by omega)]
  · rw [if_neg e, if_neg (fun q => e q.1.symm), List.getD_eq_getElem?_getD]
theorem PlOk.trd {n : Nat} {l : List Int} (h : PlOk n l) {i : Nat} (hi : i < n) : PlOk n (trd l i) := by
  refine ⟨by unfold Go.Proofs.Ytfceigcjonlhkaa.trd; simp [h.ln], fun j hj => ?_⟩
  unfold Go.Proofs.Ytfceigcjonlhkaa.trd
  rw [getD_setI, getD_setI]
  split
  · exact h.rng _ (by omega)
  · split
    · exact h.rng _ hi
    · exact h.rng _ hj
theorem begT_ok (n : Nat) (w : List Int) (hw : ∀ j, j < w.length → (w.getD j 0).natAbs < n) (k : Nat) (hk : k ≤ w.length) : PlOk n (begT n w k) := by
  induction k with
  | zero => exact ⟨mapI_len _ _, fun i hi => by show 1 ≤ (mapI n fun i => (i : Int) + 1).getD i 0 ∧ _; rw [show (begT n w 0) = mapI n fun i => (i : Int) + 1 from rfl, mapI_at _ _ _ hi]; omega⟩
  | succ k ih =>
    rw [begT_next n w k (by omega)]
    exact (ih (by omega)).trd (hw k (by omega))
/-- Ends of begins, the first k laid. -/
def endT (l : List Int) (k : Nat) : List Int := (List.range k).foldl (fun o i => o.set (l.getD i 0 - 1).toNat ((i : Int) + 1)) (List.replicate l.length 0)
theorem endT_next (l : List Int) (k : Nat) : endT l (k + 1) = (endT l k).set (l.getD k 0 - 1).toNat ((k : Int) + 1) := by
  unfold endT
  rw [List.range_succ, List.foldl_append]
  rfl
theorem endT_len (l : List Int) (k : Nat) : (endT l k).length = l.length := by
  induction k with
  | zero => simp [endT]
  | succ k ih => rw [endT_next, List.length_set, ih]
end Go.Proofs.Ytfceigcjonlhkaa
/- Braids closed: places, walks and numbers as plain mathematics. -/
namespace Go.Proofs.Ytfceigcjonlhkaa

/-- The place behind a letter of size i. -/
def plc (p i : Nat) : Nat := if p = i then i + 1 else if p = i + 1 then i else p
/-- The place of the strand that begins at p, behind k letters. -/
def pl (l : List Int) (p : Nat) : Nat → Nat
  | 0 => p
  | k + 1 => plc (pl l p k) (l.getD k 0).natAbs
/-- Crossings that it comes to among the first k letters: 0 from the left, 1 from the right. -/
def cl (l : List Int) (p : Nat) : Nat → List (Nat × Nat)
  | 0 => []
  | k + 1 => cl l p k ++ (if pl l p k = (l.getD k 0).natAbs then [(k, 0)] else if pl l p k = (l.getD k 0).natAbs + 1 then [(k, 1)] else [])
theorem pl_rng {n : Nat} {l : List Int} (hw : ∀ j, j < l.length → 1 ≤ (l.getD j 0).natAbs ∧ (l.getD j 0).natAbs < n) {p : Nat} (h1 : 1 ≤ p) (h2 : p ≤ n) : ∀ k, k ≤ l.length → 1 ≤ pl l p k ∧ pl l p k ≤ n
  | 0, _ => ⟨h1, h2⟩
  | k + 1, hk => by
    have h := pl_rng hw h1 h2 k (by omega)
    have hx := hw k (by omega)
    unfold pl plc
    split
    · omega
    · split <;> omega
theorem cl_mem (l : List Int) (p : Nat) : ∀ k q, q ∈ cl l p k → q.1 < k ∧ q.2 < 2
  | 0, q, h => by cases h
  | k + 1, q, h => by
    unfold cl at h
    rcases List.mem_append.1 h with h | h
    · have := cl_mem l p k q h; omega
    · split at h
      · obtain rfl := List.mem_singleton.1 h; exact ⟨Nat.lt_succ_self _, show 0 < 2 by decide⟩
      · split at h
        · obtain rfl := List.mem_singleton.1 h; exact ⟨Nat.lt_succ_self _, show 1 < 2 by decide⟩
        · cases h
theorem cl_len (l : List Int) (p : Nat) : ∀ k, (cl l p k).length ≤ k
  | 0 => Nat.le_refl _
  | k + 1 => by
    have := cl_len l p k
    unfold cl
    rw [List.length_append]
    split
    · simp; omega
    · split
      · simp; omega
      · simp; omega

/-- Who stands at place q behind k letters began where q's strand began. -/
theorem beg_pl (n : Nat) (l : List Int) (hw : ∀ j, j < l.length → 1 ≤ (l.getD j 0).natAbs ∧ (l.getD j 0).natAbs < n) (k : Nat) (hk : k ≤ l.length) : ∀ (q p : Nat), q < n → (begT n l k).getD q 0 = (p : Int) → pl l p k = q + 1 := by
  induction k with
  | zero =>
    intro q p hq h
    rw [show begT n l 0 = mapI n fun i => (i : Int) + 1 from rfl, mapI_at _ _ _ hq] at h
    show p = q + 1
    omega
  | succ k ih =>
    intro q p hq h
    have hx := hw k (by omega)
    have hok := begT_ok n l (fun j hj => (hw j hj).2) k (by omega)
    rw [begT_next n l k (by omega)] at h
    show plc (pl l p k) (l.getD k 0).natAbs = q + 1
    generalize (l.getD k 0).natAbs = i at hx h ⊢
    unfold trd at h
    rw [getD_setI, getD_setI, List.length_set, hok.ln] at h
    unfold plc
    by_cases e1 : q = i
    · rw [if_pos ⟨e1, hx.2⟩] at h
      have := ih (by omega) (i - 1) p (by omega) h
      rw [if_pos (by omega)]
      omega
    · rw [if_neg (fun x => e1 x.1)] at h
      by_cases e2 : q = i - 1
      · rw [if_pos ⟨e2, by omega⟩] at h
        have := ih (by omega) i p hx.2 h
        rw [if_neg (by omega), if_pos (by omega)]
        omega
      · rw [if_neg (fun x => e2 x.1)] at h
        have := ih (by omega) q p hq h
        rw [if_neg (by omega), if_neg (by omega)]
        omega
theorem pl_beg (n : Nat) (l : List Int) (hw : ∀ j, j < l.length → 1 ≤ (l.getD j 0).natAbs ∧ (l.getD j 0).natAbs < n) (p : Nat) (h1 : 1 ≤ p) (h2 : p ≤ n) (k : Nat) (hk : k ≤ l.length) : (begT n l k).getD (pl l p k - 1) 0 = (p : Int) := by
  induction k with
  | zero =>
    rw [show begT n l 0 = mapI n fun i => (i : Int) + 1 from rfl, mapI_at _ _ _ (show pl l p 0 - 1 < n by show p - 1 < n; omega)]
    show ((p - 1 : Nat) : Int) + 1 = p
    omega
  | succ k ih =>
    have hx := hw k (by omega)
    have hr := pl_rng hw h1 h2 k (by omega)
    have hok := begT_ok n l (fun j hj => (hw j hj).2) k (by omega)
    have h := ih (by omega)
    rw [begT_next n l k (by omega)]
    show (trd (begT n l k) (l.getD k 0).natAbs).getD (plc (pl l p k) (l.getD k 0).natAbs - 1) 0 = (p : Int)
    generalize (l.getD k 0).natAbs = i at hx ⊢
    generalize pl l p k = q at hr h ⊢
    unfold trd plc
    rw [getD_setI, getD_setI, List.length_set, hok.ln]
    by_cases e1 : q = i
    · rw [if_pos e1, if_pos ⟨by omega, hx.2⟩, ← e1]; exact h
    · rw [if_neg e1]
      by_cases e2 : q = i + 1
      · rw [if_pos e2, if_neg (by omega), if_pos ⟨rfl, by omega⟩]
        rw [e2] at h
        exact h
      · rw [if_neg e2, if_neg (by omega), if_neg (by omega)]
        exact h
/-- The ends that braid.Ends tells are the places behind all letters. -/
theorem ends_pl (n : Nat) (l : List Int) (hw : ∀ j, j < l.length → 1 ≤ (l.getD j 0).natAbs ∧ (l.getD j 0).natAbs < n) (p : Nat) (h1 : 1 ≤ p) (h2 : p ≤ n) : (endT (begT n l l.length) n).getD (p - 1) 0 = (pl l p l.length : Int) := by
  have hok := begT_ok n l (fun j hj => (hw j hj).2) l.length (Nat.le_refl _)
  have hbp := beg_pl n l hw l.length (Nat.le_refl _)
  have hpb := pl_beg n l hw p h1 h2 l.length (Nat.le_refl _)
  have hr := pl_rng hw h1 h2 l.length (Nat.le_refl _)
  generalize begT n l l.length = T at hok hbp hpb ⊢
  generalize hq : pl l p l.length = q at hpb hr ⊢
  have key : ∀ k, k ≤ n → q ≤ k → (endT T k).getD (p - 1) 0 = (q : Int) := by
    intro k
    induction k with
    | zero => intro _ h; omega
    | succ k ih =>
      intro hk hqk
      have hrk := hok.rng k (by omega)
      rw [endT_next, getD_setI, endT_len, hok.ln]
      by_cases e : q = k + 1
      · have e1 : T.getD k 0 = (p : Int) := by rw [← hpb, e]; rfl
        rw [if_pos ⟨by omega, by omega⟩]
        omega
      · by_cases e2 : p - 1 = (T.getD k 0 - 1).toNat
        · have e1 : T.getD k 0 = (p : Int) := by omega
          have := hbp k p (by omega) e1
          omega
        · rw [if_neg (fun x => e2 x.1)]
          exact ih (by omega) (by omega)
  exact key n (Nat.le_refl _) hr.2

/-- A place of a table, filled. -/
def up (G : Nat → Int) (c : Nat) (x : Int) : Nat → Int := fun j => if j = c then x else G j
theorem up_up (G : Nat → Int) (c : Nat) (x y : Int) : up (up G c x) c y = up G c y := by
  funext j
  unfold up
  split <;> rfl
/-- One crossing that a walk comes to: the arc in, and the next one out. -/
def rS (q : (Nat → Int) × Nat) (p : Nat × Nat) : (Nat → Int) × Nat := (up (up q.1 (4 * p.1 + p.2) ((q.2 + 1 : Nat) : Int)) (4 * p.1 + 2 + p.2) ((q.2 + 2 : Nat) : Int), q.2 + 1)
/-- The table behind a walk, behind b arcs. -/
def rG (G : Nat → Int) (b : Nat) (W : List (Nat × Nat)) : Nat → Int := (W.foldl rS (G, b)).1
theorem rS_snd (W : List (Nat × Nat)) (q : (Nat → Int) × Nat) : (W.foldl rS q).2 = q.2 + W.length := by
  induction W generalizing q with
  | nil => rfl
  | cons x W ih => rw [List.foldl_cons, ih, List.length_cons]; show q.2 + 1 + W.length = _; omega
theorem rG_app (G : Nat → Int) (b : Nat) (W : List (Nat × Nat)) (p : Nat × Nat) : rG G b (W ++ [p]) = up (up (rG G b W) (4 * p.1 + p.2) ((b + W.length + 1 : Nat) : Int)) (4 * p.1 + 2 + p.2) ((b + W.length + 2 : Nat) : Int) := by
  unfold rG
  rw [List.foldl_append]
  show (rS (W.foldl rS (G, b)) p).1 = _
  have e := rS_snd W (G, b)
  generalize W.foldl rS (G, b) = q at e ⊢
  obtain ⟨q1, q2⟩ := q
  obtain rfl : q2 = b + W.length := e
  rfl
/-- The last crossing of a walk. -/
def lastP (W : List (Nat × Nat)) : Nat × Nat := W.getD (W.length - 1) (0, 0)
/-- The table behind a closed walk. -/
def nG (G : Nat → Int) (b : Nat) (W : List (Nat × Nat)) : Nat → Int := if W.length = 0 then G else up (rG G b W) (4 * (lastP W).1 + 2 + (lastP W).2) ((b + 1 : Nat) : Int)
/-- The table behind i crossings, as closure.number lays it. -/
def nuTo (G : Nat → Int) (b : Nat) (W : List (Nat × Nat)) (i : Nat) : Nat → Int := if i < W.length then rG G b (W.take i) else nG G b W
theorem nuTo_zero (G : Nat → Int) (b : Nat) (W : List (Nat × Nat)) : nuTo G b W 0 = G := by
  unfold nuTo
  split
  · rfl
  · unfold nG
    rw [if_pos (by omega)]
theorem nuTo_all (G : Nat → Int) (b : Nat) (W : List (Nat × Nat)) : nuTo G b W W.length = nG G b W := by
  unfold nuTo
  rw [if_neg (Nat.lt_irrefl _)]
theorem getD_takeP (W : List (Nat × Nat)) (i : Nat) (h : i < W.length) : W.take (i + 1) = W.take i ++ [W.getD i (0, 0)] := by
  rw [List.take_succ_eq_append_getElem h, List.getD_eq_getElem?_getD, List.getElem?_eq_getElem h]
  rfl
theorem nuTo_next (G : Nat → Int) (b : Nat) (W : List (Nat × Nat)) (i : Nat) (h : i < W.length) : nuTo G b W (i + 1) = up (up (nuTo G b W i) (4 * (W.getD i (0, 0)).1 + (W.getD i (0, 0)).2) ((b + i + 1 : Nat) : Int)) (4 * (W.getD i (0, 0)).1 + 2 + (W.getD i (0, 0)).2) ((b + (i + 1) % W.length + 1 : Nat) : Int) := by
  have hl : (W.take i).length = i := by rw [List.length_take]; omega
  unfold nuTo
  rw [if_pos h]
  by_cases h2 : i + 1 < W.length
  · rw [if_pos h2, getD_takeP W i h, rG_app, hl, Nat.mod_eq_of_lt h2]
    rfl
  · rw [if_neg h2]
    unfold nG lastP
    rw [if_neg (by omega)]
    have e1 : W.length - 1 = i := by omega
    have e2 : (i + 1) % W.length = 0 := by rw [show i + 1 = W.length by omega]; exact Nat.mod_self _
    have e3 : W = W.take i ++ [W.getD i (0, 0)] := by rw [← getD_takeP W i h, List.take_of_length_le (by omega)]
    rw [e1, e2]
    generalize hq : W.getD i (0, 0) = q at e3 ⊢
    rw [show rG G b W = rG G b (W.take i ++ [q]) by rw [← e3], rG_app, up_up, hl]

/-- A flag set. -/
def upB (D : Nat → Bool) (p : Nat) : Nat → Bool := fun j => if j = p then true else D j
/-- How many places were not walked. -/
def cntF (D : Nat → Bool) : Nat := (if D 0 then 0 else 1) + (if D 1 then 0 else 1) + (if D 2 then 0 else 1) + (if D 3 then 0 else 1) + (if D 4 then 0 else 1) + (if D 5 then 0 else 1) + (if D 6 then 0 else 1)
theorem cntF_le (D : Nat → Bool) : cntF D ≤ 7 := by
  unfold cntF
  repeat' split
  all_goals omega
theorem cntF_up (D : Nat → Bool) (p : Nat) (hp : p < 7) (h : D p = false) : cntF (upB D p) + 1 = cntF D := by
  have : p = 0 ∨ p = 1 ∨ p = 2 ∨ p = 3 ∨ p = 4 ∨ p = 5 ∨ p = 6 := by omega
  unfold cntF upB
  rcases this with rfl | rfl | rfl | rfl | rfl | rfl | rfl <;> simp [h] <;> omega
/-- A ring of places, and what was walked behind it. -/
def rg (E : Nat → Nat) : Nat → (Nat → Bool) → Nat → List Nat × (Nat → Bool)
  | 0, D, _ => ([], D)
  | f + 1, D, p => if D p then ([], D) else (p :: (rg E f (upB D p) (E p)).1, (rg E f (upB D p) (E p)).2)
theorem rg_done (E : Nat → Nat) (f : Nat) (D : Nat → Bool) (p : Nat) (h : D p = true) : rg E f D p = ([], D) := by
  cases f with
  | zero => rfl
  | succ f => unfold rg; rw [if_pos h]
theorem rg_step (E : Nat → Nat) (f : Nat) (D : Nat → Bool) (p : Nat) (h : D p = false) : rg E (f + 1) D p = (p :: (rg E f (upB D p) (E p)).1, (rg E f (upB D p) (E p)).2) := by
  show (if D p then _ else _) = _
  rw [if_neg (by rw [h]; decide)]
theorem rg_len (E : Nat → Nat) : ∀ f D p, (rg E f D p).1.length ≤ f
  | 0, _, _ => Nat.le_refl _
  | f + 1, D, p => by
    cases h : D p with
    | true => rw [rg_done E _ D p h]; exact Nat.zero_le _
    | false => rw [rg_step E f D p h]; have := rg_len E f (upB D p) (E p); simp; omega
theorem rg_mem (E : Nat → Nat) (n : Nat) (hE : ∀ p, 1 ≤ p → p ≤ n → 1 ≤ E p ∧ E p ≤ n) : ∀ f D p, 1 ≤ p → p ≤ n → ∀ q ∈ (rg E f D p).1, 1 ≤ q ∧ q ≤ n
  | 0, _, _, _, _, q, h => by cases h
  | f + 1, D, p, h1, h2, q, h => by
    cases hd : D p with
    | true => rw [rg_done E _ D p hd] at h; cases h
    | false =>
      rw [rg_step E f D p hd] at h
      rcases List.mem_cons.1 h with rfl | h
      · exact ⟨h1, h2⟩
      · exact rg_mem E n hE f _ _ (hE p h1 h2).1 (hE p h1 h2).2 q h
/-- What stands of a ring while it is walked. -/
structure RgS (E : Nat → Nat) (n : Nat) (D : Nat → Bool) (p : Nat) (R : List Nat) (D' : Nat → Bool) (p' f : Nat) : Prop where
  few : cntF D' ≤ f
  ring : (rg E 7 D p).1 = R ++ (rg E f D' p').1
  done : (rg E 7 D p).2 = (rg E f D' p').2
  p1 : 1 ≤ p'
  p2 : p' ≤ n
theorem RgS.start (E : Nat → Nat) (n : Nat) (D : Nat → Bool) (p : Nat) (h1 : 1 ≤ p) (h2 : p ≤ n) : RgS E n D p [] D p 7 := ⟨cntF_le D, rfl, rfl, h1, h2⟩
theorem RgS.step {E : Nat → Nat} {n : Nat} {D : Nat → Bool} {p : Nat} {R : List Nat} {D' : Nat → Bool} {p' f : Nat} (h : RgS E n D p R D' p' f) (hn : n ≤ 6) (hE : ∀ p, 1 ≤ p → p ≤ n → 1 ≤ E p ∧ E p ≤ n) (hd : D' p' = false) : ∃ f', f = f' + 1 ∧ RgS E n D p (R ++ [p']) (upB D' p') (E p') f' := by
  have hc := cntF_up D' p' (by have := h.p2; omega) hd
  have hf := h.few
  obtain ⟨f', rfl⟩ : ∃ f', f = f' + 1 := ⟨f - 1, by omega⟩
  refine ⟨f', rfl, by omega, ?_, ?_, (hE p' h.p1 h.p2).1, (hE p' h.p1 h.p2).2⟩
  · rw [h.ring, rg_step E f' D' p' hd]; simp
  · rw [h.done, rg_step E f' D' p' hd]
theorem RgS.stop {E : Nat → Nat} {n : Nat} {D : Nat → Bool} {p : Nat} {R : List Nat} {D' : Nat → Bool} {p' f : Nat} (h : RgS E n D p R D' p' f) (hd : D' p' = true) : rg E 7 D p = (R, D') := by
  have h1 := h.ring
  have h2 := h.done
  rw [rg_done E f D' p' hd] at h1 h2
  rw [List.append_nil] at h1
  exact Prod.ext h1 h2
theorem RgS.len {E : Nat → Nat} {n : Nat} {D : Nat → Bool} {p : Nat} {R : List Nat} {D' : Nat → Bool} {p' f : Nat} (h : RgS E n D p R D' p' f) : R.length ≤ 7 := by
  have h1 := rg_len E 7 D p
  rw [h.ring, List.length_append] at h1
  omega
/-- The rings that begin at the first k places. -/
def rgs (E : Nat → Nat) : Nat → (Nat → Bool) × List (List Nat)
  | 0 => (fun _ => false, [])
  | k + 1 => ((rg E 7 (rgs E k).1 (k + 1)).2, if (rg E 7 (rgs E k).1 (k + 1)).1.length = 0 then (rgs E k).2 else (rgs E k).2 ++ [(rg E 7 (rgs E k).1 (k + 1)).1])
theorem rgs_len (E : Nat → Nat) : ∀ k, (rgs E k).2.length ≤ k
  | 0 => Nat.le_refl _
  | k + 1 => by
    have := rgs_len E k
    unfold rgs
    dsimp only
    split
    · omega
    · rw [List.length_append]; simp; omega
theorem rgs_mem (E : Nat → Nat) (n : Nat) (hE : ∀ p, 1 ≤ p → p ≤ n → 1 ≤ E p ∧ E p ≤ n) : ∀ k, k ≤ n → ∀ r ∈ (rgs E k).2, r.length ≤ 7 ∧ ∀ q ∈ r, 1 ≤ q ∧ q ≤ n
  | 0, _, r, h => by cases h
  | k + 1, hk, r, h => by
    unfold rgs at h
    dsimp only at h
    split at h
    · exact rgs_mem E n hE k (by omega) r h
    · rcases List.mem_append.1 h with h | h
      · exact rgs_mem E n hE k (by omega) r h
      · obtain rfl := List.mem_singleton.1 h
        exact ⟨rg_len _ _ _ _, rg_mem E n hE 7 _ _ (by omega) (by omega)⟩
/-- The walk of a ring. -/
def wk (l : List Int) (r : List Nat) : List (Nat × Nat) := r.flatMap fun p => cl l p l.length
theorem wk_app (l : List Int) (r : List Nat) (p : Nat) : wk l (r ++ [p]) = wk l r ++ cl l p l.length := by simp [wk]
theorem wk_len (l : List Int) : ∀ (r : List Nat), (wk l r).length ≤ r.length * l.length
  | [] => by simp [wk]
  | p :: r => by
    have h := wk_len l r
    have h1 := cl_len l p l.length
    have e : wk l (p :: r) = cl l p l.length ++ wk l r := by simp [wk]
    rw [e, List.length_append, List.length_cons, Nat.succ_mul]
    omega
theorem wk_mem (l : List Int) (r : List Nat) (q : Nat × Nat) (h : q ∈ wk l r) : q.1 < l.length ∧ q.2 < 2 := by
  obtain ⟨p, -, h⟩ := List.mem_flatMap.1 h
  exact cl_mem l p _ q h
/-- A ring laid: the table, arcs and loops. -/
def cS (l : List Int) (q : (Nat → Int) × Nat × Nat) (r : List Nat) : (Nat → Int) × Nat × Nat := (nG q.1 q.2.1 (wk l r), q.2.1 + (wk l r).length, q.2.2 + if (wk l r).length = 0 then 1 else 0)
/-- Rings laid one after the other. -/
def cF (l : List Int) (L : List (List Nat)) : (Nat → Int) × Nat × Nat := L.foldl (cS l) (fun _ => 0, 0, 0)
theorem cF_app (l : List Int) (L : List (List Nat)) (r : List Nat) : cF l (L ++ [r]) = cS l (cF l L) r := by unfold cF; rw [List.foldl_append]; rfl
theorem cF_le (l : List Int) (hl : l.length ≤ 16) (L : List (List Nat)) (h : ∀ r ∈ L, r.length ≤ 7) : ∀ k, k ≤ L.length → (cF l (L.take k)).2.1 ≤ 112 * k ∧ (cF l (L.take k)).2.2 ≤ k
  | 0, _ => ⟨Nat.zero_le _, Nat.zero_le _⟩
  | k + 1, hk => by
    have ih := cF_le l hl L h k (by omega)
    have hr := h (L[k]) (List.getElem_mem _)
    have hw := wk_len l (L[k])
    have hm : (L[k]).length * l.length ≤ 7 * 16 := Nat.mul_le_mul hr hl
    rw [List.take_succ_eq_append_getElem (by omega), cF_app]
    unfold cS
    dsimp only
    refine ⟨by omega, ?_⟩
    split <;> omega
/-- A crossing told. -/
def clX (l : List Int) (G : Nat → Int) (k : Nat) : Cr := if 0 < l.getD k 0 then ⟨G (4 * k + 1), G (4 * k + 2), G (4 * k + 3), G (4 * k), true⟩ else ⟨G (4 * k), G (4 * k + 1), G (4 * k + 2), G (4 * k + 3), false⟩
/-- What is closed. -/
def clC (l : List Int) (G : Nat → Int) (k : Nat) : List Cr := (List.range k).map (clX l G)
theorem clC_len (l : List Int) (G : Nat → Int) (k : Nat) : (clC l G k).length = k := by simp [clC]
theorem clC_next (l : List Int) (G : Nat → Int) (k : Nat) : clC l G (k + 1) = clC l G k ++ [clX l G k] := by simp [clC, List.range_succ]
end Go.Proofs.Ytfceigcjonlhkaa
