/- Texts of polynomials that are read sign by sign: what ref.ReadPoly makes at a place, and what it is where the text tells a polynomial. Plain mathematics: no program is named here. -/
import Derived.Test.YthbhllomikfbhaaDoorPR0
namespace Go.Proofs.YthbhllomikfbhaaDoor.Poly

/-- The digits at a place, seven at most. -/
def dgs (s : List UInt8) (k : Nat) : List UInt8 := ((s.drop k).take 7).takeWhile dgB
/-- Is this sign there? -/
def isAt (s : List UInt8) (k : Nat) (b : UInt8) : Bool := decide (s[k]? = some b)
/-- A power at a place: its exponent (0, if there is none), and where it ends. -/
def expS (s : List UInt8) (j : Nat) : Int × Nat :=
  if isAt s j 116 then
    if isAt s (j + 1) 94 then
      if isAt s (j + 2) 45 then (-(numOf (dgs s (j + 3)) : Int), j + 3 + (dgs s (j + 3)).length)
      else ((numOf (dgs s (j + 2)) : Int), j + 2 + (dgs s (j + 2)).length)
    else (1, j + 1)
  else (0, j)
/-- Where the power would begin. -/
def midS (s : List UInt8) (k : Nat) : Nat := if isAt s (k + (dgs s k).length) 42 then k + (dgs s k).length + 1 else k + (dgs s k).length
/-- A coefficient at a place. -/
def cofS (s : List UInt8) (k : Nat) : Nat := if (dgs s k).length = 0 then 1 else numOf (dgs s k)

theorem takeWhile_append_stop (p : UInt8 → Bool) (l r : List UInt8) (hl : ∀ b ∈ l, p b = true) (hr : ∀ b q, r = b :: q → p b = false) : (l ++ r).takeWhile p = l := by
  induction l with
  | nil =>
    cases r with
    | nil => rfl
    | cons b q => rw [List.nil_append, List.takeWhile_cons, if_neg (by rw [hr b q rfl]; decide)]
  | cons b l ih =>
    rw [List.cons_append, List.takeWhile_cons, if_pos (hl b List.mem_cons_self), ih (fun x hx => hl x (List.mem_cons_of_mem _ hx))]
/-- Digits that stand there, and behind them none. -/
theorem dgs_is {s : List UInt8} {k : Nat} (D r : List UInt8) (h : s.drop k = D ++ r) (hD : ∀ b ∈ D, dgB b = true) (h7 : D.length ≤ 7) (hr : ∀ b q, r = b :: q → dgB b = false) : dgs s k = D := by
  unfold dgs
  rw [h, List.take_append, List.take_of_length_le h7]
  refine takeWhile_append_stop dgB D _ hD ?_
  intro b q hq
  cases r with
  | nil => simp at hq
  | cons b' q' =>
    cases hx : 7 - D.length with
    | zero => rw [hx] at hq; simp at hq
    | succ n =>
      rw [hx, List.take_succ_cons] at hq
      have : b' = b := by injection hq
      rw [← this]; exact hr b' q' rfl
theorem at_drop {s : List UInt8} {k : Nat} {b : UInt8} {q : List UInt8} (h : s.drop k = b :: q) : s[k]? = some b := by
  have : (s.drop k)[0]? = s[k + 0]? := by rw [List.getElem?_drop]
  rw [h] at this
  simpa using this.symm
theorem at_end {s : List UInt8} {k : Nat} (h : s.drop k = []) : s[k]? = none := by
  rw [List.getElem?_eq_none_iff]
  rw [List.drop_eq_nil_iff] at h
  exact h
theorem drop_add {s : List UInt8} {k : Nat} (D r : List UInt8) (h : s.drop k = D ++ r) : s.drop (k + D.length) = r := by
  rw [← List.drop_drop, h, List.drop_append_of_le_length (Nat.le_refl _), List.drop_length, List.nil_append]
/-- What may stand behind a term: nothing, or a blank. -/
def Stop (r : List UInt8) : Prop := r = [] ∨ ∃ q, r = 32 :: q
theorem Stop.dg {r : List UInt8} (h : Stop r) : ∀ b q, r = b :: q → dgB b = false := by
  rintro b q rfl
  rcases h with h | ⟨q', h⟩
  · cases h
  · injection h with h1 _; subst h1; decide
theorem Stop.at {s r : List UInt8} {k : Nat} (h : Stop r) (hs : s.drop k = r) (b : UInt8) (hb : b ≠ 32) : isAt s k b = false := by
  unfold isAt
  rcases h with h | ⟨q', h⟩
  · rw [h] at hs; rw [at_end hs]; simp
  · rw [h] at hs; rw [at_drop hs]
    exact decide_eq_false (fun e => hb (Option.some.inj e).symm)
theorem dec_len7 (u : Nat) (h : u < 10000000) : (Lib.decDigits u).length ≤ 7 := by
  rw [Lib.decDigits_length]
  rcases Nat.lt_or_ge u 10 with h1 | h1
  · rw [Lib.nDigits_small h1]; omega
  · have step : ∀ k u, 10 ^ k ≤ u → u < 10 ^ (k + 1) → Lib.nDigits u = k + 1 := Lib.nDigits_unique
    rcases Nat.lt_or_ge u 100 with h2 | h2
    · rw [step 1 u (by omega) (by omega)]; omega
    rcases Nat.lt_or_ge u 1000 with h3 | h3
    · rw [step 2 u (by omega) (by omega)]; omega
    rcases Nat.lt_or_ge u 10000 with h4 | h4
    · rw [step 3 u (by omega) (by omega)]; omega
    rcases Nat.lt_or_ge u 100000 with h5 | h5
    · rw [step 4 u (by omega) (by omega)]; omega
    rcases Nat.lt_or_ge u 1000000 with h6 | h6
    · rw [step 5 u (by omega) (by omega)]; omega
    · rw [step 6 u (by omega) (by omega)]; omega
theorem at_is {s : List UInt8} {k : Nat} {b : UInt8} {q : List UInt8} (h : s.drop k = b :: q) (c : UInt8) : isAt s k c = decide (b = c) := by
  unfold isAt
  rw [at_drop h]
  simp
theorem exp_back {s : List UInt8} {j : Nat} (e : Int) (r : List UInt8) (h : s.drop j = powerL e ++ r) (h0 : -1000 ≤ e) (h1 : e ≤ 1000) (hr : Stop r) : expS s j = (e, j + (powerL e).length) := by
  unfold powerL at h ⊢
  by_cases he : e = 1
  · rw [if_pos he] at h ⊢
    have hd : s.drop j = 116 :: r := h
    have hd1 : s.drop (j + 1) = r := drop_add [116] r h
    unfold expS
    rw [at_is hd, if_pos (by decide), hr.at hd1 94 (by decide), if_neg (by decide), he]
    rfl
  · rw [if_neg he] at h ⊢
    have hd : s.drop j = 116 :: 94 :: (Lib.itoa e ++ r) := by rw [h]; rfl
    have hd1 : s.drop (j + 1) = 94 :: (Lib.itoa e ++ r) := drop_add [116] _ hd
    have hd2 : s.drop (j + 2) = Lib.itoa e ++ r := drop_add [116, 94] _ hd
    unfold expS
    rw [at_is hd, if_pos (by decide), at_is hd1, if_pos (by decide)]
    rcases Int.lt_or_le e 0 with hn | hn
    · obtain ⟨m, rfl⟩ : ∃ m : Nat, e = -(m : Int) := ⟨e.natAbs, by omega⟩
      rw [Lib.itoa_neg m (by omega)] at hd2 ⊢
      have hd3 : s.drop (j + 3) = Lib.decDigits m ++ r := drop_add [45] _ hd2
      rw [at_is (q := Lib.decDigits m ++ r) hd2, if_pos (by decide), dgs_is _ _ hd3 (dec_dg m) (dec_len7 m (by omega)) hr.dg, dec_num]
      simp
      omega
    · obtain ⟨m, rfl⟩ : ∃ m : Nat, e = (m : Int) := ⟨e.natAbs, by omega⟩
      rw [itoa_pos] at hd2 ⊢
      obtain ⟨b, q, hbq, hb⟩ := dec_head m
      have hd2' : s.drop (j + 2) = b :: (q ++ r) := by rw [hd2, hbq]; rfl
      have hne : ¬ (b = 45) := by rintro rfl; exact absurd hb (by decide)
      rw [at_is hd2', if_neg (by rw [decide_eq_false hne]; decide), dgs_is _ _ hd2 (dec_dg m) (dec_len7 m (by omega)) hr.dg, dec_num]
      simp
      omega
/-- A term's body is read as it was. -/
theorem body_read {s : List UInt8} {k : Nat} (c : Nat) (e : Int) (r : List UInt8) (h : s.drop k = bodyL (c : Int) e ++ r) (h0 : -1000 ≤ e) (h1 : e ≤ 1000) (h2 : 1 ≤ c) (h3 : c ≤ 1000000) (hr : Stop r) :
    cofS s k = c ∧ expS s (midS s k) = (e, k + (bodyL (c : Int) e).length) := by
  unfold bodyL at h ⊢
  by_cases he : e = 0
  · rw [if_pos he] at h ⊢
    rw [itoa_pos] at h ⊢
    have hD := dgs_is _ _ h (dec_dg c) (dec_len7 c (by omega)) hr.dg
    have hl : 0 < (Lib.decDigits c).length := List.length_pos_iff.2 (dec_ne c)
    have hd := drop_add _ _ h
    unfold cofS midS
    rw [hD, if_neg (by omega), dec_num, hr.at hd 42 (by decide), if_neg (by decide)]
    unfold expS
    rw [hr.at hd 116 (by decide), if_neg (by decide), he]
    exact ⟨rfl, rfl⟩
  · rw [if_neg he] at h ⊢
    by_cases hc : (c : Int) = 1
    · rw [if_pos hc] at h ⊢
      have hp : ∃ q, powerL e ++ r = 116 :: q := by
        unfold powerL; split
        · exact ⟨_, rfl⟩
        · exact ⟨94 :: (Lib.itoa e ++ r), by simp⟩
      obtain ⟨q, hq⟩ := hp
      have hd : s.drop k = 116 :: q := h.trans hq
      have hD : dgs s k = [] := dgs_is [] _ hd (by simp) (by simp) (by intro b q' hb; injection hb with hb _; subst hb; decide)
      unfold cofS midS
      rw [hD]
      simp only [List.length_nil, Nat.add_zero, if_pos]
      rw [at_is hd, if_neg (by decide), exp_back e r h h0 h1 hr]
      exact ⟨by omega, rfl⟩
    · rw [if_neg hc] at h ⊢
      rw [itoa_pos] at h ⊢
      have hd : s.drop k = Lib.decDigits c ++ (42 :: (powerL e ++ r)) := by rw [h]; simp
      have hD := dgs_is _ _ hd (dec_dg c) (dec_len7 c (by omega)) (by intro b q' hb; injection hb with hb _; subst hb; decide)
      have hl : 0 < (Lib.decDigits c).length := List.length_pos_iff.2 (dec_ne c)
      have hd1 := drop_add _ _ hd
      have hd2 : s.drop (k + (Lib.decDigits c).length + 1) = powerL e ++ r := drop_add [42] _ hd1
      unfold cofS midS
      rw [hD, if_neg (by omega), dec_num, at_is hd1, if_pos (by decide), exp_back e r hd2 h0 h1 hr]
      refine ⟨rfl, ?_⟩
      simp
      omega
/-- Where a term begins at place k, behind its sign; nothing, if there can be none. -/
def signS (s : List UInt8) (k : Nat) : Option (Int × Nat) :=
  if k = 0 then (if isAt s 0 45 then some (-1, 1) else some (1, 0))
  else if isAt s k 32 && (isAt s (k + 1) 43 || isAt s (k + 1) 45) && isAt s (k + 2) 32 then some (if isAt s (k + 1) 45 then -1 else 1, k + 3) else none
theorem rest_stop (r : List (Int × Int)) : Stop (restL r) := by
  cases r with
  | nil => exact .inl rfl
  | cons t r =>
    refine .inr ?_
    show ∃ q, restT t ++ restL r = 32 :: q
    unfold restT leadL
    by_cases h : t.2 < 0
    · rw [decide_eq_true h]; exact ⟨[45, 32] ++ bodyT t ++ restL r, by simp⟩
    · rw [decide_eq_false h]; exact ⟨[43, 32] ++ bodyT t ++ restL r, by simp⟩
/-- The reading has come through the first j terms of l. -/
def Thru (s : List UInt8) (l : List (Int × Int)) (j k : Nat) : Prop := j ≤ l.length ∧ s = textL l ∧ k = (textTo l j).length
theorem textTo_drop (l : List (Int × Int)) (hl : l ≠ []) (j : Nat) (hj : j < l.length) : (textL l).drop (textTo l j).length = termL j (l.getD j (0, 0)) ++ restL (l.drop (j + 1)) := by
  cases l with
  | nil => exact absurd rfl hl
  | cons t r =>
    rw [text_cons]
    cases j with
    | zero =>
      show (leadL true (decide (t.2 < 0)) ++ bodyT t ++ restL r).drop 0 = termL 0 t ++ restL r
      rfl
    | succ j =>
      have hj' : j < r.length := by simpa using hj
      rw [textTo_cons t r j (by omega)]
      have e1 : restL r = restL (r.take j) ++ (restT (r.getD j (0, 0)) ++ restL (r.drop (j + 1))) := by
        have e2 : r = r.take j ++ (r.getD j (0, 0) :: r.drop (j + 1)) := by
          have : r.drop j = r.getD j (0, 0) :: r.drop (j + 1) := by
            rw [List.drop_eq_getElem_cons hj', List.getD_eq_getElem?_getD, List.getElem?_eq_getElem hj']
            rfl
          rw [← this, List.take_append_drop]
        conv => lhs; rw [e2]
        unfold restL
        rw [List.flatMap_append, List.flatMap_cons]
      rw [e1, ← List.append_assoc, ← List.append_assoc, List.drop_append_of_le_length (by simp), ]
      have h3 : termL (j + 1) ((t :: r).getD (j + 1) (0, 0)) = restT (r.getD j (0, 0)) := by
        have h1 : (t :: r).getD (j + 1) (0, 0) = r.getD j (0, 0) := by simp [List.getD_eq_getElem?_getD]
        rw [h1]
        unfold termL restT bodyT
        rw [decide_eq_false (by omega)]
      rw [h3, List.append_assoc, List.append_assoc]
      simp
theorem thru_step {s : List UInt8} {l : List (Int × Int)} {j k : Nat} (hm : mayB l = true) (h : Thru s l j k) (hl : l ≠ []) (hk : k < s.length) :
    j < l.length ∧ ∃ k', signS s k = some (if (l.getD j (0, 0)).2 < 0 then -1 else 1, k') ∧ (cofS s k' : Int) = ((l.getD j (0, 0)).2.natAbs : Int) ∧ (expS s (midS s k')).1 = (l.getD j (0, 0)).1 ∧ (expS s (midS s k')).2 ≠ k' ∧ Thru s l (j + 1) (expS s (midS s k')).2 := by
  obtain ⟨hj, hs, hk2⟩ := h
  have hjl : j < l.length := by
    rcases Nat.lt_or_ge j l.length with h | h
    · exact h
    · have : j = l.length := by omega
      subst this
      have e1 : textL l = textTo l l.length := by
        unfold textL
        rw [if_neg (by rw [List.length_eq_zero_iff]; exact hl)]
      rw [hs, e1, hk2] at hk
      omega
  refine ⟨hjl, ?_⟩
  have hd : s.drop k = termL j (l.getD j (0, 0)) ++ restL (l.drop (j + 1)) := by rw [hs, hk2]; exact textTo_drop l hl j hjl
  have hst := rest_stop (l.drop (j + 1))
  have htm := may_tm hm (l.getD j (0, 0)) (by
    rw [List.getD_eq_getElem?_getD, List.getElem?_eq_getElem hjl]
    exact List.getElem_mem hjl)
  have hnx : textTo l (j + 1) = textTo l j ++ termL j (l.getD j (0, 0)) := rfl
  generalize restL (l.drop (j + 1)) = R at hd hst
  unfold Thru
  rw [hnx]
  generalize l.getD j (0, 0) = t at hd htm ⊢
  unfold TmOk at htm
  have hb : ∀ k', s.drop k' = bodyT t ++ R → (cofS s k' : Int) = (t.2.natAbs : Int) ∧ expS s (midS s k') = (t.1, k' + (bodyT t).length) := fun k' h' => by
    have := body_read t.2.natAbs t.1 R h' htm.1 htm.2.1 (by omega) (by omega) hst
    exact ⟨by rw [this.1], this.2⟩
  have hne : 0 < (bodyT t).length := by
    obtain ⟨b, q, h1, -⟩ := body_head t htm []
    rw [List.append_nil] at h1
    rw [h1]; simp
  have fin : ∀ (sg : Int) (k' : Nat), sg = (if t.2 < 0 then -1 else 1) → signS s k = some (sg, k') → s.drop k' = bodyT t ++ R → k' + (bodyT t).length = k + (termL j t).length →
      ∃ k', signS s k = some (if t.2 < 0 then -1 else 1, k') ∧ (cofS s k' : Int) = (t.2.natAbs : Int) ∧ (expS s (midS s k')).1 = t.1 ∧ (expS s (midS s k')).2 ≠ k' ∧ j + 1 ≤ l.length ∧ s = textL l ∧ (expS s (midS s k')).2 = (textTo l j ++ termL j t).length := by
    intro sg k' h1 h2 h3 h4
    obtain ⟨g1, g2⟩ := hb k' h3
    refine ⟨k', by rw [h2, h1], g1, by rw [g2], by rw [g2]; simp only; omega, by omega, hs, ?_⟩
    rw [g2, List.length_append, ← hk2]
    exact h4
  unfold termL at hd fin ⊢
  by_cases h0 : j = 0
  · have hk0 : k = 0 := by rw [hk2, h0]; rfl
    subst h0
    by_cases hn : t.2 < 0
    · rw [decide_eq_true hn] at hd fin ⊢
      have hd' : s.drop k = 45 :: (bodyT t ++ R) := hd
      rw [if_pos hn] at fin ⊢
      refine fin (-1) 1 rfl ?_ (by rw [hk0] at hd'; exact drop_add [45] _ hd') ?_
      · unfold signS
        rw [hk0] at hd'
        rw [if_pos hk0, at_is hd', if_pos (by decide)]
      · rw [List.length_append]
        show _ = k + (1 + (bodyT t).length)
        omega
    · rw [decide_eq_false hn] at hd fin ⊢
      have hd' : s.drop k = bodyT t ++ R := hd
      rw [if_neg hn] at fin ⊢
      obtain ⟨b, q, hq, hbq⟩ := body_head t htm R
      refine fin 1 0 rfl ?_ (by rw [hk0] at hd'; exact hd') ?_
      · unfold signS
        rw [hk0, hq] at hd'
        have hb45 : ¬ b = 45 := by
          rintro rfl
          rcases hbq with hbq | hbq <;> exact absurd hbq (by decide)
        rw [if_pos hk0, at_is hd', if_neg (by rw [decide_eq_false hb45]; decide)]
      · rw [List.length_append]
        show _ = k + (0 + (bodyT t).length)
        omega
  · rw [decide_eq_false h0] at hd fin ⊢
    have hk0 : ¬ k = 0 := by
      rw [hk2]
      obtain ⟨j', rfl⟩ : ∃ j', j = j' + 1 := ⟨j - 1, by omega⟩
      cases l with
      | nil => exact absurd rfl hl
      | cons t0 r0 =>
        rw [textTo_cons t0 r0 j' (by simp at hj; omega)]
        obtain ⟨b, q, h1, -⟩ := body_head t0 (may_tm hm t0 List.mem_cons_self) []
        rw [List.append_nil] at h1
        rw [h1]
        simp
    by_cases hn : t.2 < 0
    · rw [decide_eq_true hn] at hd fin ⊢
      have hd' : s.drop k = 32 :: 45 :: 32 :: (bodyT t ++ R) := hd
      have hd1 : s.drop (k + 1) = 45 :: 32 :: (bodyT t ++ R) := drop_add [32] _ hd'
      have hd2 : s.drop (k + 2) = 32 :: (bodyT t ++ R) := drop_add [32, 45] _ hd'
      rw [if_pos hn] at fin ⊢
      refine fin (-1) (k + 3) rfl ?_ (drop_add [32, 45, 32] _ hd') ?_
      · unfold signS
        rw [if_neg hk0, at_is hd', at_is hd1, at_is hd1, at_is hd2, if_pos (by decide), if_pos (by decide)]
      · rw [List.length_append]
        show _ = k + (3 + (bodyT t).length)
        omega
    · rw [decide_eq_false hn] at hd fin ⊢
      have hd' : s.drop k = 32 :: 43 :: 32 :: (bodyT t ++ R) := hd
      have hd1 : s.drop (k + 1) = 43 :: 32 :: (bodyT t ++ R) := drop_add [32] _ hd'
      have hd2 : s.drop (k + 2) = 32 :: (bodyT t ++ R) := drop_add [32, 43] _ hd'
      rw [if_neg hn] at fin ⊢
      refine fin 1 (k + 3) rfl ?_ (drop_add [32, 43, 32] _ hd') ?_
      · unfold signS
        rw [if_neg hk0, at_is hd', at_is hd1, at_is hd1, at_is hd2, if_pos (by decide), if_neg (by decide)]
      · rw [List.length_append]
        show _ = k + (3 + (bodyT t).length)
        omega
end Go.Proofs.YthbhllomikfbhaaDoor.Poly
