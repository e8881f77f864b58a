/- Texts of polynomials that are read: plain functions on lists of bytes; what tells a polynomial is read as it was, word by word and sign by sign. No program is named here. -/
import Derived.Test.YthbhllomikfbhaaDoorXText
import Derived.Lib.AtoiAll
import Derived.Lib.IndexMore
import Derived.Lib.Strings
import Derived.IntWalk
namespace Go.Proofs.YthbhllomikfbhaaDoor.Poly

/-- Parts between blanks. -/
def splitS : List UInt8 → List (List UInt8)
  | [] => [[]]
  | b :: r => if b = 32 then [] :: splitS r else match splitS r with
    | [] => [[b]]
    | p :: q => (b :: p) :: q
/-- The number that a text spells. -/
def numA (l : List UInt8) : Option Int := match Lib.atoiAll l with
  | .ok v => some v
  | _ => none
/-- The exponent of a power. -/
def powP (s : List UInt8) : Option Int := if s = [116] then some 1 else if Lib.hasPrefix s [116, 94] = true then numA (Lib.trimPrefix s [116, 94]) else none
/-- A term without its sign. -/
def termP (s : List UInt8) : Option (Int × Int) :=
  if Lib.hasPrefix s [116] = true then (powP s).map fun e => (e, 1)
  else match numA (Lib.cut s [42]).1 with
    | none => none
    | some c => if (Lib.cut s [42]).2.2 = false then some (0, c) else (powP (Lib.cut s [42]).2.1).map fun e => (e, c)
/-- The words from word i on. -/
def wordsP : List (List UInt8) → Nat → Bool → List (Int × Int) → Option (List (Int × Int))
  | [], _, _, acc => some acc
  | x :: r, i, below, acc =>
    if i % 2 = 1 then (if x = [43] ∨ x = [45] then wordsP r (i + 1) (decide (x = [45])) acc else none)
    else match termP x with
      | none => none
      | some t => wordsP r (i + 1) below (acc ++ [(t.1, if below then IntKind.i64.wrap (-t.2) else t.2)])
/-- A text's terms, as they stand there. -/
def parseP (s : List UInt8) : Option (List (Int × Int)) := if s = [48] then some [] else wordsP (splitS (Lib.trimPrefix s [45])) 0 (Lib.hasPrefix s [45]) []

theorem split_ne (l : List UInt8) : splitS l ≠ [] := by
  cases l with
  | nil => simp [splitS]
  | cons b r =>
    unfold splitS
    split
    · simp
    · split <;> simp
theorem split_none (l : List UInt8) (h : ∀ b ∈ l, b ≠ 32) : splitS l = [l] := by
  induction l with
  | nil => rfl
  | cons b r ih =>
    unfold splitS
    rw [if_neg (h b List.mem_cons_self), ih (fun x hx => h x (List.mem_cons_of_mem _ hx))]
theorem split_cons (l r : List UInt8) (h : ∀ b ∈ l, b ≠ 32) : splitS (l ++ 32 :: r) = l :: splitS r := by
  induction l with
  | nil => rw [List.nil_append]; conv => lhs; unfold splitS
           rw [if_pos rfl]
  | cons b q ih =>
    rw [List.cons_append]
    conv => lhs; unfold splitS
    rw [if_neg (h b List.mem_cons_self), ih (fun x hx => h x (List.mem_cons_of_mem _ hx))]

/-- A digit. -/
def dgB (b : UInt8) : Bool := decide (48 ≤ b.toNat) && decide (b.toNat ≤ 57)
/-- The number of digits. -/
def numOf (l : List UInt8) : Nat := l.foldl (fun n b => 10 * n + (b.toNat - 48)) 0
theorem dg_iff (b : UInt8) : dgB b = true ↔ 48 ≤ b.toNat ∧ b.toNat ≤ 57 := by unfold dgB; simp
theorem dig_is (u : Nat) (h : u < 10) : (UInt8.ofNat (48 + u)).toNat = 48 + u := by
  rw [UInt8.toNat_ofNat']
  omega
theorem dec_dg (u : Nat) : ∀ b ∈ Lib.decDigits u, dgB b = true := by
  induction u using Nat.strongRecOn with
  | ind u ih =>
    intro b hb
    rw [Lib.decDigits] at hb
    split at hb
    · rename_i h
      have : b = UInt8.ofNat (48 + u) := by simpa using hb
      rw [this, dg_iff, dig_is u h]; omega
    · rename_i h
      rcases List.mem_append.1 hb with hb | hb
      · exact ih (u / 10) (by omega) b hb
      · have : b = UInt8.ofNat (48 + u % 10) := by simpa using hb
        rw [this, dg_iff, dig_is _ (by omega)]; omega
theorem dec_ne (u : Nat) : Lib.decDigits u ≠ [] := by
  rw [Lib.decDigits]; split <;> simp
theorem dec_num (u : Nat) : numOf (Lib.decDigits u) = u := by
  induction u using Nat.strongRecOn with
  | ind u ih =>
    rw [Lib.decDigits]
    split
    · rename_i h
      show 10 * 0 + ((UInt8.ofNat (48 + u)).toNat - 48) = u
      rw [dig_is u h]; omega
    · rename_i h
      unfold numOf
      rw [List.foldl_append]
      show 10 * numOf (Lib.decDigits (u / 10)) + ((UInt8.ofNat (48 + u % 10)).toNat - 48) = u
      rw [ih (u / 10) (by omega), dig_is _ (by omega)]; omega
theorem pu_snoc (c : UInt8) (hc : dgB c = true) : ∀ (l : List UInt8) (acc v : Nat), Lib.parseUint10 acc l = .ok v → v < 100000000000000000 → Lib.parseUint10 acc (l ++ [c]) = .ok (v * 10 + (c.toNat - 48))
  | [], acc, v, h, hv => by
    simp only [Lib.parseUint10] at h
    injection h with h
    subst h
    rw [List.nil_append]
    simp only [Lib.parseUint10]
    have := (dg_iff c).1 hc
    rw [if_pos this, if_neg (by omega), if_neg (by omega)]
  | b :: r, acc, v, h, hv => by
    simp only [Lib.parseUint10] at h
    rw [List.cons_append]
    simp only [Lib.parseUint10]
    split at h
    · rename_i h1
      rw [if_pos h1]
      split at h
      · cases h
      · rename_i h2
        rw [if_neg h2]
        split at h
        · cases h
        · rename_i h3
          rw [if_neg h3]
          exact pu_snoc c hc r _ v h hv
    · cases h
theorem pu_dec (u : Nat) (hu : u < 100000000000000000) : Lib.parseUint10 0 (Lib.decDigits u) = .ok u := by
  induction u using Nat.strongRecOn with
  | ind u ih =>
    rw [Lib.decDigits]
    split
    · rename_i h
      have h1 := dig_is u h
      simp only [Lib.parseUint10]
      rw [h1, if_pos (by omega), if_neg (by omega), if_neg (by omega)]
      congr 1; omega
    · rename_i h
      have h1 := dig_is (u % 10) (by omega)
      have h2 := pu_snoc (UInt8.ofNat (48 + u % 10)) (by rw [dg_iff, h1]; omega) _ _ _ (ih (u / 10) (by omega) (by omega)) (by omega)
      rw [h2, h1]
      congr 1; omega
theorem dec_head (u : Nat) : ∃ b r, Lib.decDigits u = b :: r ∧ dgB b = true := by
  cases h : Lib.decDigits u with
  | nil => exact absurd h (dec_ne u)
  | cons b r => exact ⟨b, r, rfl, dec_dg u b (by rw [h]; exact List.mem_cons_self)⟩
theorem itoa_pos (n : Nat) : Lib.itoa (n : Int) = Lib.decDigits n := Lib.itoa_nonneg n
theorem num_itoa (n : Int) (h0 : -1000000000 ≤ n) (h1 : n ≤ 1000000000) : numA (Lib.itoa n) = some n := by
  rcases Int.lt_or_le n 0 with hn | hn
  · obtain ⟨m, rfl⟩ : ∃ m : Nat, n = -(m : Int) := ⟨n.natAbs, by omega⟩
    rw [Lib.itoa_neg m (by omega)]
    unfold numA Lib.atoiAll
    have h45 : (45 : UInt8).toNat = 45 := rfl
    simp only [h45, or_true, if_pos]
    unfold Lib.parseMag
    rw [if_neg (dec_ne m), pu_dec m (by omega)]
    simp only [not_true, false_and, if_false, true_and]
    rw [if_neg (by omega)]
  · obtain ⟨m, rfl⟩ : ∃ m : Nat, n = (m : Int) := ⟨n.natAbs, by omega⟩
    rw [itoa_pos]
    have hp := pu_dec m (by omega)
    obtain ⟨b, r, hbr, hb⟩ := dec_head m
    rw [hbr] at hp ⊢
    have hb' := (dg_iff b).1 hb
    unfold numA Lib.atoiAll
    simp only
    rw [if_neg (by omega)]
    unfold Lib.parseMag
    rw [if_neg (by simp), hp]
    simp only
    rw [if_neg (by omega), if_neg (by omega), if_neg (by omega)]
/-- Signs that a numeral is made of. -/
theorem itoa_mem (n : Int) : ∀ b ∈ Lib.itoa n, dgB b = true ∨ b = 45 := by
  intro b hb
  unfold Lib.itoa at hb
  split at hb
  · rcases List.mem_cons.1 hb with h | h
    · exact .inr h
    · exact .inl (dec_dg _ b h)
  · exact .inl (dec_dg _ b hb)
theorem dg_ne {b : UInt8} (h : dgB b = true ∨ b = 45) : b ≠ 32 ∧ b ≠ 42 ∧ b ≠ 116 ∧ b ≠ 94 ∧ b ≠ 43 := by
  refine ⟨?_, ?_, ?_, ?_, ?_⟩ <;> (rintro rfl; revert h; decide)
theorem power_ne (e : Int) : ∀ b ∈ powerL e, b ≠ 32 := by
  intro b hb
  unfold powerL at hb
  split at hb
  · have : b = 116 := by simpa using hb
    subst this; decide
  · rcases List.mem_append.1 hb with h | h
    · have : b = 116 ∨ b = 94 := by simpa using h
      rcases this with rfl | rfl <;> decide
    · exact (dg_ne (itoa_mem e b h)).1
theorem body_ne (c e : Int) : ∀ b ∈ bodyL c e, b ≠ 32 := by
  intro b hb
  unfold bodyL at hb
  split at hb
  · exact (dg_ne (itoa_mem c b hb)).1
  · split at hb
    · exact power_ne e b hb
    · rcases List.mem_append.1 hb with h | h
      · rcases List.mem_append.1 h with h | h
        · exact (dg_ne (itoa_mem c b h)).1
        · have : b = 42 := by simpa using h
          subst this; decide
      · exact power_ne e b h
theorem pow_back (e : Int) (h0 : -1000 ≤ e) (h1 : e ≤ 1000) : powP (powerL e) = some e := by
  unfold powerL
  split
  · rename_i h; subst h; rfl
  · unfold powP
    have hne : ([116, 94] ++ Lib.itoa e : List UInt8) ≠ [116] := by simp
    have hp : Lib.hasPrefix ([116, 94] ++ Lib.itoa e) [116, 94] = true := by simp [Lib.hasPrefix, List.isPrefixOf]
    rw [if_neg hne, if_pos hp]
    unfold Lib.trimPrefix
    rw [if_pos hp]
    exact num_itoa e (by omega) (by omega)
theorem pre_t (s : List UInt8) : Lib.hasPrefix s [116] = decide (s.head? = some 116) := by
  cases s with
  | nil => rfl
  | cons b r =>
    rw [Bool.eq_iff_iff]
    simp [Lib.hasPrefix, List.isPrefixOf]
    exact eq_comm
theorem pre_m (s : List UInt8) : Lib.hasPrefix s [45] = decide (s.head? = some 45) := by
  cases s with
  | nil => rfl
  | cons b r =>
    rw [Bool.eq_iff_iff]
    simp [Lib.hasPrefix, List.isPrefixOf]
    exact eq_comm
theorem cut_none (s : List UInt8) (h : ∀ b ∈ s, b ≠ 42) : Lib.cut s [42] = (s, [], false) := by
  have hi : Lib.index s [42] = -1 := by
    rcases Int.lt_or_le (Lib.index s [42]) 0 with h1 | h1
    · have := Lib.index_ge s [42]; omega
    · obtain ⟨i, hI⟩ : ∃ i : Nat, Lib.index s [42] = i := ⟨(Lib.index s [42]).toNat, by omega⟩
      rw [Lib.index_one] at hI
      obtain ⟨h2, -⟩ := Lib.indexByte_some hI
      exact absurd rfl (h 42 (List.mem_of_getElem? h2))
  unfold Lib.cut
  rw [if_neg (by rw [hi]; omega)]
theorem cut_some (l r : List UInt8) (h : ∀ b ∈ l, b ≠ 42) : Lib.cut (l ++ 42 :: r) [42] = (l, r, true) := by
  have hx : (l ++ 42 :: r)[l.length]? = some 42 := by simp
  have hge := Lib.index_ge (l ++ 42 :: r) [42]
  have hi : Lib.index (l ++ 42 :: r) [42] = (l.length : Int) := by
    by_cases hm : Lib.index (l ++ 42 :: r) [42] = -1
    · rw [Lib.index_one] at hm
      exact absurd hx (Lib.indexByte_none hm l.length)
    · obtain ⟨i, hI⟩ : ∃ i : Nat, Lib.index (l ++ 42 :: r) [42] = i := ⟨(Lib.index (l ++ 42 :: r) [42]).toNat, by omega⟩
      have hb := hI
      rw [Lib.index_one] at hb
      obtain ⟨h1, h2⟩ := Lib.indexByte_some hb
      rw [hI]
      rcases Nat.lt_trichotomy i l.length with hc | hc | hc
      · rw [List.getElem?_append_left hc] at h1
        exact absurd rfl (h 42 (List.mem_of_getElem? h1))
      · rw [hc]
      · exact absurd hx (h2 l.length hc)
  unfold Lib.cut
  rw [if_pos (by rw [hi]; omega), hi]
  simp
theorem itoa_ne (n : Int) : Lib.itoa n ≠ [] := by
  unfold Lib.itoa
  split
  · simp
  · exact dec_ne _
theorem itoa_head (n : Nat) (r : List UInt8) : ∃ b q, Lib.itoa (n : Int) ++ r = b :: q ∧ dgB b = true := by
  rw [itoa_pos]
  obtain ⟨b, q, h, hb⟩ := dec_head n
  exact ⟨b, q ++ r, by rw [h]; rfl, hb⟩
theorem term_back (c : Nat) (e : Int) (h0 : -1000 ≤ e) (h1 : e ≤ 1000) (h2 : 1 ≤ c) (h3 : c ≤ 1000000) : termP (bodyL (c : Int) e) = some (e, (c : Int)) := by
  have h42 : ∀ b ∈ Lib.itoa (c : Int), b ≠ 42 := fun b hb => (dg_ne (itoa_mem _ b hb)).2.1
  unfold bodyL
  split
  · rename_i h; subst h
    obtain ⟨b, q, hq, hb⟩ := itoa_head c []
    rw [List.append_nil] at hq
    unfold termP
    rw [if_neg (by rw [pre_t, hq]; simpa using (dg_ne (.inl hb)).2.2.1), cut_none _ h42]
    simp only
    rw [num_itoa c (by omega) (by omega)]
    rfl
  · split
    · rename_i h hc
      unfold termP
      have hp : Lib.hasPrefix (powerL e) [116] = true := by
        rw [pre_t]; unfold powerL; split <;> rfl
      rw [if_pos hp, pow_back e h0 h1]
      have : (c : Int) = 1 := hc
      rw [this]; rfl
    · have e1 : Lib.itoa (c : Int) ++ [42] ++ powerL e = Lib.itoa (c : Int) ++ 42 :: powerL e := by simp
      rw [e1]
      obtain ⟨b, q, hq, hb⟩ := itoa_head c (42 :: powerL e)
      unfold termP
      rw [if_neg (by rw [pre_t, hq]; simpa using (dg_ne (.inl hb)).2.2.1), cut_some _ _ h42]
      simp only
      rw [num_itoa c (by omega) (by omega)]
      simp only
      rw [if_neg (by simp), pow_back e h0 h1]
      rfl
/-- A term that may stand in a polynomial. -/
def TmOk (t : Int × Int) : Prop := -1000 ≤ t.1 ∧ t.1 ≤ 1000 ∧ -1000000 ≤ t.2 ∧ t.2 ≤ 1000000 ∧ t.2 ≠ 0
theorem may_tm {l : List (Int × Int)} (h : mayB l = true) : ∀ t ∈ l, TmOk t := by
  intro t ht
  obtain ⟨i, hi⟩ := List.mem_iff_getElem?.1 ht
  have hlt : i < l.length := (List.getElem?_eq_some_iff.1 hi).1
  have h1 := (okB_iff l i).1 (((may_iff l).1 h).2 i hlt)
  have h2 : l.getD i (0, 0) = t := by rw [List.getD_eq_getElem?_getD, hi]; rfl
  rw [h2] at h1
  exact ⟨h1.1, h1.2.1, h1.2.2.1, h1.2.2.2.1, h1.2.2.2.2.1⟩
/-- A term's body. -/
def bodyT (t : Int × Int) : List UInt8 := bodyL (t.2.natAbs : Int) t.1
/-- A term behind others. -/
def restT (t : Int × Int) : List UInt8 := leadL false (decide (t.2 < 0)) ++ bodyT t
/-- Terms behind others. -/
def restL (r : List (Int × Int)) : List UInt8 := r.flatMap restT
theorem rest_snoc (r : List (Int × Int)) (t : Int × Int) : restL (r ++ [t]) = restL r ++ restT t := by
  unfold restL; rw [List.flatMap_append]; simp
theorem textTo_cons (t : Int × Int) (r : List (Int × Int)) : ∀ k, k ≤ r.length → textTo (t :: r) (k + 1) = leadL true (decide (t.2 < 0)) ++ bodyT t ++ restL (r.take k)
  | 0, _ => by
    rw [List.take_zero]
    show ([] ++ termL 0 t : List UInt8) = _
    simp [termL, bodyT, restL]
  | k + 1, hk => by
    rw [textTo, textTo_cons t r k (by omega)]
    have h1 : (t :: r).getD (k + 1) (0, 0) = r.getD k (0, 0) := by simp [List.getD_eq_getElem?_getD]
    have h2 : r.take (k + 1) = r.take k ++ [r.getD k (0, 0)] := by
      rw [List.take_add_one, List.getElem?_eq_getElem (by omega), List.getD_eq_getElem?_getD, List.getElem?_eq_getElem (by omega)]
      rfl
    rw [h1, h2, rest_snoc]
    have h3 : termL (k + 1) (r.getD k (0, 0)) = restT (r.getD k (0, 0)) := by
      unfold termL restT bodyT
      rw [decide_eq_false (by omega)]
    rw [h3]
    simp [List.append_assoc]
theorem text_cons (t : Int × Int) (r : List (Int × Int)) : textL (t :: r) = leadL true (decide (t.2 < 0)) ++ bodyT t ++ restL r := by
  unfold textL
  rw [if_neg (by simp), List.length_cons, textTo_cons t r r.length (Nat.le_refl _), List.take_length]
theorem body_head (t : Int × Int) (_h : TmOk t) (r : List UInt8) : ∃ b q, bodyT t ++ r = b :: q ∧ (dgB b = true ∨ b = 116) := by
  unfold bodyT bodyL
  split
  · obtain ⟨b, q, h1, h2⟩ := itoa_head t.2.natAbs r
    exact ⟨b, q, h1, .inl h2⟩
  · split
    · unfold powerL
      split
      · exact ⟨116, r, rfl, .inr rfl⟩
      · exact ⟨116, 94 :: (Lib.itoa t.1 ++ r), by simp, .inr rfl⟩
    · obtain ⟨b, q, h1, h2⟩ := itoa_head t.2.natAbs ([42] ++ powerL t.1 ++ r)
      exact ⟨b, q, by rw [← h1]; simp [List.append_assoc], .inl h2⟩
/-- The words behind the first. -/
def wordsW (r : List (Int × Int)) : List (List UInt8) := r.flatMap fun t => [[if t.2 < 0 then 45 else 43], bodyT t]
theorem split_text (r : List (Int × Int)) : ∀ b : List UInt8, (∀ x ∈ b, x ≠ 32) → splitS (b ++ restL r) = b :: wordsW r := by
  induction r with
  | nil => intro b hb; simp [restL, wordsW]; exact split_none b hb
  | cons t r ih =>
    intro b hb
    have e1 : restL (t :: r) = 32 :: ([if t.2 < 0 then 45 else 43] ++ 32 :: (bodyT t ++ restL r)) := by
      show restT t ++ restL r = _
      unfold restT leadL
      by_cases h : t.2 < 0 <;> simp [h]
    have hsg : ∀ x ∈ [if t.2 < 0 then (45 : UInt8) else 43], x ≠ 32 := by
      intro x hx
      by_cases h : t.2 < 0
      · rw [if_pos h] at hx
        have : x = 45 := by simpa using hx
        subst this; decide
      · rw [if_neg h] at hx
        have : x = 43 := by simpa using hx
        subst this; decide
    rw [e1, split_cons b _ hb, split_cons _ _ hsg, ih (bodyT t) (body_ne _ _)]
    rfl
theorem words_back (r : List (Int × Int)) : ∀ (i : Nat) (bl : Bool) (acc : List (Int × Int)), i % 2 = 1 → (∀ t ∈ r, TmOk t) → wordsP (wordsW r) i bl acc = some (acc ++ r) := by
  induction r with
  | nil => intro i bl acc _ _; simp [wordsW, wordsP]
  | cons t r ih =>
    intro i bl acc hi hr
    have ht := hr t List.mem_cons_self
    have e1 : wordsW (t :: r) = [if t.2 < 0 then 45 else 43] :: bodyT t :: wordsW r := rfl
    rw [e1]
    unfold wordsP
    rw [if_pos hi, if_pos (by by_cases h : t.2 < 0 <;> simp [h])]
    unfold wordsP
    rw [if_neg (by omega)]
    unfold TmOk at ht
    have hb : termP (bodyT t) = some (t.1, (t.2.natAbs : Int)) := term_back t.2.natAbs t.1 ht.1 ht.2.1 (by omega) (by omega)
    rw [hb]
    simp only
    have e2 : (if (decide ([if t.2 < 0 then 45 else 43] = ([45] : List UInt8))) = true then IntKind.i64.wrap (-(t.2.natAbs : Int)) else (t.2.natAbs : Int)) = t.2 := by
      by_cases h : t.2 < 0
      · rw [if_pos h, if_pos (by decide)]
        have : -(t.2.natAbs : Int) = t.2 := by omega
        rw [this]
        exact IntWalk.i64_in t.2 ⟨by omega, by omega⟩
      · rw [if_neg h, if_neg (by decide)]
        omega
    rw [e2, ih (i + 1 + 1) _ _ (by omega) (fun x hx => hr x (List.mem_cons_of_mem _ hx))]
    simp
theorem text_ne (l : List (Int × Int)) (h : mayB l = true) (hl : l ≠ []) : textL l ≠ [48] := by
  cases l with
  | nil => exact absurd rfl hl
  | cons t r =>
    have ht := may_tm h t List.mem_cons_self
    rw [text_cons]
    intro e
    obtain ⟨b, q, hq, hb⟩ := body_head t ht (restL r)
    unfold leadL at e
    rw [if_pos rfl] at e
    by_cases hn : t.2 < 0
    · rw [decide_eq_true hn, if_pos rfl] at e
      simp at e
    · rw [decide_eq_false hn, if_neg (by decide), List.nil_append] at e
      have hl1 : (bodyT t ++ restL r).length = 1 := by rw [e]; rfl
      obtain ⟨b', q', hq', -⟩ := body_head t ht []
      rw [List.append_nil] at hq'
      have h1 : 1 ≤ (bodyT t).length := by rw [hq']; simp
      rw [List.length_append] at hl1
      have h2 : restL r = [] := List.length_eq_zero_iff.1 (by omega)
      rw [h2, List.append_nil] at e
      unfold TmOk at ht
      have hb : termP (bodyT t) = some (t.1, (t.2.natAbs : Int)) := term_back t.2.natAbs t.1 ht.1 ht.2.1 (by omega) (by omega)
      rw [e] at hb
      have : termP [48] = some (0, 0) := by decide +kernel
      rw [this] at hb
      injection hb with hb
      have := congrArg Prod.snd hb
      simp only at this
      omega
/-- WHAT IS TOLD IS READ AS IT WAS, word by word. -/
theorem parse_text (l : List (Int × Int)) (h : mayB l = true) : parseP (textL l) = some l := by
  cases l with
  | nil => rfl
  | cons t r =>
    have hne := text_ne (t :: r) h (by simp)
    have ht := may_tm h t List.mem_cons_self
    unfold parseP
    rw [if_neg hne, text_cons]
    obtain ⟨b, q, hq, hb⟩ := body_head t ht (restL r)
    have hb45 : b ≠ 45 := by
      rintro rfl
      rcases hb with hb | hb
      · exact absurd hb (by decide)
      · exact absurd hb (by decide)
    have hs := split_text r (bodyT t) (body_ne _ _)
    have ht' := ht
    unfold TmOk at ht'
    have hbk : termP (bodyT t) = some (t.1, (t.2.natAbs : Int)) := term_back t.2.natAbs t.1 ht'.1 ht'.2.1 (by omega) (by omega)
    have key : ∀ bl : Bool, bl = decide (t.2 < 0) → wordsP (bodyT t :: wordsW r) 0 bl [] = some (t :: r) := by
      intro bl hbl
      unfold wordsP
      rw [if_neg (by decide), hbk]
      simp only
      have e2 : (if bl = true then IntKind.i64.wrap (-(t.2.natAbs : Int)) else (t.2.natAbs : Int)) = t.2 := by
        rw [hbl]
        by_cases hn : t.2 < 0
        · rw [decide_eq_true hn, if_pos rfl]
          have : -(t.2.natAbs : Int) = t.2 := by omega
          rw [this]
          exact IntWalk.i64_in t.2 ⟨by omega, by omega⟩
        · rw [decide_eq_false hn, if_neg (by decide)]; omega
      rw [e2, words_back r _ _ _ (by decide) (fun x hx => may_tm h x (List.mem_cons_of_mem _ hx))]
      rfl
    by_cases hn : t.2 < 0
    · have e1 : leadL true (decide (t.2 < 0)) ++ bodyT t ++ restL r = 45 :: (bodyT t ++ restL r) := by
        rw [decide_eq_true hn]; rfl
      have hp : Lib.hasPrefix (45 :: (bodyT t ++ restL r)) [45] = true := by rw [pre_m]; rfl
      rw [e1]
      unfold Lib.trimPrefix
      rw [hp, if_pos rfl]
      show wordsP (splitS (bodyT t ++ restL r)) 0 true [] = _
      rw [hs]
      exact key true (decide_eq_true hn).symm
    · have e1 : leadL true (decide (t.2 < 0)) ++ bodyT t ++ restL r = bodyT t ++ restL r := by
        rw [decide_eq_false hn]; rfl
      have hp : Lib.hasPrefix (bodyT t ++ restL r) [45] = false := by
        rw [pre_m, hq]
        simpa using hb45
      rw [e1]
      unfold Lib.trimPrefix
      rw [hp, if_neg (by decide), hs]
      exact key false (decide_eq_false hn).symm
theorem text_inj (l l' : List (Int × Int)) (h : mayB l = true) (h' : mayB l' = true) (e : textL l = textL l') : l = l' := by
  have h1 := parse_text l h
  rw [e, parse_text l' h'] at h1
  exact (Option.some.inj h1).symm
end Go.Proofs.YthbhllomikfbhaaDoor.Poly
