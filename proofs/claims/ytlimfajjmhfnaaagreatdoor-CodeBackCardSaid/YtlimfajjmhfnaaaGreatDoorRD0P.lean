/- Several texts of the proof, one behind the other. -/
import Derived.Lib.ItoaNum
import Derived.Lib.ItoaLen
import Derived.Lib.ItoaMem
import Derived.Lib.Join
import Derived.Test.YtlimfajjmhfnaaaGreatDoorH1P
/- Texts of diagrams, as bytes: plain functions on lists, their lengths. No program is named here. -/
namespace Go.Proofs.YtlimfajjmhfnaaaGreatDoor

/-- What a crossing's text begins with. -/
def openL (p : Bool) : List UInt8 := if p then [88, 43, 91] else [88, 45, 91]
/-- The numbers of a crossing, as texts. -/
def numsL (x : Cr) : List (List UInt8) := [Lib.itoa x.a, Lib.itoa x.b, Lib.itoa x.c, Lib.itoa x.d]
/-- The text of a crossing. -/
def crossL (x : Cr) : List UInt8 := openL x.plus ++ Lib.join (numsL x) [44] ++ [93]
/-- The parts of a text. -/
def partsL (C : List Cr) (loops : Nat) : List (List UInt8) := C.map crossL ++ List.replicate loops [79]
/-- The whole text. -/
def textD (C : List Cr) (loops : Nat) : List UInt8 := Lib.join (partsL C loops) [32]
/-- Parts, each behind a blank. -/
def blankL (l : List (List UInt8)) : List UInt8 := (l.map (32 :: ·)).flatten

theorem blank_snoc (l : List (List UInt8)) (x : List UInt8) : blankL (l ++ [x]) = blankL l ++ ([32] ++ x) := by
  unfold blankL
  simp
theorem join_blank (l : List (List UInt8)) (h : l ≠ []) : Lib.join l [32] = (blankL l).drop 1 := by
  cases l with
  | nil => exact absurd rfl h
  | cons x r =>
    rw [Lib.join_cons]
    unfold blankL Lib.joinTail
    simp
theorem blank_len (l : List (List UInt8)) (m : Nat) (h : ∀ x ∈ l, x.length ≤ m) : (blankL l).length ≤ l.length * (m + 1) := by
  induction l with
  | nil => simp [blankL]
  | cons x r ih =>
    have h1 := ih (fun y hy => h y (List.mem_cons_of_mem _ hy))
    have h2 := h x List.mem_cons_self
    unfold blankL at h1 ⊢
    simp only [List.map_cons, List.flatten_cons, List.length_append, List.length_cons]
    rw [Nat.add_mul]
    omega
theorem nums_join (x : Cr) : Lib.join (numsL x) [44] = Lib.itoa x.a ++ [44] ++ Lib.itoa x.b ++ [44] ++ Lib.itoa x.c ++ [44] ++ Lib.itoa x.d := by
  unfold numsL
  rw [Lib.join_cons]
  unfold Lib.joinTail
  simp
/-- Arcs that are no more than a million in size. -/
def Small (x : Cr) : Prop := (-1000000 ≤ x.a ∧ x.a ≤ 1000000) ∧ (-1000000 ≤ x.b ∧ x.b ≤ 1000000) ∧ (-1000000 ≤ x.c ∧ x.c ≤ 1000000) ∧ (-1000000 ≤ x.d ∧ x.d ≤ 1000000)
theorem itoa_small (n : Int) (h : -1000000 ≤ n ∧ n ≤ 1000000) : (Lib.itoa n).length ≤ 21 := Lib.itoa_length_le n (by omega) (by omega)
theorem nums_len {x : Cr} (h : Small x) : ∀ y ∈ numsL x, y.length ≤ 21 := by
  intro y hy
  unfold numsL at hy
  obtain ⟨h1, h2, h3, h4⟩ := h
  simp only [List.mem_cons, List.not_mem_nil, or_false] at hy
  rcases hy with rfl | rfl | rfl | rfl
  · exact itoa_small _ h1
  · exact itoa_small _ h2
  · exact itoa_small _ h3
  · exact itoa_small _ h4
theorem cross_len {x : Cr} (h : Small x) : (crossL x).length ≤ 100 := by
  obtain ⟨h1, h2, h3, h4⟩ := h
  have a1 := itoa_small _ h1
  have a2 := itoa_small _ h2
  have a3 := itoa_small _ h3
  have a4 := itoa_small _ h4
  have hp : (openL x.plus).length = 3 := by cases x.plus <;> rfl
  unfold crossL
  rw [nums_join]
  simp only [List.length_append, List.length_cons, List.length_nil, hp]
  omega
theorem parts_len {C : List Cr} {loops : Nat} (h : ∀ x ∈ C, Small x) : ∀ y ∈ partsL C loops, y.length ≤ 100 := by
  intro y hy
  unfold partsL at hy
  rcases List.mem_append.1 hy with hy | hy
  · obtain ⟨x, hx, rfl⟩ := List.mem_map.1 hy
    exact cross_len (h x hx)
  · rw [List.eq_of_mem_replicate hy]
    decide
end Go.Proofs.YtlimfajjmhfnaaaGreatDoor
/- Texts of diagrams that are read: plain functions on lists of bytes; two ways to read a text, part by part and sign by sign, are one. No program is named here. -/
namespace Go.Proofs.YtlimfajjmhfnaaaGreatDoor

/-- A blank. -/
def blB (b : UInt8) : Bool := b == 9 || b == 10 || b == 13 || b == 32
/-- A digit. -/
def dgB (b : UInt8) : Bool := decide (48 ≤ b.toNat) && decide (b.toNat ≤ 57)
/-- The number of digits. -/
def numOf (l : List UInt8) : Nat := l.foldl (fun n b => 10 * n + (b.toNat - 48)) 0
/-- A number of one digit to three. -/
def numP (l : List UInt8) : Option Nat := if 1 ≤ l.length ∧ l.length ≤ 3 ∧ l.all dgB = true then some (numOf l) else none
/-- Parts between commas. -/
def splitC : List UInt8 → List (List UInt8)
  | [] => [[]]
  | b :: r => if b = 44 then [] :: splitC r else match splitC r with
    | [] => [[b]]
    | p :: q => (b :: p) :: q
/-- A crossing of four numbers. -/
def crossN (plus : Bool) (l : List (List UInt8)) : Option Cr := match l with
  | [x, y, z, u] => match numP x, numP y, numP z, numP u with
    | some a, some b, some c, some d => some ⟨a, b, c, d, plus⟩
    | _, _, _, _ => none
  | _ => none
/-- What a crossing's text begins with: the sign, and what is left. -/
def headP (l : List UInt8) : Option (Bool × List UInt8) := match l with
  | x :: y :: z :: r => if x = 88 ∧ (y = 43 ∨ y = 45) ∧ z = 91 then some (decide (y = 43), r) else none
  | _ => none
/-- A part that tells of a crossing. -/
def crossP (l : List UInt8) : Option Cr := match headP l with
  | none => none
  | some (plus, r) => if r.getLast? = some 93 then crossN plus (splitC r.dropLast) else none
/-- A number, and a sign behind it. -/
def scanN (want : UInt8) (l : List UInt8) : Option (Nat × List UInt8) :=
  if ((l.take 3).takeWhile dgB).length = 0 then none else match l.drop ((l.take 3).takeWhile dgB).length with
    | [] => none
    | b :: r => if b = want then some (numOf ((l.take 3).takeWhile dgB), r) else none
/-- A crossing that stands ahead of something. -/
def crossS (l : List UInt8) : Option (Cr × List UInt8) := match headP l with
  | none => none
  | some (plus, r0) => match scanN 44 r0 with
    | none => none
    | some (a, r1) => match scanN 44 r1 with
      | none => none
      | some (b, r2) => match scanN 44 r2 with
        | none => none
        | some (c, r3) => match scanN 93 r3 with
          | none => none
          | some (d, r4) => some (⟨a, b, c, d, plus⟩, r4)

theorem split_ne (l : List UInt8) : splitC l ≠ [] := by
  cases l with
  | nil => simp [splitC]
  | cons b r =>
    unfold splitC
    split
    · simp
    · split <;> simp
theorem split_none (l : List UInt8) (h : ∀ b ∈ l, b ≠ 44) : splitC l = [l] := by
  induction l with
  | nil => rfl
  | cons b r ih =>
    unfold splitC
    rw [if_neg (h b List.mem_cons_self), ih (fun x hx => h x (List.mem_cons_of_mem _ hx))]
theorem split_cons (l r : List UInt8) (h : ∀ b ∈ l, b ≠ 44) : splitC (l ++ 44 :: r) = l :: splitC r := by
  induction l with
  | nil => rw [List.nil_append]; conv => lhs; unfold splitC
           rw [if_pos rfl]
  | cons b q ih =>
    rw [List.cons_append]
    conv => lhs; unfold splitC
    rw [if_neg (h b List.mem_cons_self), ih (fun x hx => h x (List.mem_cons_of_mem _ hx))]
theorem split_back (l : List UInt8) : ∀ x q, splitC l = x :: q → (q = [] ∧ l = x) ∨ (∃ r, l = x ++ 44 :: r ∧ splitC r = q) := by
  induction l with
  | nil =>
    intro x q h
    unfold splitC at h
    injection h with h1 h2
    subst h1 h2
    exact Or.inl ⟨rfl, rfl⟩
  | cons b r ih =>
    intro x q h
    unfold splitC at h
    by_cases hb : b = 44
    · rw [if_pos hb] at h
      injection h with h1 h2
      subst h1
      exact Or.inr ⟨r, by rw [hb]; rfl, h2⟩
    · rw [if_neg hb] at h
      cases hs : splitC r with
      | nil => exact absurd hs (split_ne r)
      | cons p t =>
        rw [hs] at h
        injection h with h1 h2
        subst h1 h2
        rcases ih p t hs with ⟨h3, h4⟩ | ⟨r', h3, h4⟩
        · exact Or.inl ⟨h3, by rw [h4]⟩
        · exact Or.inr ⟨r', by rw [h3]; rfl, h4⟩

theorem numP_some {l : List UInt8} {n : Nat} (h : numP l = some n) : 1 ≤ l.length ∧ l.length ≤ 3 ∧ (∀ b ∈ l, dgB b = true) ∧ n = numOf l := by
  unfold numP at h
  split at h
  · rename_i hc
    exact ⟨hc.1, hc.2.1, fun b hb => List.all_eq_true.1 hc.2.2 b hb, (Option.some.inj h).symm⟩
  · cases h
theorem numP_mk {l : List UInt8} (h1 : 1 ≤ l.length) (h2 : l.length ≤ 3) (h3 : ∀ b ∈ l, dgB b = true) : numP l = some (numOf l) := by
  unfold numP
  rw [if_pos ⟨h1, h2, List.all_eq_true.2 h3⟩]
theorem dg_ne {b x : UInt8} (h : dgB b = true) (hx : dgB x = false) : b ≠ x := fun e => by rw [e, hx] at h; cases h
theorem take_all (p : UInt8 → Bool) : ∀ (d r : List UInt8), (∀ b ∈ d, p b = true) → (∀ x, r.head? = some x → p x = false) → (d ++ r).takeWhile p = d := by
  intro d
  induction d with
  | nil =>
    intro r _ h
    cases r with
    | nil => rfl
    | cons x r => rw [List.nil_append, List.takeWhile_cons, h x rfl]; rfl
  | cons b d ih =>
    intro r h1 h2
    rw [List.cons_append, List.takeWhile_cons, h1 b List.mem_cons_self]
    simp only [if_true]
    rw [ih r (fun x hx => h1 x (List.mem_cons_of_mem _ hx)) h2]

theorem mem_take (p : UInt8 → Bool) : ∀ (l : List UInt8) (b : UInt8), b ∈ l.takeWhile p → p b = true := by
  intro l
  induction l with
  | nil => intro b hb; simp at hb
  | cons x r ih =>
    intro b hb
    rw [List.takeWhile_cons] at hb
    by_cases hx : p x = true
    · rw [if_pos hx] at hb
      rcases List.mem_cons.1 hb with h | h
      · rw [h]; exact hx
      · exact ih b h
    · rw [if_neg hx] at hb; simp at hb
/-- Of a number with a sign behind it that is no digit. -/
theorem scan_yes {d r : List UInt8} {w : UInt8} {n : Nat} (hn : numP d = some n) (hw : dgB w = false) : scanN w (d ++ w :: r) = some (n, r) := by
  obtain ⟨h1, h2, h3, rfl⟩ := numP_some hn
  have e : ((d ++ w :: r).take 3).takeWhile dgB = d := by
    rw [List.take_append, List.take_of_length_le h2]
    refine take_all dgB d _ h3 (fun x hx => ?_)
    cases hk : 3 - d.length with
    | zero => rw [hk] at hx; simp at hx
    | succ k =>
      rw [hk, List.take_succ_cons] at hx
      have : w = x := by simpa using hx
      rw [← this]; exact hw
  unfold scanN
  rw [e, if_neg (by omega), List.drop_left]
  simp
theorem scan_back {l r : List UInt8} {w : UInt8} {n : Nat} (h : scanN w l = some (n, r)) : ∃ d, l = d ++ w :: r ∧ numP d = some n := by
  unfold scanN at h
  by_cases h0 : ((l.take 3).takeWhile dgB).length = 0
  · rw [if_pos h0] at h; cases h
  · rw [if_neg h0] at h
    obtain ⟨d, hd⟩ : ∃ d, (l.take 3).takeWhile dgB = d := ⟨_, rfl⟩
    rw [hd] at h h0
    have hp : d <+: l := by
      rw [← hd]
      exact (List.takeWhile_prefix _).trans (List.take_prefix 3 l)
    obtain ⟨t, ht⟩ := hp
    rw [← ht, List.drop_left] at h
    have hall : ∀ b ∈ d, dgB b = true := fun b hb => by
      rw [← hd] at hb
      exact mem_take _ _ b hb
    have hlen : d.length ≤ 3 := by
      rw [← hd]
      exact Nat.le_trans (List.takeWhile_prefix _).length_le (List.length_take_le 3 l)
    cases t with
    | nil => cases h
    | cons b q =>
      simp only at h
      by_cases hb : b = w
      · rw [if_pos hb] at h
        have h5 := Option.some.inj h
        injection h5 with h6 h7
        exact ⟨d, by rw [← ht, hb, h7], by rw [numP_mk (by omega) hlen hall, h6]⟩
      · rw [if_neg hb] at h; cases h
/-- The text of a crossing: its four numbers as they stand there. -/
def Tells (plus : Bool) (x y z u : List UInt8) (c : Cr) : Prop := ∃ a b c' d, numP x = some a ∧ numP y = some b ∧ numP z = some c' ∧ numP u = some d ∧ c = ⟨a, b, c', d, plus⟩
theorem head_some {l r : List UInt8} {plus : Bool} (h : headP l = some (plus, r)) : l = 88 :: (if plus then 43 else 45) :: 91 :: r := by
  unfold headP at h
  split at h
  · rename_i x y z q
    by_cases hc : x = 88 ∧ (y = 43 ∨ y = 45) ∧ z = 91
    · rw [if_pos hc] at h
      have h5 := Option.some.inj h
      injection h5 with h6 h7
      obtain ⟨h1, h2, h3⟩ := hc
      rw [h1, h3, h7]
      rcases h2 with h2 | h2
      · rw [h2] at h6
        rw [← h6, h2]; rfl
      · rw [h2] at h6
        rw [← h6, h2]; rfl
    · rw [if_neg hc] at h; cases h
  · cases h
theorem head_mk (plus : Bool) (r : List UInt8) : headP (88 :: (if plus then 43 else 45) :: 91 :: r) = some (plus, r) := by
  cases plus <;> simp [headP]
theorem crossS_iff {l r : List UInt8} {c : Cr} : crossS l = some (c, r) ↔ ∃ plus x y z u, Tells plus x y z u c ∧ l = 88 :: (if plus then 43 else 45) :: 91 :: (x ++ 44 :: (y ++ 44 :: (z ++ 44 :: (u ++ 93 :: r)))) := by
  constructor
  · intro h
    unfold crossS at h
    cases h0 : headP l with
    | none => rw [h0] at h; cases h
    | some q =>
      obtain ⟨plus, r0⟩ := q
      rw [h0] at h
      simp only at h
      cases h1 : scanN 44 r0 with
      | none => rw [h1] at h; cases h
      | some q =>
        obtain ⟨a, r1⟩ := q
        rw [h1] at h
        simp only at h
        cases h2 : scanN 44 r1 with
        | none => rw [h2] at h; cases h
        | some q =>
          obtain ⟨b, r2⟩ := q
          rw [h2] at h
          simp only at h
          cases h3 : scanN 44 r2 with
          | none => rw [h3] at h; cases h
          | some q =>
            obtain ⟨c', r3⟩ := q
            rw [h3] at h
            simp only at h
            cases h4 : scanN 93 r3 with
            | none => rw [h4] at h; cases h
            | some q =>
              obtain ⟨d, r4⟩ := q
              rw [h4] at h
              simp only at h
              have h5 := Option.some.inj h
              injection h5 with h6 h7
              obtain ⟨x, hx, nx⟩ := scan_back h1
              obtain ⟨y, hy, ny⟩ := scan_back h2
              obtain ⟨z, hz, nz⟩ := scan_back h3
              obtain ⟨u, hu, nu⟩ := scan_back h4
              exact ⟨plus, x, y, z, u, ⟨a, b, c', d, nx, ny, nz, nu, h6.symm⟩, by rw [head_some h0, hx, hy, hz, hu, h7]⟩
  · rintro ⟨plus, x, y, z, u, ⟨a, b, c', d, hx, hy, hz, hu, rfl⟩, rfl⟩
    unfold crossS
    rw [head_mk]
    simp only
    rw [scan_yes hx (by decide)]
    simp only
    rw [scan_yes hy (by decide)]
    simp only
    rw [scan_yes hz (by decide)]
    simp only
    rw [scan_yes hu (by decide)]
theorem num_comma {x : List UInt8} {n : Nat} (h : numP x = some n) : ∀ b ∈ x, b ≠ 44 := fun b hb => dg_ne ((numP_some h).2.2.1 b hb) (by decide)
theorem crossP_iff {l : List UInt8} {c : Cr} : crossP l = some c ↔ ∃ plus x y z u, Tells plus x y z u c ∧ l = 88 :: (if plus then 43 else 45) :: 91 :: (x ++ 44 :: (y ++ 44 :: (z ++ 44 :: (u ++ [93])))) := by
  constructor
  · intro h
    unfold crossP at h
    cases h0 : headP l with
    | none => rw [h0] at h; cases h
    | some q =>
      obtain ⟨plus, r0⟩ := q
      rw [h0] at h
      simp only at h
      by_cases hl : r0.getLast? = some 93
      · rw [if_pos hl] at h
        have hr : r0 = r0.dropLast ++ [93] := by
          obtain ⟨ys, hys⟩ := List.getLast?_eq_some_iff.1 hl
          rw [hys]; simp
        unfold crossN at h
        split at h
        · rename_i x y z u hs
          split at h
          · rename_i a b c' d hx hy hz hu
            have h6 := Option.some.inj h
            rcases split_back _ _ _ hs with ⟨h7, -⟩ | ⟨r1, e1, hs1⟩
            · cases h7
            rcases split_back _ _ _ hs1 with ⟨h7, -⟩ | ⟨r2, e2, hs2⟩
            · cases h7
            rcases split_back _ _ _ hs2 with ⟨h7, -⟩ | ⟨r3, e3, hs3⟩
            · cases h7
            rcases split_back _ _ _ hs3 with ⟨-, e4⟩ | ⟨r4, e4, hs4⟩
            · refine ⟨plus, x, y, z, u, ⟨a, b, c', d, hx, hy, hz, hu, h6.symm⟩, ?_⟩
              rw [head_some h0, hr, e1, e2, e3, e4]
              simp
            · exact absurd hs4 (split_ne r4)
          · cases h
        · cases h
      · rw [if_neg hl] at h; cases h
  · rintro ⟨plus, x, y, z, u, ⟨a, b, c', d, hx, hy, hz, hu, rfl⟩, rfl⟩
    unfold crossP
    rw [head_mk]
    simp only
    have e : x ++ 44 :: (y ++ 44 :: (z ++ 44 :: (u ++ [93]))) = (x ++ 44 :: (y ++ 44 :: (z ++ 44 :: u))) ++ [93] := by simp
    rw [e, if_pos List.getLast?_concat, List.dropLast_concat, split_cons _ _ (num_comma hx), split_cons _ _ (num_comma hy), split_cons _ _ (num_comma hz), split_none _ (num_comma hu)]
    unfold crossN
    simp [hx, hy, hz, hu]

/-- Is there a blank, or the end? -/
def blH (l : List UInt8) : Bool := match l with
  | [] => true
  | b :: _ => blB b
/-- Parts between blanks; what was begun stands ahead. -/
def fieldsC : List UInt8 → List UInt8 → List (List UInt8)
  | cur, [] => if cur = [] then [] else [cur]
  | cur, b :: r => if blB b then (if cur = [] then fieldsC [] r else cur :: fieldsC [] r) else fieldsC (cur ++ [b]) r
/-- Parts read one behind the other. -/
def readP : List (List UInt8) → List Cr → Nat → Option (List Cr × Nat)
  | [], acc, loops => some (acc, loops)
  | p :: r, acc, loops => if p = [79] then readP r acc (loops + 1) else match crossP p with
    | none => none
    | some c => readP r (acc ++ [c]) loops
/-- A text read sign by sign. -/
def readS : Nat → List UInt8 → List Cr → Nat → Option (List Cr × Nat)
  | _, [], acc, loops => some (acc, loops)
  | 0, _ :: _, _, _ => none
  | n + 1, b :: r, acc, loops => if blB b then readS n r acc loops else if b = 79 ∧ blH r = true then readS n r acc (loops + 1) else match crossS (b :: r) with
    | none => none
    | some (c, r') => if blH r' then readS n r' (acc ++ [c]) loops else none

theorem fields_cur (cur p t : List UInt8) (hp : ∀ b ∈ p, blB b = false) (ht : blH t = true) (hne : cur ++ p ≠ []) : fieldsC cur (p ++ t) = (cur ++ p) :: fieldsC [] t := by
  induction p generalizing cur with
  | nil =>
    rw [List.nil_append, List.append_nil]
    rw [List.append_nil] at hne
    cases t with
    | nil => simp [fieldsC, hne]
    | cons b r =>
      have hb : blB b = true := ht
      conv => lhs; unfold fieldsC
      conv => rhs; rhs; unfold fieldsC
      rw [if_pos hb, if_neg hne, if_pos hb, if_pos rfl]
  | cons b p ih =>
    rw [List.cons_append]
    conv => lhs; unfold fieldsC
    rw [if_neg (by rw [hp b List.mem_cons_self]; simp), ih (cur ++ [b]) (fun x hx => hp x (List.mem_cons_of_mem _ hx)) (by simp)]
    simp
theorem part_cut (l : List UInt8) : ∃ p t, l = p ++ t ∧ (∀ b ∈ p, blB b = false) ∧ blH t = true := by
  induction l with
  | nil => exact ⟨[], [], rfl, fun b hb => by simp at hb, rfl⟩
  | cons b r ih =>
    cases hb : blB b with
    | true => exact ⟨[], b :: r, rfl, fun x hx => by simp at hx, hb⟩
    | false =>
      obtain ⟨p, t, h1, h2, h3⟩ := ih
      refine ⟨b :: p, t, by rw [h1]; rfl, fun x hx => ?_, h3⟩
      rcases List.mem_cons.1 hx with h | h
      · rw [h]; exact hb
      · exact h2 x h
theorem cut_one2 {p t q s : List UInt8} (h : p ++ t = q ++ s) (hp : ∀ b ∈ p, blB b = false) (hq : ∀ b ∈ q, blB b = false) (ht : blH t = true) (hs : blH s = true) : p = q ∧ t = s := by
  induction p generalizing q with
  | nil =>
    cases q with
    | nil => exact ⟨rfl, h⟩
    | cons x q =>
      rw [List.nil_append] at h
      rw [h, List.cons_append] at ht
      have h1 : blB x = true := ht
      rw [hq x List.mem_cons_self] at h1
      cases h1
  | cons y p ih =>
    cases q with
    | nil =>
      rw [List.nil_append] at h
      rw [← h, List.cons_append] at hs
      have h1 : blB y = true := hs
      rw [hp y List.mem_cons_self] at h1
      cases h1
    | cons x q =>
      rw [List.cons_append, List.cons_append] at h
      injection h with h1 h2
      obtain ⟨h3, h4⟩ := ih h2 (fun b hb => hp b (List.mem_cons_of_mem _ hb)) (fun b hb => hq b (List.mem_cons_of_mem _ hb))
      exact ⟨by rw [h1, h3], h4⟩
theorem num_bl {x : List UInt8} {n : Nat} (h : numP x = some n) : ∀ b ∈ x, blB b = false := fun b hb => by
  have h1 := (numP_some h).2.2.1 b hb
  cases hB : blB b with
  | false => rfl
  | true =>
    unfold blB at hB
    simp only [Bool.or_eq_true, beq_iff_eq] at hB
    rcases hB with ((hB | hB) | hB) | hB <;> (rw [hB] at h1; revert h1; decide)
theorem tells_bl {plus : Bool} {x y z u : List UInt8} {c : Cr} (h : Tells plus x y z u c) : ∀ b ∈ (88 :: (if plus then 43 else 45) :: 91 :: (x ++ 44 :: (y ++ 44 :: (z ++ 44 :: (u ++ [93])))) : List UInt8), blB b = false := by
  obtain ⟨a, b', c', d, hx, hy, hz, hu, -⟩ := h
  intro b hb
  simp only [List.mem_cons, List.mem_append, List.not_mem_nil, or_false] at hb
  rcases hb with h | h | h | h | h | h | h | h | h | h | h
  · rw [h]; decide
  · rw [h]; cases plus <;> decide
  · rw [h]; decide
  · exact num_bl hx b h
  · rw [h]; decide
  · exact num_bl hy b h
  · rw [h]; decide
  · exact num_bl hz b h
  · rw [h]; decide
  · exact num_bl hu b h
  · rw [h]; decide
/-- A crossing that stands ahead of a blank is a part. -/
theorem cross_part {p t : List UInt8} (hp : ∀ b ∈ p, blB b = false) (ht : blH t = true) (c : Cr) (r : List UInt8) : (crossS (p ++ t) = some (c, r) ∧ blH r = true) ↔ (crossP p = some c ∧ r = t) := by
  constructor
  · rintro ⟨h1, h2⟩
    obtain ⟨plus, x, y, z, u, hT, e⟩ := crossS_iff.1 h1
    have e2 : p ++ t = (88 :: (if plus then 43 else 45) :: 91 :: (x ++ 44 :: (y ++ 44 :: (z ++ 44 :: (u ++ [93]))))) ++ r := by rw [e]; simp
    obtain ⟨h3, h4⟩ := cut_one2 e2 hp (tells_bl hT) ht h2
    exact ⟨crossP_iff.2 ⟨plus, x, y, z, u, hT, h3⟩, h4.symm⟩
  · rintro ⟨h1, rfl⟩
    obtain ⟨plus, x, y, z, u, hT, e⟩ := crossP_iff.1 h1
    exact ⟨crossS_iff.2 ⟨plus, x, y, z, u, hT, by rw [e]; simp⟩, ht⟩
/-- TWO WAYS TO READ A TEXT ARE ONE. -/
theorem read_same (n : Nat) : ∀ (l : List UInt8) (acc : List Cr) (loops : Nat), l.length ≤ n → readS n l acc loops = readP (fieldsC [] l) acc loops := by
  induction n with
  | zero =>
    intro l acc loops hl
    have : l = [] := List.length_eq_zero_iff.1 (by omega)
    subst this
    simp [readS, fieldsC, readP]
  | succ n ih =>
    intro l acc loops hl
    cases l with
    | nil => simp [readS, fieldsC, readP]
    | cons b r =>
      rw [List.length_cons] at hl
      cases hb : blB b with
      | true =>
        unfold readS fieldsC
        rw [if_pos hb, if_pos hb, if_pos rfl]
        exact ih r acc loops (by omega)
      | false =>
        obtain ⟨p, t, h1, h2, h3⟩ := part_cut r
        have hp : ∀ x ∈ b :: p, blB x = false := fun x hx => by
          rcases List.mem_cons.1 hx with h | h
          · rw [h]; exact hb
          · exact h2 x h
        have hf : fieldsC [] (b :: r) = (b :: p) :: fieldsC [] t := by
          have := fields_cur [] (b :: p) t hp h3 (by simp)
          rw [List.nil_append, List.cons_append, ← h1] at this
          exact this
        have hlt : t.length ≤ n := by
          have := congrArg List.length h1
          rw [List.length_append] at this
          omega
        rw [hf]
        unfold readS readP
        rw [if_neg (by rw [hb]; simp)]
        by_cases ho : b = 79 ∧ blH r = true
        · have hp0 : p = [] := by
            cases p with
            | nil => rfl
            | cons x p =>
              rw [h1] at ho
              have h4 : blB x = true := ho.2
              rw [h2 x List.mem_cons_self] at h4
              cases h4
          have hrt : r = t := by rw [h1, hp0]; rfl
          rw [if_pos ho, hp0, if_pos (by rw [ho.1]), hrt]
          exact ih t acc (loops + 1) hlt
        · rw [if_neg ho]
          have hne : ¬ (b :: p) = [79] := fun e => by
            injection e with e1 e2
            exact ho ⟨e1, by rw [h1, e2]; exact h3⟩
          rw [if_neg hne]
          have hbr : b :: r = (b :: p) ++ t := by rw [h1]; rfl
          cases hc : crossP (b :: p) with
          | some c =>
            have h5 := (cross_part hp h3 c t).2 ⟨hc, rfl⟩
            rw [← hbr] at h5
            rw [h5.1]
            simp only
            rw [if_pos h5.2]
            exact ih t (acc ++ [c]) loops hlt
          | none =>
            cases hs : crossS (b :: r) with
            | none => rfl
            | some q =>
              obtain ⟨c, r'⟩ := q
              simp only
              by_cases hr : blH r' = true
              · have h5 := (cross_part hp h3 c r').1 ⟨by rw [← hbr]; exact hs, hr⟩
                rw [hc] at h5
                cases h5.1
              · rw [if_neg hr]
end Go.Proofs.YtlimfajjmhfnaaaGreatDoor
/- What is shown is read again: plain mathematics on texts, for CodeBack. No program is named here. -/
namespace Go.Proofs.YtlimfajjmhfnaaaGreatDoor

theorem itoa_back : ∀ n : Fin 100, numP (Lib.itoa (n.1 : Int)) = some n.1 := by decide +kernel
/-- Arcs of two digits at most. -/
def Tiny (x : Cr) : Prop := (0 ≤ x.a ∧ x.a < 100) ∧ (0 ≤ x.b ∧ x.b < 100) ∧ (0 ≤ x.c ∧ x.c < 100) ∧ (0 ≤ x.d ∧ x.d < 100)
theorem num_tiny {n : Int} (h : 0 ≤ n ∧ n < 100) : ∃ k : Nat, n = k ∧ numP (Lib.itoa n) = some k := by
  obtain ⟨k, rfl⟩ : ∃ k : Nat, n = k := ⟨n.toNat, by omega⟩
  exact ⟨k, rfl, itoa_back ⟨k, by omega⟩⟩
theorem tells_tiny {x : Cr} (h : Tiny x) : Tells x.plus (Lib.itoa x.a) (Lib.itoa x.b) (Lib.itoa x.c) (Lib.itoa x.d) x := by
  obtain ⟨h1, h2, h3, h4⟩ := h
  obtain ⟨a, e1, n1⟩ := num_tiny h1
  obtain ⟨b, e2, n2⟩ := num_tiny h2
  obtain ⟨c, e3, n3⟩ := num_tiny h3
  obtain ⟨d, e4, n4⟩ := num_tiny h4
  refine ⟨a, b, c, d, n1, n2, n3, n4, ?_⟩
  obtain ⟨xa, xb, xc, xd, p⟩ := x
  simp only at e1 e2 e3 e4
  rw [e1, e2, e3, e4]
theorem crossL_form (x : Cr) : crossL x = 88 :: (if x.plus then 43 else 45) :: 91 :: (Lib.itoa x.a ++ 44 :: (Lib.itoa x.b ++ 44 :: (Lib.itoa x.c ++ 44 :: (Lib.itoa x.d ++ [93])))) := by
  unfold crossL
  rw [nums_join]
  cases hp : x.plus <;> simp [openL]
theorem cross_back {x : Cr} (h : Tiny x) : crossP (crossL x) = some x :=
  crossP_iff.2 ⟨x.plus, _, _, _, _, tells_tiny h, crossL_form x⟩
theorem crossL_bl {x : Cr} (h : Tiny x) : ∀ b ∈ crossL x, blB b = false := by
  rw [crossL_form]
  exact tells_bl (tells_tiny h)
theorem crossL_ne (x : Cr) : crossL x ≠ [79] ∧ crossL x ≠ [] := by
  rw [crossL_form]
  exact ⟨fun h => by simp at h, fun h => by simp at h⟩
theorem fields_blank (l : List (List UInt8)) (h : ∀ x ∈ l, (∀ b ∈ x, blB b = false) ∧ x ≠ []) : fieldsC [] (blankL l) = l := by
  induction l with
  | nil => simp [blankL, fieldsC]
  | cons x r ih =>
    have h1 := h x List.mem_cons_self
    have e : blankL (x :: r) = 32 :: (x ++ blankL r) := by simp [blankL]
    have hb : blH (blankL r) = true := by
      cases r with
      | nil => rfl
      | cons y s => simp [blankL, blH, blB]
    have e2 : fieldsC [] (32 :: (x ++ blankL r)) = fieldsC [] (x ++ blankL r) := by
      rw [fieldsC, if_pos (by decide), if_pos rfl]
    rw [e, e2, fields_cur [] x (blankL r) h1.1 hb (by simpa using h1.2), ih (fun y hy => h y (List.mem_cons_of_mem _ hy))]
    simp
theorem fields_text (l : List (List UInt8)) (h : ∀ x ∈ l, (∀ b ∈ x, blB b = false) ∧ x ≠ []) : fieldsC [] (Lib.join l [32]) = l := by
  by_cases hl : l = []
  · subst hl
    have e : Lib.join ([] : List (List UInt8)) [32] = [] := by first | rfl | simp [Lib.join]
    rw [e]
    simp [fieldsC]
  · rw [join_blank l hl]
    have h1 := fields_blank l h
    obtain ⟨x, r, rfl⟩ : ∃ x r, l = x :: r := by
      cases l with
      | nil => exact absurd rfl hl
      | cons x r => exact ⟨x, r, rfl⟩
    have e : blankL (x :: r) = 32 :: (blankL (x :: r)).drop 1 := by simp [blankL]
    rw [e] at h1
    rw [fieldsC, if_pos (by decide), if_pos rfl] at h1
    exact h1
theorem read_loops (m : Nat) : ∀ (acc : List Cr) (k : Nat), readP (List.replicate m [79]) acc k = some (acc, k + m) := by
  induction m with
  | zero => intro acc k; rfl
  | succ m ih =>
    intro acc k
    rw [List.replicate_succ]
    show (if ([79] : List UInt8) = [79] then readP (List.replicate m [79]) acc (k + 1) else _) = _
    rw [if_pos rfl, ih, show k + 1 + m = k + (m + 1) by omega]
theorem read_crosses (C : List Cr) (r : List (List UInt8)) (h : ∀ x ∈ C, Tiny x) : ∀ (acc : List Cr) (k : Nat), readP (C.map crossL ++ r) acc k = readP r (acc ++ C) k := by
  induction C with
  | nil => intro acc k; simp
  | cons x C ih =>
    intro acc k
    rw [List.map_cons, List.cons_append]
    show (if crossL x = [79] then readP (C.map crossL ++ r) acc (k + 1) else match crossP (crossL x) with
      | none => none
      | some c => readP (C.map crossL ++ r) (acc ++ [c]) k) = _
    rw [if_neg (crossL_ne x).1, cross_back (h x List.mem_cons_self)]
    simp only
    rw [ih (fun y hy => h y (List.mem_cons_of_mem _ hy))]
    simp
/-- WHAT IS SHOWN IS READ AGAIN. -/
theorem text_back {C : List Cr} {m : Nat} (h : ∀ x ∈ C, Tiny x) : readP (fieldsC [] (textD C m)) [] 0 = some (C, m) := by
  unfold textD
  rw [fields_text]
  · unfold partsL
    rw [read_crosses C _ h, read_loops]
    simp
  · intro x hx
    unfold partsL at hx
    rcases List.mem_append.1 hx with hx | hx
    · obtain ⟨y, hy, rfl⟩ := List.mem_map.1 hx
      exact ⟨crossL_bl (h y hy), (crossL_ne y).2⟩
    · rw [List.eq_of_mem_replicate hx]
      exact ⟨fun b hb => by rw [List.mem_singleton.1 hb]; decide, by decide⟩
end Go.Proofs.YtlimfajjmhfnaaaGreatDoor
