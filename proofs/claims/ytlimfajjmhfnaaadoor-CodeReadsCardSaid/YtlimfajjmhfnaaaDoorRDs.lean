/- strings.Split, CutPrefix, CutSuffix over lists of bytes: the library's words and our own are one. -/
import Derived.Test.YtlimfajjmhfnaaaDoorRShelf
import Derived.Test.YtlimfajjmhfnaaaDoorRD0
import Derived.Lib.IndexMore
import Derived.Lib.Split
namespace Go.Proofs.YtlimfajjmhfnaaaDoor
open Go.RowKit

theorem split_lib (n : Nat) : ∀ l : List UInt8, l.length ≤ n → Lib.splitK [44] 0 (Lib.count l [44]) l = splitC l := by
  induction n with
  | zero =>
    intro l hl
    have : l = [] := List.length_eq_zero_iff.1 (by omega)
    subst this
    rfl
  | succ n ih =>
    intro l hl
    by_cases hi : Lib.index l [44] = -1
    · rw [Lib.count_miss hi]
      have hno : ∀ b ∈ l, b ≠ 44 := fun b hb e => by
        rw [Lib.index_one] at hi
        obtain ⟨k, hk⟩ := List.mem_iff_getElem?.1 hb
        exact Lib.indexByte_none hi k (by rw [hk, e])
      rw [split_none l hno]
      rfl
    · obtain ⟨i, hI⟩ : ∃ i : Nat, Lib.index l [44] = i := ⟨(Lib.index l [44]).toNat, by have := Lib.index_ge l [44]; omega⟩
      have hb := hI
      rw [Lib.index_one] at hb
      obtain ⟨h1, h2⟩ := Lib.indexByte_some hb
      have hil : i < l.length := (List.getElem?_eq_some_iff.1 h1).1
      have hcut : l = l.take i ++ 44 :: l.drop (i + 1) := by
        have h3 : l.drop i = 44 :: l.drop (i + 1) := by
          rw [List.drop_eq_getElem_cons hil]
          congr 1
          have := List.getElem?_eq_getElem hil
          rw [h1] at this
          exact (Option.some.inj this).symm
        rw [← h3, List.take_append_drop]
      have hno : ∀ b ∈ l.take i, b ≠ 44 := fun b hb e => by
        obtain ⟨k, hk⟩ := List.mem_iff_getElem?.1 hb
        have hki : k < i := by
          have := (List.getElem?_eq_some_iff.1 hk).1
          rw [List.length_take] at this
          omega
        rw [List.getElem?_take_of_lt hki] at hk
        exact h2 k hki (by rw [hk, e])
      rw [Lib.count_hit (by simp) hI, Nat.add_comm 1]
      unfold Lib.splitK
      rw [if_neg (by rw [hI]; simp), hI]
      simp only [Int.toNat_natCast, Nat.add_zero, List.length_cons, List.length_nil, Nat.zero_add]
      rw [ih (l.drop (i + 1)) (by rw [List.length_drop]; omega)]
      conv => rhs; rw [hcut]
      rw [split_cons _ _ hno]
/-- Texts as values. -/
def strV (l : List (List UInt8)) : List Value := l.map fun x => .string ⟨x.toArray⟩
theorem strs_of (B : List ByteArray) (X : List (List UInt8)) (h : B.map (·.data.toList) = X) : B.map Value.string = strV X := by
  subst h
  unfold strV
  rw [List.map_map]
  rfl
/-- The variable that strings.Index reads lies there. -/
def MaxAt (w : World) : Prop := ∃ m, w.cell? ⟨2, 0, none⟩ = some (.int .i64 m)
theorem MaxAt.on {w w' : World} (h : MaxAt w) (hb : Below w.heap.size w w') : MaxAt w' := by
  obtain ⟨m, hm⟩ := h
  have hlt : 2 < w.heap.size := by
    rcases Nat.lt_or_ge 2 w.heap.size with h | h
    · exact h
    · simp [World.cell?, Array.getElem?_eq_none h] at hm
  exact ⟨m, (hb.cell (p := ⟨2, 0, none⟩) hlt).trans hm⟩
theorem split_any (l : List UInt8) (w : World) (hl : l.length ≤ 10000) (hm : MaxAt w) :
    Calls Tryd.prog 28 #[.string ⟨l.toArray⟩, .string ⟨#[44]⟩] w fun e w' => e = .returned (.slice (some ⟨w.heap.size, 0, none⟩) (splitC l).length (splitC l).length) ∧ w' = w.alloc (.cells (strV (splitC l)).toArray 9) := by
  obtain ⟨m, hm⟩ := hm
  have hz : (⟨l.toArray⟩ : ByteArray).size = l.length := by simp [ByteArray.size]
  refine (Tryd.strings_Split ⟨l.toArray⟩ ⟨#[44]⟩ m w (by rw [hz]; omega) hm (by decide)).mono ?_
  rintro e w' ⟨rfl, rfl⟩
  have h1 := Lib.splitB_data ⟨#[44]⟩ 0 (Lib.countB ⟨l.toArray⟩ ⟨#[44]⟩) ⟨l.toArray⟩
  have h2 : Lib.splitK [44] 0 (Lib.count l [44]) l = splitC l := split_lib l.length l (Nat.le_refl _)
  have h3 : (Lib.splitB ⟨#[44]⟩ 0 (Lib.countB ⟨l.toArray⟩ ⟨#[44]⟩) ⟨l.toArray⟩).map (·.data.toList) = splitC l := h1.trans h2
  have h4 := Lib.splitB_all ⟨#[44]⟩ (by decide) 0 _ ⟨l.toArray⟩ rfl
  have h5 : Lib.countB ⟨l.toArray⟩ ⟨#[44]⟩ + 1 = (splitC l).length := by
    rw [← h3, List.length_map]
    exact h4.symm
  rw [h5, strs_of _ _ h3]
  exact ⟨rfl, rfl⟩
theorem head_lib (l : List UInt8) : headP l = if Lib.hasPrefix l [88, 43, 91] then some (true, l.drop 3) else if Lib.hasPrefix l [88, 45, 91] then some (false, l.drop 3) else none := by
  unfold Lib.hasPrefix
  match l with
  | [] => rfl
  | [a] => simp [headP, List.isPrefixOf]
  | [a, b] => simp [headP, List.isPrefixOf]
  | a :: b :: c :: r =>
    unfold headP
    simp only [List.isPrefixOf, Bool.and_true, List.drop_succ_cons, List.drop_zero, Bool.and_eq_true, beq_iff_eq]
    by_cases h1 : a = 88
    · by_cases h3 : c = 91
      · by_cases h2 : b = 43
        · simp [h1, h2, h3]
        · by_cases h4 : b = 45
          · simp [h1, h3, h4]
          · have h5 : ¬ (43 : UInt8) = b := fun e => h2 e.symm
            have h6 : ¬ (45 : UInt8) = b := fun e => h4 e.symm
            simp [h1, h2, h3, h4, h5, h6]
      · have h5 : ¬ (91 : UInt8) = c := fun e => h3 e.symm
        simp [h1, h3, h5]
    · have h5 : ¬ (88 : UInt8) = a := fun e => h1 e.symm
      simp [h1, h5]
theorem last_lib (r : List UInt8) : Lib.hasSuffix r [93] = decide (r.getLast? = some 93) := by
  unfold Lib.hasSuffix
  rw [Bool.eq_iff_iff, List.isSuffixOf_iff_suffix, decide_eq_true_eq, List.getLast?_eq_some_iff]
  constructor
  · rintro ⟨t, ht⟩
    exact ⟨t, ht.symm⟩
  · rintro ⟨t, ht⟩
    exact ⟨t, ht.symm⟩
theorem trim_lib (r : List UInt8) (h : r.getLast? = some 93) : Lib.trimSuffix r [93] = r.dropLast := by
  unfold Lib.trimSuffix
  rw [last_lib, decide_eq_true h, if_pos rfl, List.dropLast_eq_take]
  rfl
end Go.Proofs.YtlimfajjmhfnaaaDoor
