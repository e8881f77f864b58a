/- strings.FieldsFuncSeq: the parts of a text between blanks, one behind the other. -/
import Derived.RangeFuncNested
import Derived.RangeFuncBound
import Derived.RangeFuncCalls
import Derived.RangeFuncLeaves
import Derived.Shelf.Abstract
import Derived.Shelf.RegionOpen
import Derived.WalkKit
import Derived.OwnWalkIn
import Derived.TacticsInMore
import Derived.LoopNIn
import Derived.LoopIn
import Derived.Test.YtlimfajjmhfnaaaDoorRD2
namespace Go.Proofs.YtlimfajjmhfnaaaDoor
open Go.RowKit Go.Shelf
attribute [local go_sem] Oper.semAt_some

/-- A part of a text that is not too long. -/
abbrev Pt := { x : List UInt8 // x.length ≤ 10000 }
def encP (x : Pt) : Array Value := #[.string ⟨x.1.toArray⟩]
/-- What the parting function says of a rune. -/
def blN (c : Nat) : Bool := c == 9 || c == 10 || c == 13 || c == 32
theorem bl_rune (b : UInt8) : blN b.toNat = blB b := by
  have h : ∀ n : Nat, n < 256 → blN n = blB (UInt8.ofNat n) := by decide +kernel
  have := h b.toNat b.toNat_lt
  rw [this]
  simp

set_option maxHeartbeats 1000000 in
set_option maxRecDepth 100000 in
theorem parting_any (c : Nat) (w : World) : Calls Tryd.prog 38 #[.int .i32 (c : Nat)] w fun e w' => e = .returned (.bool (blN c)) ∧ w' = w := by
  unfold blN
  by_cases h1 : c = 9
  · subst h1
    go_enter Tryd.func38, Tryd.ntmps38
    go_wp2
    go_ret
    exact ⟨rfl, rfl⟩
  · by_cases h2 : c = 10
    · subst h2
      go_enter Tryd.func38, Tryd.ntmps38
      go_wp2
      go_ret
      exact ⟨rfl, rfl⟩
    · by_cases h3 : c = 13
      · subst h3
        go_enter Tryd.func38, Tryd.ntmps38
        go_wp2
        go_ret
        exact ⟨rfl, rfl⟩
      · have e1 : ((c : Int) == 9) = false := beq_eq_false_iff_ne.2 (by omega)
        have e2 : ((c : Int) == 10) = false := beq_eq_false_iff_ne.2 (by omega)
        have e3 : ((c : Int) == 13) = false := beq_eq_false_iff_ne.2 (by omega)
        have q1 : (c == 9) = false := beq_eq_false_iff_ne.2 h1
        have q2 : (c == 10) = false := beq_eq_false_iff_ne.2 h2
        have q3 : (c == 13) = false := beq_eq_false_iff_ne.2 h3
        rw [q1, q2, q3]
        by_cases h4 : c = 32
        · subst h4
          go_enter Tryd.func38, Tryd.ntmps38
          go_wp2
          go_ret
          exact ⟨rfl, rfl⟩
        · have e4 : ((c : Int) == 32) = false := beq_eq_false_iff_ne.2 (by omega)
          have q4 : (c == 32) = false := beq_eq_false_iff_ne.2 h4
          rw [q4]
          go_enter Tryd.func38, Tryd.ntmps38
          go_wp2
          go_ret
          exact ⟨rfl, rfl⟩

theorem fields_take (cur c t : List UInt8) (h : ∀ b ∈ c, blB b = false) : fieldsC cur (c ++ t) = fieldsC (cur ++ c) t := by
  induction c generalizing cur with
  | nil => simp
  | cons b c ih =>
    rw [List.cons_append]
    conv => lhs; unfold fieldsC
    rw [if_neg (by rw [h b List.mem_cons_self]; simp), ih _ (fun x hx => h x (List.mem_cons_of_mem _ hx))]
    simp
theorem fields_len (l : List UInt8) : ∀ cur, (fieldsC cur l).length ≤ l.length + 1 := by
  induction l with
  | nil => intro cur; unfold fieldsC; split <;> simp
  | cons b r ih =>
    intro cur
    unfold fieldsC
    split
    · split
      · have := ih []; simp; omega
      · have := ih []; simp; omega
    · have := ih (cur ++ [b]); simp; omega
theorem get_bang (l : List UInt8) (j : Nat) : (⟨l.toArray⟩ : ByteArray).get! j = l.getD j 0 := by
  show l.toArray[j]! = _
  rw [List.getElem!_toArray, List.getElem!_eq_getElem?_getD, List.getD_eq_getElem?_getD]
  rfl
theorem decode_drop (l : List UInt8) (i : Nat) : Utf8.decode ⟨(l.drop i).toArray⟩ 0 = Utf8.decode ⟨l.toArray⟩ i := by
  have hg : ∀ k, (⟨(l.drop i).toArray⟩ : ByteArray).get! (0 + k) = (⟨l.toArray⟩ : ByteArray).get! (i + k) := fun k => by
    rw [get_bang, get_bang, Nat.zero_add, List.getD_eq_getElem?_getD, List.getD_eq_getElem?_getD, List.getElem?_drop]
  have hz : ∀ k, decide (0 + k < (⟨(l.drop i).toArray⟩ : ByteArray).size) = decide (i + k < (⟨l.toArray⟩ : ByteArray).size) := fun k => by
    rw [arr_size, arr_size, List.length_drop]
    exact decide_eq_decide.2 (by omega)
  unfold Utf8.decode
  simp only [hg, hz]
theorem extract_list (l : List UInt8) (a b : Nat) : (⟨l.toArray⟩ : ByteArray).extract a b = ⟨((l.drop a).take (b - a)).toArray⟩ := by
  apply ByteArray.ext
  rw [ByteArray.data_extract]
  simp
/-- All signs of a rune that is no letter of ASCII are above 127. -/
theorem decode_cont (l : List UInt8) (i : Nat) (hi : i < l.length) (h0 : 128 ≤ (l[i]'hi).toNat) : i + (Utf8.decode ⟨l.toArray⟩ i).2 ≤ l.length ∧ ∀ j, j < (Utf8.decode ⟨l.toArray⟩ i).2 → ∃ b, l[i + j]? = some b ∧ 128 ≤ b.toNat := by
  have hz : (⟨l.toArray⟩ : ByteArray).size = l.length := arr_size l
  have hg0 : l[i]? = some (l[i]'hi) := List.getElem?_eq_getElem hi
  have ha0 : ((⟨l.toArray⟩ : ByteArray).get! (i + 0)).toNat = (l[i]'hi).toNat := by rw [get_bang, Nat.add_zero, List.getD_eq_getElem?_getD, hg0]; rfl
  have hc : ∀ k, (decide (i + k < (⟨l.toArray⟩ : ByteArray).size) && ((⟨l.toArray⟩ : ByteArray).get! (i + k)).toNat / 64 == 2) = true → i + k < l.length ∧ ∃ b, l[i + k]? = some b ∧ 128 ≤ b.toNat := fun k h => by
    rw [Bool.and_eq_true, decide_eq_true_eq, beq_iff_eq, hz, get_bang] at h
    refine ⟨h.1, l[i + k]'h.1, List.getElem?_eq_getElem h.1, ?_⟩
    rw [List.getD_eq_getElem?_getD, List.getElem?_eq_getElem h.1] at h
    simp only [Option.getD_some] at h
    omega
  have one : ∀ m : Nat, (m, 1).2 = 1 → i + 1 ≤ l.length ∧ ∀ j, j < 1 → ∃ b, l[i + j]? = some b ∧ 128 ≤ b.toNat := fun m _ => ⟨by omega, fun j hj => by
    have : j = 0 := by omega
    subst this
    exact ⟨_, hg0, h0⟩⟩
  unfold Utf8.decode
  simp only
  rw [if_neg (by rw [ha0]; omega)]
  split
  · rename_i h1
    rw [Bool.and_eq_true] at h1
    obtain ⟨c1, b1⟩ := hc 1 h1.2
    split
    · refine ⟨by omega, fun j hj => ?_⟩
      rcases (by omega : j = 0 ∨ j = 1) with rfl | rfl
      · exact ⟨_, hg0, h0⟩
      · exact b1
    · exact one 0 rfl
  · split
    · rename_i h1
      rw [Bool.and_eq_true, Bool.and_eq_true] at h1
      obtain ⟨c1, b1⟩ := hc 1 h1.1.2
      obtain ⟨c2, b2⟩ := hc 2 h1.2
      split
      · refine ⟨by omega, fun j hj => ?_⟩
        rcases (by omega : j = 0 ∨ j = 1 ∨ j = 2) with rfl | rfl | rfl
        · exact ⟨_, hg0, h0⟩
        · exact b1
        · exact b2
      · exact one 0 rfl
    · split
      · rename_i h1
        rw [Bool.and_eq_true, Bool.and_eq_true, Bool.and_eq_true] at h1
        obtain ⟨c1, b1⟩ := hc 1 h1.1.1.2
        obtain ⟨c2, b2⟩ := hc 2 h1.1.2
        obtain ⟨c3, b3⟩ := hc 3 h1.2
        split
        · refine ⟨by omega, fun j hj => ?_⟩
          rcases (by omega : j = 0 ∨ j = 1 ∨ j = 2 ∨ j = 3) with rfl | rfl | rfl | rfl
          · exact ⟨_, hg0, h0⟩
          · exact b1
          · exact b2
          · exact b3
        · exact one 0 rfl
      · exact one 0 rfl
/-- What a rune takes off a text: signs that are no blanks, or one sign. -/
theorem rune_cut (l : List UInt8) (i : Nat) (hi : i < l.length) : ∃ c k : Nat, Utf8.decode ⟨l.toArray⟩ i = (c, k) ∧ c ≤ 2147483647 ∧ 1 ≤ k ∧ i + k ≤ l.length ∧ ((∃ b, l[i]? = some b ∧ k = 1 ∧ c = b.toNat ∧ blN c = blB b) ∨ (blN c = false ∧ ∀ j, j < k → ∃ b, l[i + j]? = some b ∧ blB b = false)) := by
  have hs : i < (⟨l.toArray⟩ : ByteArray).size := by rw [arr_size]; exact hi
  have hg : (⟨l.toArray⟩ : ByteArray)[i]'hs = l[i]'hi := rfl
  by_cases hlow : (l[i]'hi).toNat < 128
  · have h := decode_ascii ⟨l.toArray⟩ i hs (by rw [hg]; exact hlow)
    rw [hg] at h
    exact ⟨_, _, h, by have := (l[i]'hi).toNat_lt; omega, by omega, by omega, Or.inl ⟨l[i]'hi, List.getElem?_eq_getElem hi, rfl, rfl, bl_rune _⟩⟩
  · have h := decode_high ⟨l.toArray⟩ i hs (by rw [hg]; omega)
    have hle := decode_le ⟨l.toArray⟩ i
    have hcont := decode_cont l i hi (by omega)
    obtain ⟨D, hD⟩ : ∃ D, Utf8.decode ⟨l.toArray⟩ i = D := ⟨_, rfl⟩
    obtain ⟨c, k⟩ := D
    rw [hD] at h hle hcont
    refine ⟨c, k, hD, hle, h.2, hcont.1, Or.inr ⟨?_, fun j hj => ?_⟩⟩
    · unfold blN
      have h1 : 128 ≤ c := h.1
      simp only [Bool.or_eq_false_iff, beq_eq_false_iff_ne]
      omega
    · obtain ⟨b, hb, hb2⟩ := hcont.2 j hj
      refine ⟨b, hb, ?_⟩
      have : blN b.toNat = false := by
        unfold blN
        simp only [Bool.or_eq_false_iff, beq_eq_false_iff_ne]
        omega
      rw [← bl_rune]; exact this
end Go.Proofs.YtlimfajjmhfnaaaDoor
