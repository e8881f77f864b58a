/- The walk of ref.blankAt. -/
import Derived.Test.YtlimfajjmhfnaaaDoorRD6
namespace Go.Proofs.YtlimfajjmhfnaaaDoor
open Go.RowKit

theorem bl_drop {L : List UInt8} {k : Nat} {b : UInt8} (h : L[k]? = some b) : blH (L.drop k) = blB b := by
  have hk : k < L.length := (List.getElem?_eq_some_iff.1 h).1
  rw [List.drop_eq_getElem_cons hk]
  have : L[k] = b := by have := List.getElem?_eq_getElem hk; rw [h] at this; exact (Option.some.inj this).symm
  rw [this]
  rfl
/-- A sign of a text. -/
theorem idx_any {L : List UInt8} {k : Nat} {b : UInt8} (h : L[k]? = some b) (W : World) : (Instr.index 9 (.string ⟨L.toArray⟩) (.int .i64 (k : Nat))).run Tryd.prog W = .ok (.int .u8 (b.toNat : Nat)) W := by
  have hk : k < L.length := (List.getElem?_eq_some_iff.1 h).1
  have hL : L[k] = b := by have := List.getElem?_eq_getElem hk; rw [h] at this; exact (Option.some.inj this).symm
  have e : (((k : Nat) : Int)).toNat = k := by omega
  rw [run_index_string W 9 ⟨L.toArray⟩ .i64 (k : Nat) Tryd.underlying9, dif_pos ⟨by omega, by rw [arr_size]; omega⟩]
  have h2 : (⟨L.toArray⟩ : ByteArray)[(((k : Nat) : Int)).toNat]'(by rw [arr_size]; omega) = b := by
    show L[(((k : Nat) : Int)).toNat]'(by omega) = b
    simp only [e]
    exact hL
  rw [h2]

set_option maxHeartbeats 4000000 in
set_option maxRecDepth 100000 in
theorem blankAt_any (L : List UInt8) (k : Nat) (w : World) :
    Calls Tryd.prog 24 #[.string ⟨L.toArray⟩, .int .i64 (k : Nat)] w fun e w' => e = .returned (.bool (blH (L.drop k))) ∧ w' = w := by
  have hz : (⟨L.toArray⟩ : ByteArray).size = L.length := arr_size L
  by_cases h : L.length ≤ k
  · have hI : (L.length : Int) ≤ (k : Int) := by omega
    rw [List.drop_of_length_le h]
    go_enter Tryd.func24, Tryd.ntmps24
    go_wp2
    go_ret
    exact ⟨rfl, rfl⟩
  · have hI : ¬ (L.length : Int) ≤ (k : Int) := by omega
    have hg : L[k]? = some (L[k]'(by omega)) := List.getElem?_eq_getElem (by omega)
    obtain ⟨b, hb⟩ : ∃ b, L[k]'(by omega) = b := ⟨_, rfl⟩
    rw [hb] at hg
    have hix := idx_any hg
    rw [bl_drop hg]
    have hc : blB b = (b.toNat == 9 || b.toNat == 10 || b.toNat == 13 || b.toNat == 32) := (bl_rune b).symm
    rw [hc]
    obtain ⟨c, hc2⟩ : ∃ c, b.toNat = c := ⟨_, rfl⟩
    rw [hc2] at hix ⊢
    clear hc hc2 hb hg
    by_cases h1 : c = 9
    · subst h1
      go_enter Tryd.func24, Tryd.ntmps24
      go_wp2
      go_ret
      exact ⟨rfl, rfl⟩
    · have e1 : ((c : Int) == 9) = false := beq_eq_false_iff_ne.2 (by omega)
      have q1 : (c == 9) = false := beq_eq_false_iff_ne.2 h1
      by_cases h2 : c = 10
      · subst h2
        go_enter Tryd.func24, Tryd.ntmps24
        go_wp2
        go_ret
        exact ⟨rfl, rfl⟩
      · have e2 : ((c : Int) == 10) = false := beq_eq_false_iff_ne.2 (by omega)
        have q2 : (c == 10) = false := beq_eq_false_iff_ne.2 h2
        by_cases h3 : c = 13
        · subst h3
          go_enter Tryd.func24, Tryd.ntmps24
          go_wp2
          go_ret
          exact ⟨rfl, rfl⟩
        · have e3 : ((c : Int) == 13) = false := beq_eq_false_iff_ne.2 (by omega)
          have q3 : (c == 13) = false := beq_eq_false_iff_ne.2 h3
          rw [q1, q2, q3]
          by_cases h4 : c = 32
          · subst h4
            go_enter Tryd.func24, Tryd.ntmps24
            go_wp2
            go_ret
            exact ⟨rfl, rfl⟩
          · have e4 : ((c : Int) == 32) = false := beq_eq_false_iff_ne.2 (by omega)
            have q4 : (c == 32) = false := beq_eq_false_iff_ne.2 h4
            rw [q4]
            go_enter Tryd.func24, Tryd.ntmps24
            go_wp2
            go_ret
            exact ⟨rfl, rfl⟩
end Go.Proofs.YtlimfajjmhfnaaaDoor
