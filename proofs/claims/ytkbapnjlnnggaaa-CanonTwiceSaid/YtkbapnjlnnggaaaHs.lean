/- The walk of Drawing.Has. -/
import Derived.Test.YtkbapnjlnnggaaaW2
import Derived.Lib.Hide
namespace Go.Proofs.Ytkbapnjlnnggaaa
open Go.RowKit

/-- Is there such an arc? -/
def hasB (C : List Cr) (x : Int) : Bool := decide (1 ≤ x) && decide (x ≤ 2 * (C.length : Int))

set_option maxHeartbeats 1000000 in
set_option maxRecDepth 100000 in
theorem has_any (a : Option Addr) (cap : Nat) (C : List Cr) (loops : Int) (gF cF gT cT : Nat) (x : Int) (w : World) (hl : C.length ≤ 16) :
    Calls Try.prog 42 #[drV a cap C loops gF cF gT cT, .int .i64 x] w fun e w' => e = .returned (.bool (hasB C x)) ∧ Below w.heap.size w w' := by
  unfold drV
  have hb : ∀ o, Below w.heap.size w (w.alloc o) := fun o => (Below.refl _ _).alloc (Nat.le_refl _) o
  obtain ⟨m, hm⟩ : ∃ m, 2 * C.length + 1 = m := ⟨_, rfl⟩
  have HM : Hid (2 * C.length + 1 = m) := hm
  have hm40 : m ≤ 40 := by omega
  rw [hm]
  clear hm
  by_cases h1 : 1 ≤ x
  · have d1 : decide (1 ≤ x) = true := by simpa using h1
    by_cases h2 : x < (m : Int)
    · have d2 : decide (x < (m : Int)) = true := by simpa using h2
      have HR : Hid (hasB C x = true) := (by have := HM.out; simp [hasB, h1]; omega : hasB C x = true)
      go_enter Try.func42, Try.ntmps42
      go_wp2
      go_ret
      exact ⟨ret_bool HR.out, hb _⟩
    · have d2 : decide (x < (m : Int)) = false := by simpa using h2
      have HR : Hid (hasB C x = false) := (by have := HM.out; simp [hasB]; omega : hasB C x = false)
      go_enter Try.func42, Try.ntmps42
      go_wp2
      go_ret
      exact ⟨ret_bool HR.out, hb _⟩
  · have d1 : decide (1 ≤ x) = false := by simpa using h1
    have HR : Hid (hasB C x = false) := (by simp [hasB, h1] : hasB C x = false)
    go_enter Try.func42, Try.ntmps42
    go_wp2
    go_ret
    exact ⟨ret_bool HR.out, hb _⟩
end Go.Proofs.Ytkbapnjlnnggaaa
