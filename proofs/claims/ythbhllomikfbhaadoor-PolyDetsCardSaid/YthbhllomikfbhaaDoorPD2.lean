/- The walk of bits.OnesCount at numbers below 64. -/
import Derived.Test.YthbhllomikfbhaaDoorPD1
namespace Go.Proofs.YthbhllomikfbhaaDoor.Poly
open Go.RowKit Go.Maps

/-- How many of the first k bits stand. -/
def onesTo (x : Nat) : Nat → Nat
  | 0 => 0
  | k + 1 => onesTo x k + (x >>> k) % 2

set_option maxHeartbeats 1000000 in
set_option maxRecDepth 100000 in
theorem ones64 (x : Nat) (w : World) (hx : x < 64) :
    Calls Tryd.prog 67 #[.int .u64 (x : Int)] w fun e w' => e = .returned (.int .i64 (onesTo x 6 : Nat)) ∧ Below w.heap.size w w' := by
  go_enter Tryd.func67, Tryd.ntmps67
  go_wp2
  go_ret
  refine ⟨ret_int ?_, Below.refl _ _⟩
  clear w
  revert x
  decide +kernel

set_option maxHeartbeats 400000 in
theorem ones_any (x : Nat) (w : World) (hx : x < 64) :
    Calls Tryd.prog 51 #[.int .u64 (x : Int)] w fun e w' => e = .returned (.int .i64 (onesTo x 6 : Nat)) ∧ Below w.heap.size w w' := by
  go_enter Tryd.func51, Tryd.ntmps51
  go_wp2_with (go_at_call 67; refine (ones64 x _ hx).mono ?_; rintro r w1 ⟨rfl, hb1⟩)
  go_ret
  exact ⟨rfl, hb1⟩

end Go.Proofs.YthbhllomikfbhaaDoor.Poly
