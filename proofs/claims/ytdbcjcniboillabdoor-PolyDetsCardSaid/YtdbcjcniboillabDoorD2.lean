/- The walk of bits.OnesCount at numbers below 64. -/
import Derived.Test.YtdbcjcniboillabDoorD1
namespace Go.Proofs.YtdbcjcniboillabDoor
open Go.RowKit Go.Maps

/-- How many of the first k bits stand. -/
def onesTo (x : Nat) : Nat → Nat
  | 0 => 0
  | k + 1 => onesTo x k + (x >>> k) % 2

set_option maxHeartbeats 1000000 in
set_option maxRecDepth 100000 in
theorem ones64 (x : Nat) (w : World) (hx : x < 64) :
    Calls Tryd.prog 68 #[.int .u64 (x : Int)] w fun e w' => e = .returned (.int .i64 (onesTo x 6 : Nat)) ∧ Below w.heap.size w w' := by
  go_enter Tryd.func68, Tryd.ntmps68
  go_wp2
  go_ret
  refine ⟨ret_int ?_, Below.refl _ _⟩
  clear w
  revert x
  decide +kernel

set_option maxHeartbeats 400000 in
theorem ones_any (x : Nat) (w : World) (hx : x < 64) :
    Calls Tryd.prog 46 #[.int .u64 (x : Int)] w fun e w' => e = .returned (.int .i64 (onesTo x 6 : Nat)) ∧ Below w.heap.size w w' := by
  go_enter Tryd.func46, Tryd.ntmps46
  go_wp2_with (go_at_call 68; refine (ones64 x _ hx).mono ?_; rintro r w1 ⟨rfl, hb1⟩)
  go_ret
  exact ⟨rfl, hb1⟩

/-- negated: with the other sign. -/
theorem negated_any (e c : Int) (w : World) (h0 : -1000000 ≤ c) (h1 : c ≤ 1000000) :
    Calls Tryd.prog 48 #[.agg #[.int .i64 e, .int .i64 c]] w fun r w' => r = .returned (.agg #[.int .i64 e, .int .i64 (-c)]) ∧ Below w.heap.size w w' := by
  have hw : IntKind.i64.wrap (-c) = -c := IntWalk.i64_in _ (by omega)
  go_enter Tryd.func48, Tryd.ntmps48
  go_wp2
  exact bodyPost_ret (v := .agg #[.int .i64 e, .int .i64 (-c)]) (by simp [results, Tryd.results48, go_sem]) rfl ⟨rfl, ((Below.refl _ _).alloc (Nat.le_refl _) _).alloc (by simp) _⟩
end Go.Proofs.YtdbcjcniboillabDoor
