/- The walk of bits.OnesCount at numbers below 64. -/
import Derived.Test.YtdbcjcniboillaaD1
namespace Go.Proofs.Ytdbcjcniboillaa
open Go.RowKit Go.Maps

/-- How many of the first k bits stand. -/
def onesTo (x : Nat) : Nat → Nat
  | 0 => 0
  | k + 1 => onesTo x k + (x >>> k) % 2

set_option maxHeartbeats 1000000 in
set_option maxRecDepth 100000 in
theorem ones64 (x : Nat) (w : World) (hx : x < 64) :
    Calls Try.prog 46 #[.int .u64 (x : Int)] w fun e w' => e = .returned (.int .i64 (onesTo x 6 : Nat)) ∧ Below w.heap.size w w' := by
  go_enter Try.func46, Try.ntmps46
  go_wp2
  go_ret
  refine ⟨ret_int ?_, Below.refl _ _⟩
  clear w
  revert x
  decide +kernel

set_option maxHeartbeats 400000 in
theorem ones_any (x : Nat) (w : World) (hx : x < 64) :
    Calls Try.prog 39 #[.int .u64 (x : Int)] w fun e w' => e = .returned (.int .i64 (onesTo x 6 : Nat)) ∧ Below w.heap.size w w' := by
  go_enter Try.func39, Try.ntmps39
  go_wp2_with (go_at_call 46; refine (ones64 x _ hx).mono ?_; rintro r w1 ⟨rfl, hb1⟩)
  go_ret
  exact ⟨rfl, hb1⟩

/-- negated: with the other sign. -/
theorem negated_any (e c : Int) (w : World) (h0 : -1000000 ≤ c) (h1 : c ≤ 1000000) :
    Calls Try.prog 40 #[.agg #[.int .i64 e, .int .i64 c]] w fun r w' => r = .returned (.agg #[.int .i64 e, .int .i64 (-c)]) ∧ Below w.heap.size w w' := by
  have hw : IntKind.i64.wrap (-c) = -c := IntWalk.i64_in _ (by omega)
  go_enter Try.func40, Try.ntmps40
  go_wp2
  exact bodyPost_ret (v := .agg #[.int .i64 e, .int .i64 (-c)]) (by simp [results, Try.results40, go_sem]) rfl ⟨rfl, ((Below.refl _ _).alloc (Nat.le_refl _) _).alloc (by simp) _⟩
end Go.Proofs.Ytdbcjcniboillaa
