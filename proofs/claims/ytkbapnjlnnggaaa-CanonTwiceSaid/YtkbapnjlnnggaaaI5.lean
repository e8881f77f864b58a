/- The walks of picked and renamed. -/
import Derived.Test.YtkbapnjlnnggaaaI2P
import Derived.Test.YtkbapnjlnnggaaaF3P
import Derived.Test.YtkbapnjlnnggaaaW5P
namespace Go.Proofs.Ytkbapnjlnnggaaa
open Go.RowKit

set_option maxHeartbeats 1000000 in
theorem picked_any (x : Int) (n : Nat) (w : World) (hx : -9223372036854775808 ≤ x ∧ x ≤ 9223372036854775807) (h0 : 0 < n) (h1 : n ≤ 1000) :
    Calls Try.prog 14 #[.int .i64 x, .int .i64 (n : Nat)] w fun e w' => ∃ r : Nat, e = .returned (.int .i64 (r : Nat)) ∧ r < n ∧ w' = w := by
  have hz : ((n : Int) == 0) = false := beq_eq_false_iff_ne.2 (by omega)
  by_cases hn : x < 0
  · have hd : decide (x < 0) = true := decide_eq_true hn
    have e1 : IntKind.i64.wrap (x + 1) = x + 1 := IntWalk.i64_in _ (by omega)
    have e2 : IntKind.i64.wrap (-(x + 1)) = -(x + 1) := IntWalk.i64_in _ (by omega)
    obtain ⟨q, hq⟩ : ∃ q : Nat, -(x + 1) = (q : Int) := ⟨(-(x + 1)).toNat, by omega⟩
    have er : (q : Int).tmod (n : Int) = ((q % n : Nat) : Int) := rfl
    have hlt := Nat.mod_lt q h0
    have e3 : IntKind.i64.wrap ((q % n : Nat) : Int) = ((q % n : Nat) : Int) := IntWalk.i64_in _ (by omega)
    go_enter Try.func14, Try.ntmps14
    go_wp2
    go_ret
    exact ⟨q % n, by simp, hlt, rfl⟩
  · have hd : decide (x < 0) = false := decide_eq_false hn
    obtain ⟨q, hq⟩ : ∃ q : Nat, x = (q : Int) := ⟨x.toNat, by omega⟩
    subst hq
    have er : (q : Int).tmod (n : Int) = ((q % n : Nat) : Int) := rfl
    have hlt := Nat.mod_lt q h0
    have e3 : IntKind.i64.wrap ((q % n : Nat) : Int) = ((q % n : Nat) : Int) := IntWalk.i64_in _ (by omega)
    go_enter Try.func14, Try.ntmps14
    go_wp2
    go_ret
    exact ⟨q % n, by simp, hlt, rfl⟩

theorem cut_ren {T G : Prop} (h : Hid T → G) (hT : T) : G := h hT
/-- The boxes of renamed, and the names so far. -/
structure RnSt (w : World) (a : Option Addr) (cap n : Nat) (loops : Int) (N : Nat) (L : List Nat) (wr : World) : Prop where
  d : wr.heap[w.heap.size]? = some (.cells #[.slice a n cap, .int .i64 loops] 24 (0, 0))
  z : wr.heap[w.heap.size + 1]? = some (.cells #[.slice none 0 0, .int .i64 0] 24 (0, 0))
  nm : wr.ownsRow (w.heap.size + 2) 3 1 (.slice (some ⟨w.heap.size + 2, 0, none⟩) N N) N (nats L)
  bel : Below w.heap.size w wr
theorem RnSt.set {w : World} {a : Option Addr} {cap n : Nat} {loops : Int} {N : Nat} {L : List Nat} {wr : World} (h : RnSt w a cap n loops N L wr) (x v : Nat) : RnSt w a cap n loops N (L.set x v) (wr.setCell ⟨w.heap.size + 2, x, none⟩ (.int .i64 (v : Nat))) := by
  have hst := h.nm.stored x (.int .i64 (v : Nat))
  rw [nats_set] at hst
  have hl := (h.nm.lt (w.heap.size + 2) rfl).2
  exact ⟨(hst.2.block _ (by omega) (fun e => by have : w.heap.size = w.heap.size + 2 := Option.some.inj e; omega)).trans h.d, (hst.2.block _ (by omega) (fun e => by have : w.heap.size + 1 = w.heap.size + 2 := Option.some.inj e; omega)).trans h.z, hst.1, h.bel.grown hst.2 h.bel.size (fun q hq => by have := Option.some.inj hq; omega)⟩
theorem RnSt.at_ {w : World} {a : Option Addr} {cap n : Nat} {loops : Int} {N : Nat} {L : List Nat} {wr : World} (h : RnSt w a cap n loops N L wr) (hL : L.length = N) (x : Nat) (hx : x < N) : wr.cell? ⟨w.heap.size + 2, x, none⟩ = some (.int .i64 (L.getD x 0 : Nat)) ∧ wr.frozen? ⟨w.heap.size + 2, x, none⟩ = false ∧ w.heap.size + 2 < wr.heap.size :=
  ⟨by rw [h.nm.cellAt x (by omega)]; exact nats_get _ x (by omega), h.nm.frozenAt x, (h.nm.lt (w.heap.size + 2) rfl).2⟩
theorem RnSt.drew {w : World} {a : Option Addr} {cap n : Nat} {loops : Int} {N : Nat} {L : List Nat} {wr : World} (h : RnSt w a cap n loops N L wr) : RnSt w a cap n loops N L wr.drew :=
  ⟨h.d, h.z, own_any h.nm (grown_below ((Below.refl _ _).drew) none), h.bel.drew⟩
end Go.Proofs.Ytkbapnjlnnggaaa
