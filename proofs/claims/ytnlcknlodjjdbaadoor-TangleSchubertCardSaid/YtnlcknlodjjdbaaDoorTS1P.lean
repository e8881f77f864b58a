/- Several texts of the proof, one behind the other. -/
import Derived.Test.YtnlcknlodjjdbaaDoorTS0P
import Derived.Test.YtnlcknlodjjdbaaDoorTL14P
import Derived.Test.YtnlcknlodjjdbaaDoorF4P
import Derived.Test.YtnlcknlodjjdbaaDoorH4P
import Derived.Test.YtnlcknlodjjdbaaDoorBKaP
/- Links of fractions with at most ten crossings: all of them are drawings that are planar, and those that are the same have the same polynomial of Jones: reckoned. -/
namespace Go.Proofs.YtnlcknlodjjdbaaDoor

/-- The list of a fraction. -/
def frL (x y : Nat) : List Int := (fixL (exLt x y)).reverse
def frC (x y : Nat) : List Cr := lkC (szTo (frL x y) (frL x y).length) (lkU (frL x y))
def frN (x y : Nat) : Nat := szTo (frL x y) (frL x y).length
def frJ (x y : Nat) : List (Int × Int) := Poly.jnE (frC x y) (lkO (frL x y))
/-- What is reckoned of a fraction. -/
def okY (x y : Nat) : Bool := !lowB x y || decide (10 < frN x y) || (decide (listN (frL x y) = 0) && decide (noN (frC x y) (lkO (frL x y)) = 0))
def okZ (x y z : Nat) : Bool := !lowB x y || !lowB x z || !sameF x y x z || decide (10 < frN x y) || decide (10 < frN x z) || decide (frJ x y = frJ x z)
def okX (x : Nat) : Bool := (List.range x).all fun i => okY x (i + 1) && (List.range x).all fun j => okZ x (i + 1) (j + 1)
theorem ok_1 : okX 1 = true := by decide +kernel
theorem ok_3 : okX 3 = true := by decide +kernel
theorem ok_5 : okX 5 = true := by decide +kernel
theorem ok_7 : okX 7 = true := by decide +kernel
theorem ok_9 : okX 9 = true := by decide +kernel
theorem ok_11 : okX 11 = true := by decide +kernel
theorem ok_13 : okX 13 = true := by decide +kernel
theorem ok_15 : okX 15 = true := by decide +kernel
theorem ok_17 : okX 17 = true := by decide +kernel
theorem ok_19 : okX 19 = true := by decide +kernel
end Go.Proofs.YtnlcknlodjjdbaaDoor
/- The walk of knotworkkeep.picked; numbers of fractions. -/
namespace Go.Proofs.YtnlcknlodjjdbaaDoor
open Go.RowKit

set_option maxHeartbeats 1000000 in
theorem picked_any (x : Int) (n : Nat) (w : World) (hx : -9223372036854775808 ≤ x ∧ x ≤ 9223372036854775807) (h0 : 0 < n) (h1 : n ≤ 1000) :
    Calls Tryd.prog 4 #[.int .i64 x, .int .i64 (n : Nat)] w fun e w' => ∃ r : Nat, e = .returned (.int .i64 (r : Nat)) ∧ r < n ∧ w' = w := by
  have hz : ((n : Int) == 0) = false := beq_eq_false_iff_ne.2 (by omega)
  by_cases hn : x < 0
  · have hd : decide (x < 0) = true := decide_eq_true hn
    have e1 : IntKind.i64.wrap (x + 1) = x + 1 := IntWalk.i64_in _ (by omega)
    have e2 : IntKind.i64.wrap (-(x + 1)) = -(x + 1) := IntWalk.i64_in _ (by omega)
    obtain ⟨q, hq⟩ : ∃ q : Nat, -(x + 1) = (q : Int) := ⟨(-(x + 1)).toNat, by omega⟩
    have er : (q : Int).tmod (n : Int) = ((q % n : Nat) : Int) := rfl
    have hlt := Nat.mod_lt q h0
    have e3 : IntKind.i64.wrap ((q % n : Nat) : Int) = ((q % n : Nat) : Int) := IntWalk.i64_in _ (by omega)
    go_enter Tryd.func4, Tryd.ntmps4
    go_wp2
    go_ret
    exact ⟨q % n, by simp, hlt, rfl⟩
  · have hd : decide (x < 0) = false := decide_eq_false hn
    obtain ⟨q, hq⟩ : ∃ q : Nat, x = (q : Int) := ⟨x.toNat, by omega⟩
    subst hq
    have er : (q : Int).tmod (n : Int) = ((q % n : Nat) : Int) := rfl
    have hlt := Nat.mod_lt q h0
    have e3 : IntKind.i64.wrap ((q % n : Nat) : Int) = ((q % n : Nat) : Int) := IntWalk.i64_in _ (by omega)
    go_enter Tryd.func4, Tryd.ntmps4
    go_wp2
    go_ret
    exact ⟨q % n, by simp, hlt, rfl⟩

def nnX (x : Nat) : Bool := (List.range x).all fun i => decide ((frL x (i + 1)).length ≤ 1000) && (frL x (i + 1)).all fun v => decide (0 ≤ v) && decide (v ≤ 1000)
theorem nn_all : (List.range 20).all (fun i => nnX (1 + 2 * i)) = true := by decide +kernel
theorem fr_nn (i y : Nat) (hi : i < 20) (h1 : 1 ≤ y) (h2 : y ≤ 1 + 2 * i) : (frL (1 + 2 * i) y).length ≤ 1000 ∧ ∀ j, j < (frL (1 + 2 * i) y).length → 0 ≤ (frL (1 + 2 * i) y).getD j 0 ∧ (frL (1 + 2 * i) y).getD j 0 ≤ 1000 := by
  have h := List.all_eq_true.1 nn_all i (List.mem_range.2 hi)
  unfold nnX at h
  have h := List.all_eq_true.1 h (y - 1) (List.mem_range.2 (by omega))
  rw [show y - 1 + 1 = y by omega, Bool.and_eq_true, List.all_eq_true] at h
  refine ⟨of_decide_eq_true h.1, fun j hj => ?_⟩
  have := h.2 ((frL (1 + 2 * i) y).getD j 0) (by rw [List.getD_eq_getElem?_getD, List.getElem?_eq_getElem hj]; exact List.getElem_mem hj)
  simpa using this
end Go.Proofs.YtnlcknlodjjdbaaDoor
