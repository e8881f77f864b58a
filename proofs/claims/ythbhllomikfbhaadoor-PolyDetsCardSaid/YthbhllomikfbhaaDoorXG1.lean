/- The walks of knotworkkeep.picked, plus, times and same. -/
import Derived.Test.YthbhllomikfbhaaDoorXVals
import Derived.Test.YthbhllomikfbhaaDoorPB4
import Derived.Test.YthbhllomikfbhaaDoorXR5
namespace Go.Proofs.YthbhllomikfbhaaDoor.Poly
open Go.RowKit Go.Maps

theorem tmod19 (n : Int) (h : 0 ≤ n) : 0 ≤ n.tmod 19 ∧ n.tmod 19 ≤ 18 := by
  rw [Int.tmod_eq_emod_of_nonneg h]
  omega

set_option maxHeartbeats 400000 in
theorem picked_any (n : Int) (w : World) (h0 : -9223372036854775808 ≤ n) (h1 : n ≤ 9223372036854775807) :
    Calls Tryd.prog 29 #[.int .i64 n, .int .i64 19] w fun e w' => ∃ r, e = .returned (.int .i64 r) ∧ 0 ≤ r ∧ r ≤ 18 ∧ Below w.heap.size w w' := by
  by_cases hn : n < 0
  · have hw1 : IntKind.i64.wrap (n + 1) = n + 1 := IntWalk.i64_in _ (by omega)
    have hw2 : IntKind.i64.wrap (-(n + 1)) = -(n + 1) := IntWalk.i64_in _ (by omega)
    have ht := tmod19 (-(n + 1)) (by omega)
    have hw3 : IntKind.i64.wrap ((-(n + 1)).tmod 19) = (-(n + 1)).tmod 19 := IntWalk.i64_in _ (by omega)
    generalize hr : (-(n + 1)).tmod 19 = r at ht hw3
    go_enter Tryd.func29, Tryd.ntmps29
    go_wp2
    go_ret
    exact ⟨r, rfl, ht.1, ht.2, Below.refl _ _⟩
  · have ht := tmod19 n (by omega)
    have hw3 : IntKind.i64.wrap (n.tmod 19) = n.tmod 19 := IntWalk.i64_in _ (by omega)
    generalize hr : n.tmod 19 = r at ht hw3
    go_enter Tryd.func29, Tryd.ntmps29
    go_wp2
    go_ret
    exact ⟨r, rfl, ht.1, ht.2, Below.refl _ _⟩

theorem same_one (v1 v2 : Value) (l : List (Int × Int)) (w : World) (hl : l.length ≤ 64) (h1 : Poly w w.heap.size v1 l) (h2 : Poly w w.heap.size v2 l) :
    Calls Tryd.prog 16 #[v1, v2] w fun e w' => e = .returned (.bool true) ∧ Below w.heap.size w w' := by
  refine (ksame_poly v1 v2 l l w (by unfold maxLen; omega) h1 h2).mono ?_
  rintro e w' ⟨rfl, hb⟩
  exact ⟨ret_bool (by simp), hb⟩

set_option maxHeartbeats 400000 in
theorem plus_poly (v1 v2 : Value) (l1 l2 : List (Int × Int)) (w : World) (hm1 : mayB l1 = true) (hm2 : mayB l2 = true) (hP1 : Poly w w.heap.size v1 l1) (hP2 : Poly w w.heap.size v2 l2) :
    Calls Tryd.prog 17 #[v1, v2] w fun e w' => ∃ v, e = .returned v ∧ Poly w' w'.heap.size v (addL l1 l2) ∧ Below w.heap.size w w' := by
  have HP1 : Hid (Poly w w.heap.size v1 l1) := hP1
  have HP2 : Hid (Poly w w.heap.size v2 l2) := hP2
  have HM1 : Hid (mayB l1 = true) := hm1
  have HM2 : Hid (mayB l2 = true) := hm2
  clear hP1 hP2 hm1 hm2
  go_enter Tryd.func17, Tryd.ntmps17
  go_wp2_with (go_at_call 30; refine (add_yes v1 v2 l1 l2 w HM1.out HM2.out HP1.out HP2.out).mono ?_; rintro r w1 ⟨v, m, rfl, hrow, hcan, hml, hb1⟩)
  go_ret
  have e := add_canon hcan
  subst e
  exact ⟨v, rfl, Poly.ofRow hrow, hb1⟩

set_option maxHeartbeats 400000 in
theorem times_poly (v1 v2 : Value) (l1 l2 : List (Int × Int)) (w : World) (hm1 : mayB l1 = true) (hm2 : mayB l2 = true) (hP1 : Poly w w.heap.size v1 l1) (hP2 : Poly w w.heap.size v2 l2) :
    Calls Tryd.prog 18 #[v1, v2] w fun e w' => ∃ v, e = .returned v ∧ Poly w' w'.heap.size v (mulL l1 l2) ∧ Below w.heap.size w w' := by
  have HP1 : Hid (Poly w w.heap.size v1 l1) := hP1
  have HP2 : Hid (Poly w w.heap.size v2 l2) := hP2
  have HM1 : Hid (mayB l1 = true) := hm1
  have HM2 : Hid (mayB l2 = true) := hm2
  clear hP1 hP2 hm1 hm2
  go_enter Tryd.func18, Tryd.ntmps18
  go_wp2_with (go_at_call 31; refine (mul_yes v1 v2 l1 l2 w HM1.out HM2.out HP1.out HP2.out).mono ?_; rintro r w1 ⟨v, m, rfl, hrow, hcan, hml, hb1⟩)
  go_ret
  have e := mul_canon hcan
  subst e
  exact ⟨v, rfl, Poly.ofRow hrow, hb1⟩
end Go.Proofs.YthbhllomikfbhaaDoor.Poly
