/- The walk of poly.Det. -/
import Derived.Test.YtdbcjcniboillabDoorD11
namespace Go.Proofs.YtdbcjcniboillabDoor
open Go.RowKit Go.Maps

/-- What has been collected is no longer than there are numbers between the keys' bounds. -/
theorem coll_len {D : DataW Unit} {left : Lit → Bool} {acc : List (Int × Int)} (h : Coll D left acc) (N : Nat) (hK : KeysIn D (N : Int)) : acc.length ≤ 2 * N + 1 := by
  have := few_ints N (acc.map Prod.fst) (by
    rw [List.pairwise_map]
    exact h.once) (fun x hx => by
    simp only [List.mem_map] at hx
    obtain ⟨t, ht, rfl⟩ := hx
    have h1 := (h.mem t.1 t.2).1 ht
    refine hK t.1 ?_
    cases hh : Maps.has D (.int .i64 t.1) with
    | true => rfl
    | false => rw [coefOf_none hh] at h1; exact absurd h1.2.1.symm h1.2.2)
  simpa using this

set_option maxHeartbeats 1000000 in
set_option maxRecDepth 100000 in
/-- work.terms, where the keys are bounded. -/
theorem terms34k (b n : Nat) (D : DataW Unit) (w : World) (hown : w.ownsMap Tryd.prog 3 (plainElem Tryd.prog 3) b n D) (hn : ∀ left acc, Coll D left acc → acc.length ≤ 1000000) :
    Calls Tryd.prog 30 #[.map (some b)] w fun e w' => ∃ v l, e = .returned v ∧ w'.ownsRow w.heap.size 29 2 v l.length (flat l) ∧ Canon l (coefOf D) ∧ Below w.heap.size w w' := by
  obtain ⟨i0, hi, hz0, hz1, hz2⟩ := info_parts infoTerm
  have hbl := hown.lt
  have HL : Hid (∀ left acc, Coll D left acc → acc.length ≤ 1000000) := hn
  clear hn
  go_enter Tryd.func30, Tryd.ntmps30
  go_wp2_with (first | (at_range; refine wpList_range_own _ rfl _ 58 rfl 3 3 law3 Tryd.underlying58 _ b n _ rfl hown ?_; intro w0 hrg0 hg0 hs0) | go_in)
  go_frame
  go_loopw [3] (fun v wr => ∃ (left : Lit → Bool) (cnt : Nat) (acc : List (Int × Int)), wr.ranges Tryd.prog 3 (plainElem Tryd.prog 3) b w.heap.size n D left cnt ∧
      wr.ownsRow w.heap.size 29 2 v acc.length (flat acc) ∧ Hid (Coll D left acc) ∧ Below w.heap.size w wr)
    (fun _ wr => wr.rangeLeft b w.heap.size)
  case atStart =>
    exact ⟨_, _, [], hrg0, World.ownsRow_nil _ _ _ _, coll_start D, (Below.refl _ _).grown hg0 (Nat.le_refl _) (fun j hj => by cases hj)⟩
  case round =>
    obtain ⟨left, cnt, acc, hrg, hrow, hC, hnx⟩ := hrel
    have hal := HL.out _ _ hC.out
    go_wp2_with (first
      | (at_next; refine wpList_next_ranges_ii _ rfl _ rfl 3 3 .i64 .i64 law3 Tryd.underlying3 Tryd.underlying3 b w.heap.size n _ _ _ rfl hrg ?_ ?_)
      | go_in)
    · intro hc0 hl0
      have hc := sort_list w.heap.size _ acc _ (by omega) hrow
      go_wp2_with (go_at_call 50; refine hc.mono ?_; rintro e w' ⟨rfl, l, hp, hs, hrow2, hg2⟩)
      go_ret
      refine ⟨_, l, rfl, hrow2, coll_end hC.out hl0 hp hs, hnx.grown hg2 hnx.size (fun k hk => (hrow.lt k hk).1)⟩
    · intro x c w1 cnt1 hwx hwc hlx hat hrg1 hlt hg1 hs1 hen
      have hrow1 := hrow.kept hg1 (Or.inr (row_ne_iter hrow hrg).symm)
      have hnx1 : Below w.heap.size w w1 := hnx.grown hg1 hnx.size (fun j hj => by cases hj; exact Nat.le_refl _)
      have Hat : Hid _ := hat
      clear hs1 hat
      by_cases hc : c = 0
      · subst hc
        go_wp2
        go_roundw
        case rel => exact ⟨_, cnt1, acc, hrg1, hrow1, coll_zero hC.out Hat.out, hnx1⟩
        case measure => rw [hrg1.left_eq, hrg.left_eq]; exact hlt
      · have hcb : (c != 0) = true := by rw [bne_iff_ne]; exact hc
        have HC0 : Hid (c ≠ 0) := hc
        have hsz1 := hnx1.size
        clear hc
        go_wp2_with (first
          | (at_builtin; refine wpList_append_own _ rfl _ _ 25 rfl w.heap.size 29 i0 (.agg #[.int .i64 0, .int .i64 0]) 2 16 Tryd.underlying25 hi hz0 hz1 hz2 rfl (by decide) _ _ _ rfl (hrow1.alloc _) ⟨w1.heap.size, 0, none⟩ 1 1 [.int .i64 x, .int .i64 c] rfl rfl (new_cells _ _ _) (pair_one _ _) (by unfold maxLen; omega) (by omega) (by simp; omega) ?_; intro v' w3 hown' hg3 _; go_frame)
          | go_in)
        have hrg3 := (hrg1.alloc _).kept hg3 (row_ne_low hrow1 hbl) (row_ne_iter hrow1 hrg1)
        go_roundw
        case rel =>
          refine ⟨_, cnt1, acc ++ [(x, c)], hrg3, ?_, coll_more hC.out hlx HC0.out Hat.out, (hnx1.alloc hsz1 _).grown hg3 (by simp; omega) (fun j hj => (hrow1.lt j hj).1)⟩
          rw [flat_append, List.length_append]
          exact hown'
        case measure => rw [hrg3.left_eq, hrg.left_eq]; exact hlt

theorem good_sq {T : List (List (List (Int × Int)))} (h : GoodT T T.length) (h6 : T.length ≤ 6) : squareB T = true := by
  refine (square_iff T).2 ⟨h6, fun i hi => (h.2 _ (getD_mem T i [] hi)).1⟩
theorem good_may {T : List (List (List (Int × Int)))} (h : GoodT T T.length) : everyB mayB T = true :=
  (every_iff mayB T).2 fun i hi j hj => ((h.2 _ (getD_mem T i [] hi)).2 _ (getD_mem _ j [] hj)).1
theorem good_few {T : List (List (List (Int × Int)))} (h : GoodT T T.length) : everyB fewB T = true :=
  (every_iff fewB T).2 fun i hi j hj => by
    have := ((h.2 _ (getD_mem T i [] hi)).2 _ (getD_mem _ j [] hj)).2
    simpa [fewB] using this

set_option maxHeartbeats 2000000 in
set_option maxRecDepth 100000 in
/-- poly.Det of a table of which nothing is wrong. -/
theorem det_good (v : Value) (T : List (List (List (Int × Int)))) (w : World) (h6 : T.length ≤ 6) (hg : GoodT T T.length) (h : Table w w.heap.size v T) :
    Calls Tryd.prog 11 #[v] w fun e w' => ∃ v' l, e = .returned (.tuple #[v', .int .i64 0]) ∧ Poly w' w'.heap.size v' l ∧ Canon l (detOf T) ∧ Below w.heap.size w w' := by
  have HT : Hid (Table w w.heap.size v T) := h
  have HGT : Hid (GoodT T T.length) := hg
  have HSQ : Hid (squareB T = true) := good_sq hg h6
  have HM : Hid (everyB mayB T = true) := good_may hg
  have HF : Hid (everyB fewB T = true) := good_few hg
  have hs6 := (square_iff T).1 HSQ.out
  have HS6 : Hid (∀ i, i < T.length → (T.getD i []).length ≤ 6) := fun i hi => by rw [hs6.2 i hi]; exact hs6.1
  have hl : T.length ≤ maxLen := by unfold maxLen; omega
  have HR : Hid (∀ i, i < T.length → (T.getD i []).length ≤ maxLen) := fun i hi => by have := HS6.out i hi; unfold maxLen; omega
  have HM2 : Hid (∀ i, i < T.length → ∀ j, j < (T.getD i []).length → mayB ((T.getD i []).getD j []) = true) := (every_iff mayB T).1 HM.out
  have HP : Hid (∀ i, i < T.length → ∀ j, j < (T.getD i []).length → ((T.getD i []).getD j []).length ≤ maxLen) := fun i hi j hj => by
    have := ((may_iff _).1 (HM2.out i hi j hj)).1
    unfold maxLen
    omega
  clear h hg hs6
  go_enter Tryd.func11, Tryd.ntmps11
  go_wp2_with (go_at_call 25; refine (square_any v T _ hl HR.out HT.out).mono ?_; rw [HSQ.out]; rintro r w1 ⟨rfl, hb1⟩; refine Hid.out ?_)
  refine Lib.hid ?_
  have hb01 : Hid (Below w.heap.size w w1) := hb1
  have HT1 : Hid (Table w1 w1.heap.size v T) := HT.out.up hb1
  clear hb1
  go_wp2_with (go_at_call 26; refine (every_may v T _ h6 HS6.out HP.out HT1.out).mono ?_; rw [HM.out]; rintro r w2 ⟨rfl, hb2⟩; refine Hid.out ?_)
  refine Lib.hid ?_
  have hb02 : Hid (Below w.heap.size w w2) := hb01.out.trans (hb2.mono hb01.out.size)
  have HT2 : Hid (Table w2 w2.heap.size v T) := HT.out.up hb02.out
  clear hb2 hb01 HT1
  go_wp2_with (go_at_call 26; refine (every_few v T _ h6 HS6.out HM2.out HT2.out).mono ?_; rw [HF.out]; rintro r w3 ⟨rfl, hb3⟩; refine Hid.out ?_)
  refine Lib.hid ?_
  have hb03 : Hid (Below w.heap.size w w3) := hb02.out.trans (hb3.mono hb02.out.size)
  have HT3 : Hid (Table w3 w3.heap.size v T) := HT.out.up hb03.out
  clear hb3 hb02 HT2
  go_wp2_with (go_at_call 29; refine (determinant_any v T T.length _ h6 HGT.out HT3.out).mono ?_; rintro r w4 ⟨bm, D, rfl, hbm, hom, hcm, hkm, hb4⟩; refine Hid.out ?_)
  refine Lib.hid ?_
  have HCM : Hid (∀ y, coefOf D y = detOf T y) := hcm
  have HLN : Hid (∀ left acc, Coll D left acc → acc.length ≤ 1000000) := fun left acc hC => Nat.le_trans (coll_len hC (1000 * T.length) (by rw [Int.natCast_mul]; exact hkm)) (by omega)
  have hb04 : Hid (Below w.heap.size w w4) := hb03.out.trans (hb4.mono hb03.out.size)
  clear hcm hkm hb4 hb03 HT3 hbm
  go_wp2_with (go_at_call 30; refine (terms34k bm _ D _ hom HLN.out).mono ?_; rintro r w5 ⟨vr, lr, rfl, hrow5, hcan5, hb5⟩)
  go_ret2
  exact ⟨vr, lr, rfl, Poly.ofRow hrow5, canon_congr hcan5 HCM.out, hb04.out.trans (hb5.mono hb04.out.size)⟩
end Go.Proofs.YtdbcjcniboillabDoor
