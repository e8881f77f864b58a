/- The walk of poly.Det. -/
import Derived.Test.YthbhllomikfbhaaDoorPD11
import Derived.Test.YthbhllomikfbhaaDoorPB5
namespace Go.Proofs.YthbhllomikfbhaaDoor.Poly
open Go.RowKit Go.Maps

/-- What has been collected is no longer than there are numbers between the keys' bounds. -/
theorem coll_len {D : DataW Unit} {left : Lit → Bool} {acc : List (Int × Int)} (h : Coll D left acc) (N : Nat) (hK : KeysIn D (N : Int)) : acc.length ≤ 2 * N + 1 := by
  have := few_ints N (acc.map Prod.fst) (by
    rw [List.pairwise_map]
    exact h.once) (fun x hx => by
    simp only [List.mem_map] at hx
    obtain ⟨t, ht, rfl⟩ := hx
    have h1 := (h.mem t.1 t.2).1 ht
    refine hK t.1 ?_
    cases hh : Maps.has D (.int .i64 t.1) with
    | true => rfl
    | false => rw [coefOf_none hh] at h1; exact absurd h1.2.1.symm h1.2.2)
  simpa using this

set_option maxHeartbeats 1000000 in
set_option maxRecDepth 100000 in
/-- work.terms, where the keys are bounded. -/
theorem terms34k (b n : Nat) (D : DataW Unit) (w : World) (hown : w.ownsMap Tryd.prog 3 (plainElem Tryd.prog 3) b n D) (hn : ∀ left acc, Coll D left acc → acc.length ≤ 1000000) :
    Calls Tryd.prog 38 #[.map (some b)] w fun e w' => ∃ v l, e = .returned v ∧ w'.ownsRow w.heap.size 36 2 v l.length (flat l) ∧ Canon l (coefOf D) ∧ Below w.heap.size w w' := by
  obtain ⟨i0, hi, hz0, hz1, hz2⟩ := info_parts infoTerm
  have hbl := hown.lt
  have HL : Hid (∀ left acc, Coll D left acc → acc.length ≤ 1000000) := hn
  clear hn
  go_enter Tryd.func38, Tryd.ntmps38
  go_wp2_with (first | (at_range; refine wpList_range_own _ rfl _ 62 rfl 3 3 law3 Tryd.underlying62 _ b n _ rfl hown ?_; intro w0 hrg0 hg0 hs0) | go_in)
  go_frame
  go_loopw [3] (fun v wr => ∃ (left : Lit → Bool) (cnt : Nat) (acc : List (Int × Int)), wr.ranges Tryd.prog 3 (plainElem Tryd.prog 3) b w.heap.size n D left cnt ∧
      wr.ownsRow w.heap.size 36 2 v acc.length (flat acc) ∧ Hid (Coll D left acc) ∧ Below w.heap.size w wr)
    (fun _ wr => wr.rangeLeft b w.heap.size)
  case atStart =>
    exact ⟨_, _, [], hrg0, World.ownsRow_nil _ _ _ _, coll_start D, (Below.refl _ _).grown hg0 (Nat.le_refl _) (fun j hj => by cases hj)⟩
  case round =>
    obtain ⟨left, cnt, acc, hrg, hrow, hC, hnx⟩ := hrel
    have hal := HL.out _ _ hC.out
    go_wp2_with (first
      | (at_next; refine wpList_next_ranges_ii _ rfl _ rfl 3 3 .i64 .i64 law3 Tryd.underlying3 Tryd.underlying3 b w.heap.size n _ _ _ rfl hrg ?_ ?_)
      | go_in)
    · intro hc0 hl0
      have hc := sort_list w.heap.size _ acc _ (by omega) hrow
      go_wp2_with (go_at_call 53; refine hc.mono ?_; rintro e w' ⟨rfl, l, hp, hs, hrow2, hg2⟩)
      go_ret
      refine ⟨_, l, rfl, hrow2, coll_end hC.out hl0 hp hs, hnx.grown hg2 hnx.size (fun k hk => (hrow.lt k hk).1)⟩
    · intro x c w1 cnt1 hwx hwc hlx hat hrg1 hlt hg1 hs1 hen
      have hrow1 := hrow.kept hg1 (Or.inr (row_ne_iter hrow hrg).symm)
      have hnx1 : Below w.heap.size w w1 := hnx.grown hg1 hnx.size (fun j hj => by cases hj; exact Nat.le_refl _)
      have Hat : Hid _ := hat
      clear hs1 hat
      by_cases hc : c = 0
      · subst hc
        go_wp2
        go_roundw
        case rel => exact ⟨_, cnt1, acc, hrg1, hrow1, coll_zero hC.out Hat.out, hnx1⟩
        case measure => rw [hrg1.left_eq, hrg.left_eq]; exact hlt
      · have hcb : (c != 0) = true := by rw [bne_iff_ne]; exact hc
        have HC0 : Hid (c ≠ 0) := hc
        have hsz1 := hnx1.size
        clear hc
        go_wp2_with (first
          | (at_builtin; refine wpList_append_own _ rfl _ _ 22 rfl w.heap.size 36 i0 (.agg #[.int .i64 0, .int .i64 0]) 2 16 Tryd.underlying22 hi hz0 hz1 hz2 rfl (by decide) _ _ _ rfl (hrow1.alloc _) ⟨w1.heap.size, 0, none⟩ 1 1 [.int .i64 x, .int .i64 c] rfl rfl (new_cells _ _ _) (pair_one _ _) (by unfold maxLen; omega) (by omega) (by simp; omega) ?_; intro v' w3 hown' hg3 _; go_frame)
          | go_in)
        have hrg3 := (hrg1.alloc _).kept hg3 (row_ne_low hrow1 hbl) (row_ne_iter hrow1 hrg1)
        go_roundw
        case rel =>
          refine ⟨_, cnt1, acc ++ [(x, c)], hrg3, ?_, coll_more hC.out hlx HC0.out Hat.out, (hnx1.alloc hsz1 _).grown hg3 (by simp; omega) (fun j hj => (hrow1.lt j hj).1)⟩
          rw [flat_append, List.length_append]
          exact hown'
        case measure => rw [hrg3.left_eq, hrg.left_eq]; exact hlt

/-- A table of which nothing is wrong is square, with small places. -/
theorem good_of {T : List (List (List (Int × Int)))} (h : squareB T = true) (h1 : everyB mayB T = true) (h2 : everyB fewB T = true) : GoodT T T.length := by
  refine ⟨rfl, fun R hR => ?_⟩
  obtain ⟨i, hi, rfl⟩ := List.getElem_of_mem hR
  have e : T.getD i [] = T[i] := by simp [List.getD, hi]
  have hs := ((square_iff T).1 h).2 i hi
  rw [e] at hs
  refine ⟨hs, fun l hl => ?_⟩
  obtain ⟨j, hj, rfl⟩ := List.getElem_of_mem hl
  have e2 : (T.getD i []).getD j [] = T[i][j] := by rw [e]; simp [List.getD, hj]
  have h3 := (every_iff mayB T).1 h1 i hi j (by rw [e]; exact hj)
  have h4 := (every_iff fewB T).1 h2 i hi j (by rw [e]; exact hj)
  rw [e2] at h3 h4
  exact ⟨h3, by simpa [fewB] using h4⟩

set_option maxHeartbeats 2000000 in
set_option maxRecDepth 100000 in
theorem det_any (v : Value) (T : List (List (List (Int × Int)))) (w : World) (hl : T.length ≤ maxLen) (hr : ∀ i, i < T.length → (T.getD i []).length ≤ maxLen) (hp : ∀ i, i < T.length → ∀ j, j < (T.getD i []).length → ((T.getD i []).getD j []).length ≤ maxLen) (h : Table w w.heap.size v T) :
    Calls Tryd.prog 22 #[v] w fun e w' => ∃ v' l, e = .returned (.tuple #[v', .int .i64 (detMayN T)]) ∧ Poly w' w'.heap.size v' l ∧ (detMayN T ≠ 0 → l = []) ∧ (detMayN T = 0 → GoodT T T.length ∧ T.length ≤ 6 ∧ Canon l (detOf T)) ∧ Below w.heap.size w w' := by
  have HT : Hid (Table w w.heap.size v T) := h
  have HR : Hid (∀ i, i < T.length → (T.getD i []).length ≤ maxLen) := hr
  have HP : Hid (∀ i, i < T.length → ∀ j, j < (T.getD i []).length → ((T.getD i []).getD j []).length ≤ maxLen) := hp
  clear h hr hp
  cases hsq : squareB T with
  | false =>
    have HSQ : Hid (squareB T = false) := hsq
    have HE : Hid (detMayN T = 2) := detMay_size hsq
    clear hsq
    go_enter Tryd.func22, Tryd.ntmps22
    go_wp2_with (go_at_call 34; refine (square_any v T _ hl HR.out HT.out).mono ?_; rw [HSQ.out]; rintro r w1 ⟨rfl, hb1⟩)
    go_ret2
    exact ⟨.slice none 0 0, [], by rw [HE.out]; rfl, Or.inl ⟨rfl, rfl⟩, fun _ => rfl, (fun e => by rw [HE.out] at e; cases e), hb1⟩
  | true =>
    have hs6 := (square_iff T).1 hsq
    have h6 := hs6.1
    have HS6 : Hid (∀ i, i < T.length → (T.getD i []).length ≤ 6) := fun i hi => by rw [hs6.2 i hi]; exact hs6.1
    have HSQ : Hid (squareB T = true) := hsq
    clear hs6 hsq
    go_enter Tryd.func22, Tryd.ntmps22
    go_wp2_with (go_at_call 34; refine (square_any v T _ hl HR.out HT.out).mono ?_; rw [HSQ.out]; rintro r w1 ⟨rfl, hb1⟩; refine Hid.out ?_)
    refine Lib.hid ?_
    have hb01 : Hid (Below w.heap.size w w1) := hb1
    have HT1 : Hid (Table w1 w1.heap.size v T) := HT.out.up hb1
    clear hb1
    cases hm : everyB mayB T with
    | false =>
      have HM : Hid (everyB mayB T = false) := hm
      have HE : Hid (detMayN T = 1) := detMay_form HSQ.out hm
      clear hm
      go_wp2_with (go_at_call 35; refine (every_may v T _ h6 HS6.out HP.out HT1.out).mono ?_; rw [HM.out]; rintro r w2 ⟨rfl, hb2⟩)
      go_ret2
      exact ⟨.slice none 0 0, [], by rw [HE.out]; rfl, Or.inl ⟨rfl, rfl⟩, fun _ => rfl, (fun e => by rw [HE.out] at e; cases e), hb01.out.trans (hb2.mono hb01.out.size)⟩
    | true =>
      have HM : Hid (everyB mayB T = true) := hm
      have HM2 : Hid (∀ i, i < T.length → ∀ j, j < (T.getD i []).length → mayB ((T.getD i []).getD j []) = true) := (every_iff mayB T).1 hm
      clear hm
      go_wp2_with (go_at_call 35; refine (every_may v T _ h6 HS6.out HP.out HT1.out).mono ?_; rw [HM.out]; rintro r w2 ⟨rfl, hb2⟩; refine Hid.out ?_)
      refine Lib.hid ?_
      have hb02 : Hid (Below w.heap.size w w2) := hb01.out.trans (hb2.mono hb01.out.size)
      have HT2 : Hid (Table w2 w2.heap.size v T) := HT.out.up hb02.out
      clear hb2 hb01 HT1
      cases hf : everyB fewB T with
      | false =>
        have HF : Hid (everyB fewB T = false) := hf
        have HE : Hid (detMayN T = 3) := detMay_range HSQ.out HM.out hf
        clear hf
        go_wp2_with (go_at_call 35; refine (every_few v T _ h6 HS6.out HM2.out HT2.out).mono ?_; rw [HF.out]; rintro r w3 ⟨rfl, hb3⟩)
        go_ret2
        exact ⟨.slice none 0 0, [], by rw [HE.out]; rfl, Or.inl ⟨rfl, rfl⟩, fun _ => rfl, (fun e => by rw [HE.out] at e; cases e), hb02.out.trans (hb3.mono hb02.out.size)⟩
      | true =>
        have HF : Hid (everyB fewB T = true) := hf
        have HE : Hid (detMayN T = 0) := detMay_ok HSQ.out HM.out hf
        have HGT : Hid (GoodT T T.length) := good_of HSQ.out HM.out hf
        clear hf
        go_wp2_with (go_at_call 35; refine (every_few v T _ h6 HS6.out HM2.out HT2.out).mono ?_; rw [HF.out]; rintro r w3 ⟨rfl, hb3⟩; refine Hid.out ?_)
        refine Lib.hid ?_
        have hb03 : Hid (Below w.heap.size w w3) := hb02.out.trans (hb3.mono hb02.out.size)
        have HT3 : Hid (Table w3 w3.heap.size v T) := HT.out.up hb03.out
        clear hb3 hb02 HT2
        go_wp2_with (go_at_call 37; refine (determinant_any v T T.length _ h6 HGT.out HT3.out).mono ?_; rintro r w4 ⟨bm, D, rfl, hbm, hom, hcm, hkm, hb4⟩; refine Hid.out ?_)
        refine Lib.hid ?_
        have HCM : Hid (∀ y, coefOf D y = detOf T y) := hcm
        have HLN : Hid (∀ left acc, Coll D left acc → acc.length ≤ 1000000) := fun left acc hC => Nat.le_trans (coll_len hC (1000 * T.length) (by rw [Int.natCast_mul]; exact hkm)) (by omega)
        have hb04 : Hid (Below w.heap.size w w4) := hb03.out.trans (hb4.mono hb03.out.size)
        clear hcm hkm hb4 hb03 HT3 hbm
        go_wp2_with (go_at_call 38; refine (terms34k bm _ D _ hom HLN.out).mono ?_; rintro r w5 ⟨vr, lr, rfl, hrow5, hcan5, hb5⟩)
        go_ret2
        exact ⟨vr, lr, by rw [HE.out]; rfl, Poly.ofRow hrow5, fun e => absurd HE.out e, fun _ => ⟨HGT.out, h6, canon_congr hcan5 HCM.out⟩, hb04.out.trans (hb5.mono hb04.out.size)⟩
end Go.Proofs.YthbhllomikfbhaaDoor.Poly
