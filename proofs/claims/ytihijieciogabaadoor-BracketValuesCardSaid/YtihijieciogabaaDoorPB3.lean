/- The walk of (poly.work).times: the product of two maps, as a new one. -/
import Derived.Test.YtihijieciogabaaDoorPB1P
namespace Go.Proofs.YtihijieciogabaaDoor.Poly
open Go.RowKit Go.Maps

/-- The coefficient of y in a list of terms times what g tells. -/
def prodL : List (Int × Int) → (Int → Int) → Int → Int
  | [], _, _ => 0
  | t :: ts, g, y => t.2 * g (y - t.1) + prodL ts g y

theorem prodL_append (a b : List (Int × Int)) (g : Int → Int) (y : Int) : prodL (a ++ b) g y = prodL a g y + prodL b g y := by
  induction a with
  | nil => simp [prodL]
  | cons t a ih => simp only [List.cons_append, prodL, ih]; omega

theorem mul_bd {c g : Int} (h0 : -1000000 ≤ c) (h1 : c ≤ 1000000) (h2 : -1000000 ≤ g) (h3 : g ≤ 1000000) : -1000000000000 ≤ c * g ∧ c * g ≤ 1000000000000 := by
  have e : (c * g).natAbs ≤ 1000000 * 1000000 := by
    rw [Int.natAbs_mul]
    exact Nat.mul_le_mul (by omega) (by omega)
  omega

theorem prodL_le (a : List (Int × Int)) (g : Int → Int) (y : Int) (ha : ∀ t ∈ a, -1000000 ≤ t.2 ∧ t.2 ≤ 1000000) (hg : ∀ x, -1000000 ≤ g x ∧ g x ≤ 1000000) :
    -(1000000000000 * (a.length : Int)) ≤ prodL a g y ∧ prodL a g y ≤ 1000000000000 * (a.length : Int) := by
  induction a with
  | nil => simp [prodL]
  | cons t a ih =>
    have h1 := ih fun t ht => ha t (List.mem_cons_of_mem _ ht)
    have h2 := ha t (by simp)
    have h3 := hg (y - t.1)
    have h4 := mul_bd h2.1 h2.2 h3.1 h3.2
    simp only [prodL, List.length_cons]
    omega

theorem prodL_perm {a b : List (Int × Int)} (h : a.Perm b) (g : Int → Int) (y : Int) : prodL a g y = prodL b g y := by
  induction h with
  | nil => rfl
  | cons t _ ih => simp only [prodL, ih]
  | swap s t l => simp only [prodL]; omega
  | trans _ _ ih1 ih2 => rw [ih1, ih2]

theorem coll_bd {D : DataW Unit} {left : Lit → Bool} {acc : List (Int × Int)} (h : Coll D left acc) (hb : ∀ x, -1000000 ≤ coefOf D x ∧ coefOf D x ≤ 1000000) : ∀ t ∈ acc, -1000000 ≤ t.2 ∧ t.2 ≤ 1000000 := by
  intro t ht
  have := ((h.mem t.1 t.2).1 ht).2.1
  rw [← this]
  exact hb t.1

set_option maxHeartbeats 4000000 in
set_option maxRecDepth 100000 in
theorem times24 (bp np bq nq : Nat) (Dp Dq : DataW Unit) (w : World) (hp : w.ownsMap Tryd.prog 3 (plainElem Tryd.prog 3) bp np Dp) (hq : w.ownsMap Tryd.prog 3 (plainElem Tryd.prog 3) bq nq Dq) (hnp : np ≤ 64) (hnq : nq ≤ 64)
    (hkp : KeysIn Dp 1000) (hkq : KeysIn Dq 1000) (hbp : ∀ x, -1000000 ≤ coefOf Dp x ∧ coefOf Dp x ≤ 1000000) (hbq : ∀ x, -1000000 ≤ coefOf Dq x ∧ coefOf Dq x ≤ 1000000) :
    Calls Tryd.prog 18 #[.map (some bp), .map (some bq)] w fun e w' => ∃ (D : DataW Unit) (acc : List (Int × Int)), e = .returned (.map (some w.heap.size)) ∧ w'.ownsMap Tryd.prog 3 (plainElem Tryd.prog 3) w.heap.size 4096 D ∧ (∀ y, coefOf D y = prodL acc (coefOf Dq) y) ∧
      (∀ x c, (x, c) ∈ acc ↔ (coefOf Dp x = c ∧ c ≠ 0)) ∧ acc.Pairwise (fun a b => a.1 ≠ b.1) ∧ Below w.heap.size w w' := by
  have hmm := @run_makeMap Tryd.prog
  have hlp := hp.lt
  have hlq := hq.lt
  have hsp := size_le hp
  have hsq := size_le hq
  have HKP : Hid _ := hkp
  have HKQ : Hid _ := hkq
  have HBP : Hid _ := hbp
  have HBQ : Hid _ := hbq
  clear hkp hkq hbp hbq
  have e1 : (w.alloc (.map #[] 0)).heap.size = w.heap.size + 1 := by simp
  go_enter Tryd.func18, Tryd.ntmps18
  go_wp2_with (first
    | (at_range; refine wpList_range_own _ rfl _ 47 rfl 3 3 law3 Tryd.underlying47 _ bp np _ rfl (hp.alloc _) ?_; intro w0 hrg0 hg0 hs0))
  go_frame
  rw [e1] at hrg0 hs0 ⊢
  go_loopw [6, 7, 8, 9] (fun _ _ _ _ wr => ∃ (left : Lit → Bool) (cnt k j : Nat) (D : DataW Unit) (acc : List (Int × Int)), wr.ranges Tryd.prog 3 (plainElem Tryd.prog 3) bp (w.heap.size + 1) np Dp left cnt ∧ j + cnt ≤ np ∧ k ≤ 64 * j ∧ acc.length ≤ j ∧
      wr.ownsMap Tryd.prog 3 (plainElem Tryd.prog 3) w.heap.size k D ∧ Hid (Coll Dp left acc) ∧ Hid (∀ y, coefOf D y = prodL acc (coefOf Dq) y) ∧ Below w.heap.size w wr)
    (fun _ _ _ _ wr => wr.rangeLeft bp (w.heap.size + 1))
  case atStart =>
    exact ⟨_, _, 0, 0, .map [], [], hrg0, by omega, by omega, by simp, (World.ownsMap_made _ _ _ _).kept hg0 (by simp), coll_start Dp, fun y => coefOf_none rfl, ((Below.refl _ _).alloc (Nat.le_refl _) _).grown hg0 (by simp) (fun j hj => by cases hj)⟩
  case round =>
    clear hrg0 hg0 hs0
    rename World => W1
    obtain ⟨left, cnt, k, j, D, acc, hrg, hcs, hkj, hal, hout, hC, hD, hnx⟩ := hrel
    go_wp2_with (first
      | (at_next; refine wpList_next_ranges_ii _ rfl _ rfl 3 3 .i64 .i64 law3 Tryd.underlying3 Tryd.underlying3 bp (w.heap.size + 1) np _ _ _ rfl hrg ?_ ?_)
      | go_in)
    · intro hc0 hl0
      go_wp2
      go_ret
      exact ⟨D, acc, rfl, hout.mono (by omega), hD.out, fun x c => by rw [hC.out.mem]; simp [hl0], hC.out.once, hnx⟩
    · intro x c w1 cnt1 hwx hwc hlx hat hrg1 hlt hg1 hs1 hen
      have hx := HKP.out x (has_at hat)
      have hcp := HBP.out x
      rw [coefOf_at hat] at hcp
      have hout1 := hout.kept hg1 (by simp)
      have hnx1 : Below w.heap.size w w1 := hnx.grown hg1 hnx.size (fun j hj => by cases hj; omega)
      have hq1 := map_on hq hnx1 hlq
      have hsz1 := hnx1.size
      have hHB : Hid (∀ y, -64000000000000 ≤ prodL acc (coefOf Dq) y ∧ prodL acc (coefOf Dq) y ≤ 64000000000000) := fun y => by
        have := prodL_le acc (coefOf Dq) y (coll_bd hC.out HBP.out) HBQ.out
        omega
      have HAT : Hid _ := hat
      have HL : Hid _ := hlx
      have hr1 : w.heap.size + 1 < w1.heap.size := hrg1.lt
      clear hat hlx hs1 hout hnx
      go_wp2_with (first
        | (at_range; refine wpList_range_own _ rfl _ 47 rfl 3 3 law3 Tryd.underlying47 _ bq nq _ rfl hq1 ?_; intro w2 hrg2 hg2 hs2))
      go_frame
      go_loopw [8, 9] (fun _ _ ws => ∃ (left2 : Lit → Bool) (cnt2 k2 : Nat) (D2 : DataW Unit), ws.ranges Tryd.prog 3 (plainElem Tryd.prog 3) bq w1.heap.size nq Dq left2 cnt2 ∧ k2 + cnt2 ≤ k + nq ∧
          ws.ranges Tryd.prog 3 (plainElem Tryd.prog 3) bp (w.heap.size + 1) np Dp (fun z => left z && !z.sameKey (.int .i64 x)) cnt1 ∧
          ws.ownsMap Tryd.prog 3 (plainElem Tryd.prog 3) w.heap.size k2 D2 ∧ Hid (∀ y, coefOf D2 y = prodL acc (coefOf Dq) y + part left2 (fun z => c * coefOf Dq z) (y - x)) ∧ Below w.heap.size w ws)
        (fun _ _ ws => ws.rangeLeft bq w1.heap.size)
      case atStart =>
        exact ⟨_, _, k, D, hrg2, by omega, hrg1.kept hg2 (by simp) (by simp), hout1.kept hg2 (by simp), fun y => by
          have : part (Maps.has Dq) (fun z => c * coefOf Dq z) (y - x) = 0 := by
            unfold part
            split
            · rfl
            · rename_i h
              show c * coefOf Dq (y - x) = 0
              rw [coefOf_none (by simpa using h)]; simp
          rw [this, hD.out]; omega, hnx1.grown hg2 hsz1 (fun j hj => by cases hj)⟩
      case round =>
        clear hrg2 hg2 hs2 hrg1 hg1 hen hout1 hnx1 hq1
        obtain ⟨left2, cnt2, k2, D2, hrq, hcs2, hrp, hout, hD2, hnx⟩ := hrel
        go_wp2_with (first
          | (at_next; refine wpList_next_ranges_ii _ rfl _ rfl 3 3 .i64 .i64 law3 Tryd.underlying3 Tryd.underlying3 bq w1.heap.size nq _ _ _ rfl hrq ?_ ?_)
          | go_in)
        · intro hc0 hl0
          go_wp2
          go_roundw
          case rel =>
            have hfin : ∀ y, coefOf D2 y = prodL acc (coefOf Dq) y + c * coefOf Dq (y - x) := fun y => by rw [hD2.out, part_end hl0]
            by_cases hcz : c = 0
            · subst hcz
              exact ⟨_, cnt1, k2, j + 1, D2, acc, hrp, by omega, by omega, by omega, hout, coll_zero hC.out HAT.out, fun y => by rw [hfin]; simp, hnx⟩
            · refine ⟨_, cnt1, k2, j + 1, D2, acc ++ [(x, c)], hrp, by omega, by omega, by simp; omega, hout, coll_more hC.out HL.out hcz HAT.out, fun y => ?_, hnx⟩
              rw [hfin, prodL_append]
              simp [prodL]
          case measure => rw [hrp.left_eq, hrg.left_eq]; exact hlt
        · intro x2 c2 w3 cnt3 hwx2 hwc2 hlx2 hat2 hrq3 hlt3 hg3 hs3 hen3
          have hx2 := HKQ.out x2 (has_at hat2)
          have hcq := HBQ.out x2
          rw [coefOf_at hat2] at hcq
          have hmul := mul_bd hcp.1 hcp.2 hcq.1 hcq.2
          have hne1 : w.heap.size ≠ w1.heap.size := by omega
          have hout3 := hout.kept hg3 (by intro e; exact hne1 (Option.some.inj e))
          have hrp3 := hrp.kept hg3 (by intro e; have := Option.some.inj e; omega) (by intro e; have := Option.some.inj e; omega)
          have hnx3 : Below w.heap.size w w3 := hnx.grown hg3 hnx.size (fun j hj => by cases hj; exact hsz1)
          have HX : Hid (coefOf Dq x2 = c2 ∧ coefOf D2 (x + x2) = prodL acc (coefOf Dq) (x + x2)) := ⟨coefOf_at hat2, by
            rw [hD2.out, show x + x2 - x = x2 by omega, part_at hlx2]; omega⟩
          have hbd0 := hHB.out (x + x2)
          have hdm := hout.isMap
          have HH2 : Hid _ := hlx2
          clear hat2 hlx2 hs3
          go_wp2_with (first
            | (at_lookup; refine wpList_lookup_own_int _ rfl _ _ 47 rfl 3 3 .i64 law3 Tryd.underlying47 Tryd.underlying3 (zero3 _) w.heap.size k2 _ rfl hout3 _ _ rfl (keyOf_int_mk Tryd.underlying3 (WalkArith.wf_i64 (by omega))) ?_; intro c' hat hwc; refine Hid.out ?_))
          refine Lib.hid ?_
          have hc' : coefOf D2 (x + x2) = c' := coefOf_look hat
          have hbd : -64000000000000 ≤ c' ∧ c' ≤ 64000000000000 := by rw [← hc', HX.out.2]; exact hbd0
          have HC' : Hid (coefOf D2 (x + x2) = c') := hc'
          clear hat hwc hc' hbd0
          go_wp2_with (first
            | (at_mapUpdate; refine wpList_mapUpdate_own _ rfl _ _ _ 47 rfl 3 3 law3 Tryd.underlying47 _ w.heap.size k2 _ rfl hout3 (by unfold maxLen; omega) _ _ _ rfl rfl (keyOf_int_mk Tryd.underlying3 (WalkArith.wf_i64 (by omega))) _ [] (plainElem_int Tryd.underlying3 (WalkArith.wf_i64 (by omega))) ?_; intro w4 hown4 hg4; go_frame))
          have hrq4 := hrq3.kept hg4 (fun e => by have := Option.some.inj e; omega) (fun e => by have := Option.some.inj e; omega)
          have hrp4 := hrp3.kept hg4 (fun e => by have := Option.some.inj e; omega) (fun e => by have := Option.some.inj e; omega)
          go_roundw
          case rel =>
            refine ⟨_, cnt3, k2 + 1, _, hrq4, by omega, hrp4, hown4, fun y => ?_, hnx3.grown hg4 hnx3.size (fun j hj => by cases hj; exact Nat.le_refl _)⟩
            rw [coefOf_put hdm, part_step]
            by_cases hxy : x + x2 = y
            · have hyx : x2 = y - x := by omega
              rw [if_pos hxy, if_pos hyx, ← HC'.out, HX.out.2, HX.out.1, hxy]
            · have hyx : ¬ x2 = y - x := by omega
              rw [if_neg hxy, if_neg hyx, hD2.out]
          case measure => rw [hrq4.left_eq, hrq.left_eq]; exact hlt3
end Go.Proofs.YtihijieciogabaaDoor.Poly
