/- ref.SameDiagram, for door seats (K3 over W5d). -/
import Derived.Test.YtlimfajjmhfnaaaDoorW5d
namespace Go.Proofs.YtlimfajjmhfnaaaDoor
open Go.RowKit

/-- Are two crossings the same? -/
def crEq (x y : Cr) : Bool := x.a == y.a && x.b == y.b && x.c == y.c && x.d == y.d && x.plus == y.plus
theorem crEq_refl (x : Cr) : crEq x x = true := by simp [crEq]
theorem crEq_eq {x y : Cr} (h : crEq x y = true) : x = y := by
  obtain ⟨a, b, c, d, p⟩ := x
  obtain ⟨a', b', c', d', p'⟩ := y
  simp [crEq] at h
  obtain ⟨⟨⟨⟨h1, h2⟩, h3⟩, h4⟩, h5⟩ := h
  rw [h1, h2, h3, h4, h5]
/-- Are two lists of crossings the same? -/
def crsEq (C D : List Cr) : Bool := decide (C.length = D.length) && (List.range C.length).all fun i => crEq (C.getD i Cr.none) (D.getD i Cr.none)
theorem crsEq_refl (C : List Cr) : crsEq C C = true := by simp [crsEq, crEq_refl]
theorem crsEq_eq {C D : List Cr} (h : crsEq C D = true) : C = D := by
  simp only [crsEq, Bool.and_eq_true, decide_eq_true_eq, List.all_eq_true, List.mem_range] at h
  apply List.ext_getElem?
  intro i
  by_cases hi : i < C.length
  · have e := crEq_eq (h.2 i hi)
    rw [List.getD_eq_getElem?_getD, List.getD_eq_getElem?_getD, List.getElem?_eq_getElem hi, List.getElem?_eq_getElem (by omega)] at e
    rw [List.getElem?_eq_getElem hi, List.getElem?_eq_getElem (by omega)]
    exact congrArg some e
  · rw [List.getElem?_eq_none (by omega), List.getElem?_eq_none (by omega)]

/-- Are two diagrams the same? -/
def sameD (l1 l2 : Int) (C D : List Cr) : Bool := decide (l1 = l2) && crsEq C D
theorem sameD_iff (l1 l2 : Int) (C D : List Cr) : sameD l1 l2 C D = true ↔ l1 = l2 ∧ C.length = D.length ∧ ∀ i, i < C.length → crEq (C.getD i Cr.none) (D.getD i Cr.none) = true := by
  simp only [sameD, crsEq, Bool.and_eq_true, decide_eq_true_eq, List.all_eq_true, List.mem_range]
theorem sameD_no {l1 l2 : Int} {C D : List Cr} (h : ¬ (l1 = l2 ∧ C.length = D.length ∧ ∀ i, i < C.length → crEq (C.getD i Cr.none) (D.getD i Cr.none) = true)) : sameD l1 l2 C D = false := by
  cases hs : sameD l1 l2 C D with
  | false => rfl
  | true => exact absurd ((sameD_iff l1 l2 C D).1 hs) h
theorem eqCross (x y : Cr) (w : World) : (Op.equalIn 10000 53 (.agg #[.int .i64 x.a, .int .i64 x.b, .int .i64 x.c, .int .i64 x.d, .bool x.plus]) (.agg #[.int .i64 y.a, .int .i64 y.b, .int .i64 y.c, .int .i64 y.d, .bool y.plus])).run Tryd.prog w = .ok (crEq x y) w := by
  have u3 := Tryd.underlying3
  have a3 := Tryd.isAgg3
  have z3 := Tryd.sizeOf3
  have u4 := Tryd.underlying4
  have a4 := Tryd.isAgg4
  have z4 := Tryd.sizeOf4
  have hS : Tryd.prog.underlying 53 = some (.struct (Tryd.prog.fieldsOf 53)) := by kernel_rfl
  have hp : Tryd.prog.stoodInHeld 53 = false := by kernel_rfl
  rw [show (10000 : Nat) = 9999 + 1 from rfl, run_equalIn_agg w 9999 53 _ _ hS hp]
  simp only [Program.fieldsOf, Tryd.underlying53]
  go_simp
  unfold crEq
  by_cases h1 : x.a = y.a <;> by_cases h2 : x.b = y.b <;> by_cases h3 : x.c = y.c <;> by_cases h4 : x.d = y.d <;> by_cases h5 : x.plus = y.plus <;> simp [h1, h2, h3, h4, h5]
theorem neqCross (x y : Cr) (w : World) : (binOp .neq 53 (.agg #[.int .i64 x.a, .int .i64 x.b, .int .i64 x.c, .int .i64 x.d, .bool x.plus]) (.agg #[.int .i64 y.a, .int .i64 y.b, .int .i64 y.c, .int .i64 y.d, .bool y.plus])).run Tryd.prog w = .ok (.bool (!crEq x y)) w := by
  rw [run_neq_struct, eqCross]
  simp [Result.andThen]

set_option maxHeartbeats 4000000 in
set_option maxRecDepth 100000 in
theorem sameDiagram_any (v1 v2 : Value) (C D : List Cr) (l1 l2 : Int) (w : World) (h1 : Crs w w.heap.size v1 C) (h2 : Crs w w.heap.size v2 D) :
    Calls Tryd.prog 14 #[.agg #[v1, .int .i64 l1], .agg #[v2, .int .i64 l2]] w fun e w' => e = .returned (.bool (sameD l1 l2 C D)) ∧ Below w.heap.size w w' := by
  have HC1 : Hid (Crs w w.heap.size v1 C) := h1
  have HC2 : Hid (Crs w w.heap.size v2 D) := h2
  obtain ⟨a1, c1, rfl, hn1, -⟩ := h1
  obtain ⟨a2, c2, rfl, hn2, -⟩ := h2
  have hn1' : C.length ≤ 9223372036854775807 := hn1
  have hn2' : D.length ≤ 9223372036854775807 := hn2
  clear hn1 hn2
  have HB0 : Hid (Below w.heap.size w ((w.alloc (.cells #[.slice a1 C.length c1, .int .i64 l1] 37)).alloc (.cells #[.slice a2 D.length c2, .int .i64 l2] 37))) := below2 _ _ _
  by_cases hll : l1 = l2
  · subst hll
    have hd1 : (l1 != l1) = false := by simp
    by_cases hlen : C.length = D.length
    · have HLEN : Hid (C.length = D.length) := hlen
      have e2 : D.length = C.length := hlen.symm
      rw [e2]
      clear hlen e2 hn2'
      have hd2 : ((C.length : Int) != (C.length : Int)) = false := by simp
      obtain ⟨w0, hw0⟩ : ∃ w0, w0 = (w.alloc (.cells #[.slice a1 C.length c1, .int .i64 l1] 37)).alloc (.cells #[.slice a2 C.length c2, .int .i64 l1] 37) := ⟨_, rfl⟩
      have HW0 : Hid (w0 = (w.alloc (.cells #[.slice a1 C.length c1, .int .i64 l1] 37)).alloc (.cells #[.slice a2 C.length c2, .int .i64 l1] 37)) := hw0
      have hs0 : w0.heap.size = w.heap.size + 2 := by rw [hw0]; simp
      have HBW : Hid (Below w.heap.size w w0) := (by rw [hw0]; exact below2 _ _ _ : Below w.heap.size w w0)
      have HT1 : Hid (w0.heap[w.heap.size]? = some (.cells #[.slice a1 C.length c1, .int .i64 l1] 37 (0, 0))) := (by rw [hw0]; exact alloc_old (alloc_at rfl) : w0.heap[w.heap.size]? = some (.cells #[.slice a1 C.length c1, .int .i64 l1] 37 (0, 0)))
      have HT2 : Hid (w0.heap[w.heap.size + 1]? = some (.cells #[.slice a2 C.length c2, .int .i64 l1] 37 (0, 0))) := (by rw [hw0]; exact alloc_at (by simp) : w0.heap[w.heap.size + 1]? = some (.cells #[.slice a2 C.length c2, .int .i64 l1] 37 (0, 0)))
      clear hw0
      go_enter Tryd.func14, Tryd.ntmps14
      go_wp2
      rw [← HW0.out]
      go_loopw [5] (fun v5 wr => ∃ i : Nat, i ≤ C.length ∧ v5 = .int .i64 (i : Nat) ∧ Hid (∀ j, j < i → crEq (C.getD j Cr.none) (D.getD j Cr.none) = true) ∧ Below w0.heap.size w0 wr) (fun v5 _ => C.length - (intOf v5).toNat)
      case atStart => exact ⟨0, Nat.zero_le _, rfl, fun j hj => absurd hj (Nat.not_lt_zero _), Below.refl _ _⟩
      case round =>
        rename World => W1
        obtain ⟨i, hin, rfl, hall, hb⟩ := hrel
        have hszW := hb.size
        have g1 := (hb.block _ (by omega)).trans HT1.out
        have g2 := (hb.block _ (by omega)).trans HT2.out
        have p1 : W1.cell? ⟨w.heap.size, 0, none⟩ = some (.slice a1 C.length c1) := block_cell g1 rfl
        have p2 : W1.cell? ⟨w.heap.size + 1, 0, none⟩ = some (.slice a2 C.length c2) := block_cell g2 rfl
        have hl1 : w.heap.size < W1.heap.size := by omega
        have hl2 : w.heap.size + 1 < W1.heap.size := by omega
        have HBB : Hid (Below w.heap.size w W1) := HBW.out.trans (hb.mono HBW.out.size)
        clear g1 g2
        by_cases hil : i < C.length
        · have hdi : decide ((i : Int) < (C.length : Int)) = true := by simp; omega
          have hdi2 : decide (i < C.length) = true := by simp; omega
          obtain ⟨b1, o1, ea1, hb1, hC1⟩ := crs_some HC1.out (by omega)
          subst ea1
          obtain ⟨x0, x1, x2, x3, x4⟩ := (hC1.on HBB.out hb1) i hil
          have hl := HLEN.out
          obtain ⟨b2, o2, ea2, hb2, hC2⟩ : ∃ b off, a2 = some ⟨b, off, none⟩ ∧ b < w.heap.size ∧ CrossAt w b off D := by
            obtain ⟨a', cap', e, _, g⟩ := HC2.out
            injection e with e1 e2 e3
            obtain ⟨b, off, h1, h2, h3⟩ := g (by omega)
            exact ⟨b, off, by rw [e1, h1], h2, h3⟩
          subst ea2
          obtain ⟨y0, y1, y2, y3, y4⟩ := (hC2.on HBB.out hb2) i (by omega)
          clear hC1 hC2 hl
          have HCI : Hid (∀ q, crEq (C.getD i Cr.none) (D.getD i Cr.none) = q → crEq (C.getD i Cr.none) (D.getD i Cr.none) = q) := fun _ h => h
          obtain ⟨x, hx⟩ : ∃ x, C.getD i Cr.none = x := ⟨_, rfl⟩
          obtain ⟨y, hy⟩ : ∃ y, D.getD i Cr.none = y := ⟨_, rfl⟩
          rw [hx] at x0 x1 x2 x3 x4
          rw [hy] at y0 y1 y2 y3 y4
          have HXY : Hid (crEq (C.getD i Cr.none) (D.getD i Cr.none) = crEq x y) := (by rw [hx, hy] : crEq (C.getD i Cr.none) (D.getD i Cr.none) = crEq x y)
          clear hx hy HCI
          have hb1w : b1 < W1.heap.size := by omega
          have hb2w : b2 < W1.heap.size := by omega
          have n0 : (0 : Int) ≤ (i : Int) := by omega
          have n1 : (i : Int) < (C.length : Int) := by omega
          have hcmp := neqCross x y
          cases hq : crEq x y with
          | true =>
            rw [hq] at hcmp
            simp only [Bool.not_true] at hcmp
            go_wp2
            go_quiet (fail)
            go_wp2
            go_roundw
            case rel =>
              refine ⟨i + 1, by omega, by go_num, fun j hj => ?_, below_drewN hb _⟩
              by_cases e : j = i
              · rw [e, HXY.out]; exact hq
              · exact hall.out j (by omega)
            case measure => simp only [intOf]; omega
          | false =>
            rw [hq] at hcmp
            simp only [Bool.not_false] at hcmp
            have HNO : Hid (sameD l1 l1 C D = false) := sameD_no (fun h => by
              have := h.2.2 i hil
              rw [HXY.out, hq] at this
              exact absurd this (by simp))
            go_wp2
            go_quiet (fail)
            go_wp2
            go_ret
            exact ⟨ret_bool HNO.out, HBW.out.trans ((below_drewN hb _).mono HBW.out.size)⟩
        · obtain rfl : i = C.length := by omega
          have HYES : Hid (sameD l1 l1 C D = true) := (sameD_iff l1 l1 C D).2 ⟨rfl, HLEN.out, fun j hj => hall.out j hj⟩
          have hdi : decide ((C.length : Int) < (C.length : Int)) = false := by simp
          go_wp2
          go_ret
          exact ⟨ret_bool HYES.out, HBB.out⟩
    · have hd2 : ((C.length : Int) != (D.length : Int)) = true := by rw [bne_iff_ne]; omega
      have HNO : Hid (sameD l1 l1 C D = false) := sameD_no (fun h => hlen h.2.1)
      go_enter Tryd.func14, Tryd.ntmps14
      go_wp2
      go_ret
      exact ⟨ret_bool HNO.out, HB0.out⟩
  · have hd1 : (l1 != l2) = true := by rw [bne_iff_ne]; exact hll
    have HNO : Hid (sameD l1 l2 C D = false) := sameD_no (fun h => hll h.1)
    go_enter Tryd.func14, Tryd.ntmps14
    go_wp2
    go_ret
    exact ⟨ret_bool HNO.out, HB0.out⟩
theorem sameDiagram_eq (v1 v2 : Value) (C : List Cr) (l : Int) (w : World) (h1 : Crs w w.heap.size v1 C) (h2 : Crs w w.heap.size v2 C) :
    Calls Tryd.prog 14 #[.agg #[v1, .int .i64 l], .agg #[v2, .int .i64 l]] w fun e w' => e = .returned (.bool true) ∧ Below w.heap.size w w' := by
  refine (sameDiagram_any v1 v2 C C l l w h1 h2).mono fun e w' ⟨he, hb⟩ => ⟨?_, hb⟩
  rw [he, (sameD_iff l l C C).2 ⟨rfl, rfl, fun i _ => crEq_refl _⟩]
end Go.Proofs.YtlimfajjmhfnaaaDoor
