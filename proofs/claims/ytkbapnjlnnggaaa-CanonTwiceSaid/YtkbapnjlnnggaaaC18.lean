/- The walks of slices.Equal at crossings, and of canon.both where both diagrams may be. -/
import Derived.Test.YtkbapnjlnnggaaaC11P
import Derived.Test.YtkbapnjlnnggaaaK1P
namespace Go.Proofs.Ytkbapnjlnnggaaa
open Go.RowKit

theorem Drawn.drB {w w' : World} {a : Option Addr} {cap : Nat} {loops : Int} {C : List Cr} {D : Value} (h : Drawn w w' w.heap.size (.slice a C.length cap) loops C D) (hm : mayD C loops = true) (hb : Below w.heap.size w w') (hC : Crs w w.heap.size (.slice a C.length cap) C) :
    ∃ gF cF gT cT, D = drV a cap C loops gF cF gT cT ∧ Dr w' a cap C gF gT ∧ w'.ownsRow w.heap.size 111 2 (.slice (some ⟨gF, 0, none⟩) (2 * C.length + 1) cF) (2 * C.length + 1) (flat (ends C false C.length 0)) ∧
    w'.ownsRow w.heap.size 111 2 (.slice (some ⟨gT, 0, none⟩) (2 * C.length + 1) cT) (2 * C.length + 1) (flat (ends C true C.length 0)) := by
  obtain ⟨gF, cF, gT, cT, rfl, h1, h2⟩ := h.yes hm
  exact ⟨gF, cF, gT, cT, rfl, ⟨hC.up hb, (h1.lt gF rfl).2, (h2.lt gT rfl).2, own_terms h1 (ends_length _ _ _ _), own_terms h2 (ends_length _ _ _ _)⟩, h1, h2⟩

set_option maxHeartbeats 4000000 in
set_option maxRecDepth 100000 in
theorem equalCross_any (v1 v2 : Value) (C D : List Cr) (w : World) (h1 : Crs w w.heap.size v1 C) (h2 : Crs w w.heap.size v2 D) :
    Calls Try.prog 75 #[v1, v2] w fun e w' => e = .returned (.bool (sameD 0 0 C D)) ∧ Below w.heap.size w w' := by
  have HC1 : Hid (Crs w w.heap.size v1 C) := h1
  have HC2 : Hid (Crs w w.heap.size v2 D) := h2
  obtain ⟨a1, c1, rfl, hn1, -⟩ := h1
  obtain ⟨a2, c2, rfl, hn2, -⟩ := h2
  have hn1' : C.length ≤ 9223372036854775807 := hn1
  have hn2' : D.length ≤ 9223372036854775807 := hn2
  clear hn1 hn2
  by_cases hlen : C.length = D.length
  · have HLEN : Hid (C.length = D.length) := hlen
    have e2 : D.length = C.length := hlen.symm
    rw [e2]
    clear hlen e2 hn2'
    have hd2 : ((C.length : Int) != (C.length : Int)) = false := by simp
    go_enter Try.func75, Try.ntmps75
    go_wp2
    go_loopw [13] (fun v13 wr => ∃ i : Nat, i ≤ C.length ∧ v13 = .int .i64 (i : Nat) ∧ Hid (∀ j, j < i → crEq (C.getD j Cr.none) (D.getD j Cr.none) = true) ∧ Below w.heap.size w wr) (fun v13 _ => C.length - (intOf v13).toNat)
    case atStart => exact ⟨0, Nat.zero_le _, rfl, fun j hj => absurd hj (Nat.not_lt_zero _), Below.refl _ _⟩
    case round =>
      rename World => W1
      obtain ⟨i, hin, rfl, hall, hb⟩ := hrel
      have hszW := hb.size
      by_cases hil : i < C.length
      · have hdi : decide ((i : Int) < (C.length : Int)) = true := by simp; omega
        have hdi2 : decide (i < C.length) = true := by simp; omega
        obtain ⟨b1, o1, ea1, hb1, hC1⟩ := crs_some HC1.out (by omega)
        subst ea1
        obtain ⟨x0, x1, x2, x3, x4⟩ := (hC1.on hb hb1) i hil
        have hl := HLEN.out
        obtain ⟨b2, o2, ea2, hb2, hC2⟩ : ∃ b off, a2 = some ⟨b, off, none⟩ ∧ b < w.heap.size ∧ CrossAt w b off D := by
          obtain ⟨a', cap', e, _, g⟩ := HC2.out
          injection e with e1 e2 e3
          obtain ⟨b, off, h1, h2, h3⟩ := g (by omega)
          exact ⟨b, off, by rw [e1, h1], h2, h3⟩
        subst ea2
        obtain ⟨y0, y1, y2, y3, y4⟩ := (hC2.on hb hb2) i (by omega)
        clear hC1 hC2 hl
        obtain ⟨x, hx⟩ : ∃ x, C.getD i Cr.none = x := ⟨_, rfl⟩
        obtain ⟨y, hy⟩ : ∃ y, D.getD i Cr.none = y := ⟨_, rfl⟩
        rw [hx] at x0 x1 x2 x3 x4
        rw [hy] at y0 y1 y2 y3 y4
        have HXY : Hid (crEq (C.getD i Cr.none) (D.getD i Cr.none) = crEq x y) := (by rw [hx, hy] : crEq (C.getD i Cr.none) (D.getD i Cr.none) = crEq x y)
        clear hx hy
        have hb1w : b1 < W1.heap.size := by omega
        have hb2w : b2 < W1.heap.size := by omega
        have n0 : (0 : Int) ≤ (i : Int) := by omega
        have n1 : (i : Int) < (C.length : Int) := by omega
        have hcmp := neqCross x y
        cases hq : crEq x y with
        | true =>
          rw [hq] at hcmp
          simp only [Bool.not_true] at hcmp
          go_wp2
          go_quiet (fail)
          go_wp2
          go_roundw
          case rel =>
            refine ⟨i + 1, by omega, by go_num, fun j hj => ?_, below_drewN hb _⟩
            by_cases e : j = i
            · rw [e, HXY.out]; exact hq
            · exact hall.out j (by omega)
          case measure => simp only [intOf]; omega
        | false =>
          rw [hq] at hcmp
          simp only [Bool.not_false] at hcmp
          have HNO : Hid (sameD 0 0 C D = false) := sameD_no (fun h => by
            have := h.2.2 i hil
            rw [HXY.out, hq] at this
            exact absurd this (by simp))
          go_wp2
          go_quiet (fail)
          go_wp2
          go_ret
          exact ⟨ret_bool HNO.out, below_drewN hb _⟩
      · obtain rfl : i = C.length := by omega
        have HYES : Hid (sameD 0 0 C D = true) := (sameD_iff 0 0 C D).2 ⟨rfl, HLEN.out, fun j hj => hall.out j hj⟩
        have hdi : decide ((C.length : Int) < (C.length : Int)) = false := by simp
        go_wp2
        go_ret
        exact ⟨ret_bool HYES.out, hb⟩
  · have hd2 : ((C.length : Int) != (D.length : Int)) = true := by rw [bne_iff_ne]; omega
    have HNO : Hid (sameD 0 0 C D = false) := sameD_no (fun h => hlen h.2.1)
    go_enter Try.func75, Try.ntmps75
    go_wp2
    go_ret
    exact ⟨ret_bool HNO.out, Below.refl _ _⟩

theorem drew_blk {w : World} {k : Nat} {o : Option Obj} (h : w.heap[k]? = o) : w.drew.heap[k]? = o := h
set_option maxHeartbeats 4000000 in
set_option maxRecDepth 100000 in
theorem both_draw (v1 v2 : Value) (C D : List Cr) (l1 l2 : Int) (w : World) (hm : mayD C l1 = true) (hm' : mayD D l2 = true) (h1 : Crs w w.heap.size v1 C) (h2 : Crs w w.heap.size v2 D) :
    Calls Try.prog 41 #[.agg #[v1, .int .i64 l1], .agg #[v2, .int .i64 l2]] w fun e w' => ∃ a cap gF cF gT cT a' cap' gF' cF' gT' cT', e = .returned (.tuple #[drV a cap C l1 gF cF gT cT, drV a' cap' D l2 gF' cF' gT' cT', .bool true]) ∧ Dr w' a cap C gF gT ∧ Dr w' a' cap' D gF' gT' ∧ Below w.heap.size w w' := by
  have HC : Hid (Crs w w.heap.size v1 C) := h1
  have HD : Hid (Crs w w.heap.size v2 D) := h2
  have HM : Hid (mayD C l1 = true) := hm
  have HM' : Hid (mayD D l2 = true) := hm'
  obtain ⟨a, cap, rfl, -, -⟩ := h1
  obtain ⟨a', cap', rfl, -, -⟩ := h2
  obtain ⟨w0, hw0⟩ : ∃ w0, w0 = (((w.alloc (.cells #[.slice a C.length cap, .int .i64 l1] 24)).alloc (.cells #[.slice a' D.length cap', .int .i64 l2] 24)).alloc (.cells #[.slice none 0 0, .int .i64 0, .slice none 0 0, .slice none 0 0] 71)).alloc (.cells #[.slice none 0 0, .int .i64 0, .slice none 0 0, .slice none 0 0] 71) := ⟨_, rfl⟩
  have HW0 : Hid (w0 = (((w.alloc (.cells #[.slice a C.length cap, .int .i64 l1] 24)).alloc (.cells #[.slice a' D.length cap', .int .i64 l2] 24)).alloc (.cells #[.slice none 0 0, .int .i64 0, .slice none 0 0, .slice none 0 0] 71)).alloc (.cells #[.slice none 0 0, .int .i64 0, .slice none 0 0, .slice none 0 0] 71)) := hw0
  have hs0 : w0.heap.size = w.heap.size + 4 := by rw [hw0]; simp
  have HB0 : Hid (Below w.heap.size w w0) := (by rw [hw0]; exact (below3 _ _ _ _).alloc (by simp; omega) _ : Below w.heap.size w w0)
  have HT0 : Hid (w0.heap[w.heap.size]? = some (.cells #[.slice a C.length cap, .int .i64 l1] 24 (0, 0))) := (by rw [hw0]; exact alloc_old (alloc_old (alloc_old (alloc_at rfl))) : w0.heap[w.heap.size]? = some (.cells #[.slice a C.length cap, .int .i64 l1] 24 (0, 0)))
  have HT1 : Hid (w0.heap[w.heap.size + 1]? = some (.cells #[.slice a' D.length cap', .int .i64 l2] 24 (0, 0))) := (by rw [hw0]; exact alloc_old (alloc_old (alloc_at (by simp))) : w0.heap[w.heap.size + 1]? = some (.cells #[.slice a' D.length cap', .int .i64 l2] 24 (0, 0)))
  have HT2 : Hid (w0.heap[w.heap.size + 2]? = some (.cells #[.slice none 0 0, .int .i64 0, .slice none 0 0, .slice none 0 0] 71 (0, 0))) := (by rw [hw0]; exact alloc_old (alloc_at (by simp)) : w0.heap[w.heap.size + 2]? = some (.cells #[.slice none 0 0, .int .i64 0, .slice none 0 0, .slice none 0 0] 71 (0, 0)))
  have HT3 : Hid (w0.heap[w.heap.size + 3]? = some (.cells #[.slice none 0 0, .int .i64 0, .slice none 0 0, .slice none 0 0] 71 (0, 0))) := (by rw [hw0]; exact alloc_at (by simp) : w0.heap[w.heap.size + 3]? = some (.cells #[.slice none 0 0, .int .i64 0, .slice none 0 0, .slice none 0 0] 71 (0, 0)))
  have HS0 : Hid (w0.heap.size = w.heap.size + 4) := hs0
  clear hw0 hs0
  go_enter Try.func41, Try.ntmps41
  go_upto_region 1 with (fail)
  rw [show w.heap.size + 1 + 1 + 1 = w.heap.size + 3 from rfl, show w.heap.size + 1 + 1 = w.heap.size + 2 from rfl, ← HW0.out]
  have HC0 : Hid (Crs w0 w0.heap.size (.slice a C.length cap) C) := HC.out.up HB0.out
  have t0 : w0.cell? ⟨w.heap.size, 0, none⟩ = some (.slice a C.length cap) := block_cell HT0.out rfl
  have t1 : w0.cell? ⟨w.heap.size, 1, none⟩ = some (.int .i64 l1) := block_cell HT0.out rfl
  have l0 : w.heap.size < w0.heap.size := (Array.getElem?_eq_some_iff.1 HT0.out).1
  clear hm hm'
  go_wp2_with (go_at_call 35; refine (of_any _ C l1 _ HC0.out).mono ?_; rw [HM.out]; rintro e9 w1 ⟨d, rfl, hb1, hd⟩; obtain ⟨gF, cF, gT, cT, rfl, hdr, hF, hT⟩ := hd.drB HM.out hb1 HC0.out; refine Hid.out ?_)
  refine Lib.hid ?_
  unfold drV
  have hs0 := HS0.out
  have hs1 := hb1.size
  have HF1 : Hid (w1.ownsRow (w.heap.size + 4) 111 2 (.slice (some ⟨gF, 0, none⟩) (2 * C.length + 1) cF) (2 * C.length + 1) (flat (ends C false C.length 0)) ∧ w1.ownsRow (w.heap.size + 4) 111 2 (.slice (some ⟨gT, 0, none⟩) (2 * C.length + 1) cT) (2 * C.length + 1) (flat (ends C true C.length 0))) := ⟨own_low hF (by omega), own_low hT (by omega)⟩
  have HB1 : Hid (Below w.heap.size w w1) := HB0.out.trans (hb1.mono (by omega))
  have h1b := (hb1.block (w.heap.size + 1) (by omega)).trans HT1.out
  have h2b := (hb1.block (w.heap.size + 2) (by omega)).trans HT2.out
  have h3b := (hb1.block (w.heap.size + 3) (by omega)).trans HT3.out
  have r0 : w1.cell? ⟨w.heap.size + 2, 0, none⟩ = some (.slice none 0 0) := block_cell h2b rfl
  have r1 : w1.cell? ⟨w.heap.size + 2, 1, none⟩ = some (.int .i64 0) := block_cell h2b rfl
  have r2 : w1.cell? ⟨w.heap.size + 2, 2, none⟩ = some (.slice none 0 0) := block_cell h2b rfl
  have r3 : w1.cell? ⟨w.heap.size + 2, 3, none⟩ = some (.slice none 0 0) := block_cell h2b rfl
  have f0 : w1.frozen? ⟨w.heap.size + 2, 0, none⟩ = false := block_frozen h2b
  have f1 : w1.frozen? ⟨w.heap.size + 2, 1, none⟩ = false := block_frozen h2b
  have f2 : w1.frozen? ⟨w.heap.size + 2, 2, none⟩ = false := block_frozen h2b
  have f3 : w1.frozen? ⟨w.heap.size + 2, 3, none⟩ = false := block_frozen h2b
  have lq2 : w.heap.size + 2 < w1.heap.size := by omega
  have HG1 : Hid (w1.grownBy (st4 w1 (w.heap.size + 2) (.slice a C.length cap) (.int .i64 l1) (.slice (some ⟨gF, 0, none⟩) (2 * C.length + 1) cF) (.slice (some ⟨gT, 0, none⟩) (2 * C.length + 1) cT)) (some (w.heap.size + 2))) := st4_grown _ _ _ _ _ _
  have HX1 : Hid ((st4 w1 (w.heap.size + 2) (.slice a C.length cap) (.int .i64 l1) (.slice (some ⟨gF, 0, none⟩) (2 * C.length + 1) cF) (.slice (some ⟨gT, 0, none⟩) (2 * C.length + 1) cT)).heap[w.heap.size + 2]? = some (.cells #[.slice a C.length cap, .int .i64 l1, .slice (some ⟨gF, 0, none⟩) (2 * C.length + 1) cF, .slice (some ⟨gT, 0, none⟩) (2 * C.length + 1) cT] 71 (0, 0)) ∧ (st4 w1 (w.heap.size + 2) (.slice a C.length cap) (.int .i64 l1) (.slice (some ⟨gF, 0, none⟩) (2 * C.length + 1) cF) (.slice (some ⟨gT, 0, none⟩) (2 * C.length + 1) cT)).heap[w.heap.size + 1]? = some (.cells #[.slice a' D.length cap', .int .i64 l2] 24 (0, 0)) ∧ (st4 w1 (w.heap.size + 2) (.slice a C.length cap) (.int .i64 l1) (.slice (some ⟨gF, 0, none⟩) (2 * C.length + 1) cF) (.slice (some ⟨gT, 0, none⟩) (2 * C.length + 1) cT)).heap[w.heap.size + 3]? = some (.cells #[.slice none 0 0, .int .i64 0, .slice none 0 0, .slice none 0 0] 71 (0, 0)) ∧ (st4 w1 (w.heap.size + 2) (.slice a C.length cap) (.int .i64 l1) (.slice (some ⟨gF, 0, none⟩) (2 * C.length + 1) cF) (.slice (some ⟨gT, 0, none⟩) (2 * C.length + 1) cT)).ownsRow (w.heap.size + 4) 111 2 (.slice (some ⟨gF, 0, none⟩) (2 * C.length + 1) cF) (2 * C.length + 1) (flat (ends C false C.length 0)) ∧ (st4 w1 (w.heap.size + 2) (.slice a C.length cap) (.int .i64 l1) (.slice (some ⟨gF, 0, none⟩) (2 * C.length + 1) cF) (.slice (some ⟨gT, 0, none⟩) (2 * C.length + 1) cT)).ownsRow (w.heap.size + 4) 111 2 (.slice (some ⟨gT, 0, none⟩) (2 * C.length + 1) cT) (2 * C.length + 1) (flat (ends C true C.length 0)) ∧ Below w.heap.size w (st4 w1 (w.heap.size + 2) (.slice a C.length cap) (.int .i64 l1) (.slice (some ⟨gF, 0, none⟩) (2 * C.length + 1) cF) (.slice (some ⟨gT, 0, none⟩) (2 * C.length + 1) cT)) ∧ w1.heap.size ≤ (st4 w1 (w.heap.size + 2) (.slice a C.length cap) (.int .i64 l1) (.slice (some ⟨gF, 0, none⟩) (2 * C.length + 1) cF) (.slice (some ⟨gT, 0, none⟩) (2 * C.length + 1) cT)).heap.size) := ⟨st4_block h2b, (HG1.out.block _ (by omega) (fun e => by have := Option.some.inj e; omega)).trans h1b, (HG1.out.block _ (by omega) (fun e => by have := Option.some.inj e; omega)).trans h3b, HF1.out.1.kept HG1.out (Or.inr (fun e => by have := (HF1.out.1.lt _ e).1; omega)), HF1.out.2.kept HG1.out (Or.inr (fun e => by have := (HF1.out.2.lt _ e).1; omega)), HB1.out.grown HG1.out HB1.out.size (fun q hq => by have := Option.some.inj hq; omega), HG1.out.size⟩
  clear hb1 hd hdr hF hT h1b h2b h3b HS0 HF1 HG1 HB1
  go_upto_region 3 with (fail)
  have hst : (((w1.setCell ⟨w.heap.size + 2, 0, none⟩ (.slice a C.length cap)).setCell ⟨w.heap.size + 2, 1, none⟩ (.int .i64 l1)).setCell ⟨w.heap.size + 2, 2, none⟩ (.slice (some ⟨gF, 0, none⟩) (2 * C.length + 1) cF)).setCell ⟨w.heap.size + 2, 3, none⟩ (.slice (some ⟨gT, 0, none⟩) (2 * C.length + 1) cT) = st4 w1 (w.heap.size + 2) (.slice a C.length cap) (.int .i64 l1) (.slice (some ⟨gF, 0, none⟩) (2 * C.length + 1) cF) (.slice (some ⟨gT, 0, none⟩) (2 * C.length + 1) cT) := rfl
  rw [hst]
  clear hst r0 r1 r2 r3 f0 f1 f2 f3
  generalize st4 w1 (w.heap.size + 2) (.slice a C.length cap) (.int .i64 l1) (.slice (some ⟨gF, 0, none⟩) (2 * C.length + 1) cF) (.slice (some ⟨gT, 0, none⟩) (2 * C.length + 1) cT) = X1 at HX1 ⊢
  obtain ⟨y1, y2, y3, y4, y5, y6, y7⟩ := HX1.out
  have HC1 : Hid (Crs X1 X1.heap.size (.slice a' D.length cap') D) := HD.out.up y6
  have u0 : X1.cell? ⟨w.heap.size + 1, 0, none⟩ = some (.slice a' D.length cap') := block_cell y2 rfl
  have u1 : X1.cell? ⟨w.heap.size + 1, 1, none⟩ = some (.int .i64 l2) := block_cell y2 rfl
  have lu : w.heap.size + 1 < X1.heap.size := (Array.getElem?_eq_some_iff.1 y2).1
  have l3 : w.heap.size + 3 < X1.heap.size := (Array.getElem?_eq_some_iff.1 y3).1
  clear y1 y2 y3 y4 y5 y6 y7
  go_wp2_with (go_at_call 35; refine (of_any _ D l2 _ HC1.out).mono ?_; rw [HM'.out]; rintro e9 w2 ⟨d, rfl, hb2, hd⟩; obtain ⟨gF', cF', gT', cT', rfl, hdr, hF, hT⟩ := hd.drB HM'.out hb2 HC1.out; refine Hid.out ?_)
  refine Lib.hid ?_
  unfold drV
  obtain ⟨y1, y2, y3, y4, y5, y6, y7⟩ := HX1.out
  have hs2 := hb2.size
  have hg2 : X1.grownBy w2 none := grown_below hb2 none
  have h2b := (hb2.block (w.heap.size + 2) (by omega)).trans y1
  have h3b := (hb2.block (w.heap.size + 3) (by omega)).trans y3
  have r0 : w2.cell? ⟨w.heap.size + 3, 0, none⟩ = some (.slice none 0 0) := block_cell h3b rfl
  have r1 : w2.cell? ⟨w.heap.size + 3, 1, none⟩ = some (.int .i64 0) := block_cell h3b rfl
  have r2 : w2.cell? ⟨w.heap.size + 3, 2, none⟩ = some (.slice none 0 0) := block_cell h3b rfl
  have r3 : w2.cell? ⟨w.heap.size + 3, 3, none⟩ = some (.slice none 0 0) := block_cell h3b rfl
  have f0 : w2.frozen? ⟨w.heap.size + 3, 0, none⟩ = false := block_frozen h3b
  have f1 : w2.frozen? ⟨w.heap.size + 3, 1, none⟩ = false := block_frozen h3b
  have f2 : w2.frozen? ⟨w.heap.size + 3, 2, none⟩ = false := block_frozen h3b
  have f3 : w2.frozen? ⟨w.heap.size + 3, 3, none⟩ = false := block_frozen h3b
  have l4 : w.heap.size + 3 < w2.heap.size := by omega
  have HF2 : Hid (w2.ownsRow (w.heap.size + 4) 111 2 (.slice (some ⟨gF, 0, none⟩) (2 * C.length + 1) cF) (2 * C.length + 1) (flat (ends C false C.length 0)) ∧ w2.ownsRow (w.heap.size + 4) 111 2 (.slice (some ⟨gT, 0, none⟩) (2 * C.length + 1) cT) (2 * C.length + 1) (flat (ends C true C.length 0)) ∧ w2.ownsRow (w.heap.size + 4) 111 2 (.slice (some ⟨gF', 0, none⟩) (2 * D.length + 1) cF') (2 * D.length + 1) (flat (ends D false D.length 0)) ∧ w2.ownsRow (w.heap.size + 4) 111 2 (.slice (some ⟨gT', 0, none⟩) (2 * D.length + 1) cT') (2 * D.length + 1) (flat (ends D true D.length 0))) := ⟨own_any y4 hg2, own_any y5 hg2, own_low hF (by omega), own_low hT (by omega)⟩
  have HG2 : Hid (w2.grownBy (st4 w2 (w.heap.size + 3) (.slice a' D.length cap') (.int .i64 l2) (.slice (some ⟨gF', 0, none⟩) (2 * D.length + 1) cF') (.slice (some ⟨gT', 0, none⟩) (2 * D.length + 1) cT')) (some (w.heap.size + 3))) := st4_grown _ _ _ _ _ _
  have HX2 : Hid (((st4 w2 (w.heap.size + 3) (.slice a' D.length cap') (.int .i64 l2) (.slice (some ⟨gF', 0, none⟩) (2 * D.length + 1) cF') (.slice (some ⟨gT', 0, none⟩) (2 * D.length + 1) cT')).heap[w.heap.size + 2]? = some (.cells #[.slice a C.length cap, .int .i64 l1, .slice (some ⟨gF, 0, none⟩) (2 * C.length + 1) cF, .slice (some ⟨gT, 0, none⟩) (2 * C.length + 1) cT] 71 (0, 0)) ∧ (st4 w2 (w.heap.size + 3) (.slice a' D.length cap') (.int .i64 l2) (.slice (some ⟨gF', 0, none⟩) (2 * D.length + 1) cF') (.slice (some ⟨gT', 0, none⟩) (2 * D.length + 1) cT')).heap[w.heap.size + 3]? = some (.cells #[.slice a' D.length cap', .int .i64 l2, .slice (some ⟨gF', 0, none⟩) (2 * D.length + 1) cF', .slice (some ⟨gT', 0, none⟩) (2 * D.length + 1) cT'] 71 (0, 0))) ∧ ((st4 w2 (w.heap.size + 3) (.slice a' D.length cap') (.int .i64 l2) (.slice (some ⟨gF', 0, none⟩) (2 * D.length + 1) cF') (.slice (some ⟨gT', 0, none⟩) (2 * D.length + 1) cT')).ownsRow (w.heap.size + 4) 111 2 (.slice (some ⟨gF, 0, none⟩) (2 * C.length + 1) cF) (2 * C.length + 1) (flat (ends C false C.length 0)) ∧ (st4 w2 (w.heap.size + 3) (.slice a' D.length cap') (.int .i64 l2) (.slice (some ⟨gF', 0, none⟩) (2 * D.length + 1) cF') (.slice (some ⟨gT', 0, none⟩) (2 * D.length + 1) cT')).ownsRow (w.heap.size + 4) 111 2 (.slice (some ⟨gT, 0, none⟩) (2 * C.length + 1) cT) (2 * C.length + 1) (flat (ends C true C.length 0)) ∧ (st4 w2 (w.heap.size + 3) (.slice a' D.length cap') (.int .i64 l2) (.slice (some ⟨gF', 0, none⟩) (2 * D.length + 1) cF') (.slice (some ⟨gT', 0, none⟩) (2 * D.length + 1) cT')).ownsRow (w.heap.size + 4) 111 2 (.slice (some ⟨gF', 0, none⟩) (2 * D.length + 1) cF') (2 * D.length + 1) (flat (ends D false D.length 0)) ∧ (st4 w2 (w.heap.size + 3) (.slice a' D.length cap') (.int .i64 l2) (.slice (some ⟨gF', 0, none⟩) (2 * D.length + 1) cF') (.slice (some ⟨gT', 0, none⟩) (2 * D.length + 1) cT')).ownsRow (w.heap.size + 4) 111 2 (.slice (some ⟨gT', 0, none⟩) (2 * D.length + 1) cT') (2 * D.length + 1) (flat (ends D true D.length 0))) ∧ Below w.heap.size w (st4 w2 (w.heap.size + 3) (.slice a' D.length cap') (.int .i64 l2) (.slice (some ⟨gF', 0, none⟩) (2 * D.length + 1) cF') (.slice (some ⟨gT', 0, none⟩) (2 * D.length + 1) cT'))) := ⟨⟨(HG2.out.block _ (by omega) (fun e => by have := Option.some.inj e; omega)).trans h2b, st4_block h3b⟩, ⟨HF2.out.1.kept HG2.out (Or.inr (fun e => by have := (HF2.out.1.lt _ e).1; omega)), HF2.out.2.1.kept HG2.out (Or.inr (fun e => by have := (HF2.out.2.1.lt _ e).1; omega)), HF2.out.2.2.1.kept HG2.out (Or.inr (fun e => by have := (HF2.out.2.2.1.lt _ e).1; omega)), HF2.out.2.2.2.kept HG2.out (Or.inr (fun e => by have := (HF2.out.2.2.2.lt _ e).1; omega))⟩, (y6.trans (hb2.mono y6.size)).grown HG2.out (by omega) (fun q hq => by have := Option.some.inj hq; omega)⟩
  clear hb2 hd hdr hF hT h2b h3b HF2 HG2 hg2 y1 y2 y3 y4 y5 y6 y7 u0 u1
  go_upto_region 4 with (fail)
  have hst : (((w2.setCell ⟨w.heap.size + 3, 0, none⟩ (.slice a' D.length cap')).setCell ⟨w.heap.size + 3, 1, none⟩ (.int .i64 l2)).setCell ⟨w.heap.size + 3, 2, none⟩ (.slice (some ⟨gF', 0, none⟩) (2 * D.length + 1) cF')).setCell ⟨w.heap.size + 3, 3, none⟩ (.slice (some ⟨gT', 0, none⟩) (2 * D.length + 1) cT') = st4 w2 (w.heap.size + 3) (.slice a' D.length cap') (.int .i64 l2) (.slice (some ⟨gF', 0, none⟩) (2 * D.length + 1) cF') (.slice (some ⟨gT', 0, none⟩) (2 * D.length + 1) cT') := rfl
  rw [hst]
  clear hst r0 r1 r2 r3 f0 f1 f2 f3
  generalize st4 w2 (w.heap.size + 3) (.slice a' D.length cap') (.int .i64 l2) (.slice (some ⟨gF', 0, none⟩) (2 * D.length + 1) cF') (.slice (some ⟨gT', 0, none⟩) (2 * D.length + 1) cT') = X2 at HX2 ⊢
  obtain ⟨⟨y1, y2⟩, y3, y4⟩ := HX2.out
  have p0 : X2.cell? ⟨w.heap.size + 2, 0, none⟩ = some (.slice a C.length cap) := block_cell y1 rfl
  have p1 : X2.cell? ⟨w.heap.size + 2, 1, none⟩ = some (.int .i64 l1) := block_cell y1 rfl
  have p2 : X2.cell? ⟨w.heap.size + 2, 2, none⟩ = some (.slice (some ⟨gF, 0, none⟩) (2 * C.length + 1) cF) := block_cell y1 rfl
  have p3 : X2.cell? ⟨w.heap.size + 2, 3, none⟩ = some (.slice (some ⟨gT, 0, none⟩) (2 * C.length + 1) cT) := block_cell y1 rfl
  have q0 : X2.cell? ⟨w.heap.size + 3, 0, none⟩ = some (.slice a' D.length cap') := block_cell y2 rfl
  have q1 : X2.cell? ⟨w.heap.size + 3, 1, none⟩ = some (.int .i64 l2) := block_cell y2 rfl
  have q2 : X2.cell? ⟨w.heap.size + 3, 2, none⟩ = some (.slice (some ⟨gF', 0, none⟩) (2 * D.length + 1) cF') := block_cell y2 rfl
  have q3 : X2.cell? ⟨w.heap.size + 3, 3, none⟩ = some (.slice (some ⟨gT', 0, none⟩) (2 * D.length + 1) cT') := block_cell y2 rfl
  have f0 : X2.frozen? ⟨w.heap.size + 2, 0, none⟩ = false := block_frozen y1
  have f1 : X2.frozen? ⟨w.heap.size + 2, 1, none⟩ = false := block_frozen y1
  have f2 : X2.frozen? ⟨w.heap.size + 2, 2, none⟩ = false := block_frozen y1
  have f3 : X2.frozen? ⟨w.heap.size + 2, 3, none⟩ = false := block_frozen y1
  have k0 : X2.frozen? ⟨w.heap.size + 3, 0, none⟩ = false := block_frozen y2
  have k1 : X2.frozen? ⟨w.heap.size + 3, 1, none⟩ = false := block_frozen y2
  have k2 : X2.frozen? ⟨w.heap.size + 3, 2, none⟩ = false := block_frozen y2
  have k3 : X2.frozen? ⟨w.heap.size + 3, 3, none⟩ = false := block_frozen y2
  have l5 : w.heap.size + 2 < X2.heap.size := (Array.getElem?_eq_some_iff.1 y1).1
  have l6 : w.heap.size + 3 < X2.heap.size := (Array.getElem?_eq_some_iff.1 y2).1
  clear y1 y2 y3 y4
  go_region
  have hst : ((((((((X2).setCell ⟨w.heap.size + 2, 0, none⟩ (.slice a C.length cap)).setCell ⟨w.heap.size + 2, 1, none⟩ (.int .i64 l1)).setCell ⟨w.heap.size + 2, 2, none⟩ (.slice (some ⟨gF, 0, none⟩) (2 * C.length + 1) cF)).setCell ⟨w.heap.size + 2, 3, none⟩ (.slice (some ⟨gT, 0, none⟩) (2 * C.length + 1) cT)).setCell ⟨w.heap.size + 3, 0, none⟩ (.slice a' D.length cap')).setCell ⟨w.heap.size + 3, 1, none⟩ (.int .i64 l2)).setCell ⟨w.heap.size + 3, 2, none⟩ (.slice (some ⟨gF', 0, none⟩) (2 * D.length + 1) cF')).setCell ⟨w.heap.size + 3, 3, none⟩ (.slice (some ⟨gT', 0, none⟩) (2 * D.length + 1) cT') = st4 (st4 X2 (w.heap.size + 2) (.slice a C.length cap) (.int .i64 l1) (.slice (some ⟨gF, 0, none⟩) (2 * C.length + 1) cF) (.slice (some ⟨gT, 0, none⟩) (2 * C.length + 1) cT)) (w.heap.size + 3) (.slice a' D.length cap') (.int .i64 l2) (.slice (some ⟨gF', 0, none⟩) (2 * D.length + 1) cF') (.slice (some ⟨gT', 0, none⟩) (2 * D.length + 1) cT') := rfl
  rw [hst]
  obtain ⟨⟨y1, y2⟩, y3, y4⟩ := HX2.out
  have g1 : X2.grownBy (st4 X2 (w.heap.size + 2) (.slice a C.length cap) (.int .i64 l1) (.slice (some ⟨gF, 0, none⟩) (2 * C.length + 1) cF) (.slice (some ⟨gT, 0, none⟩) (2 * C.length + 1) cT)) (some (w.heap.size + 2)) := st4_grown _ _ _ _ _ _
  have g2 : (st4 X2 (w.heap.size + 2) (.slice a C.length cap) (.int .i64 l1) (.slice (some ⟨gF, 0, none⟩) (2 * C.length + 1) cF) (.slice (some ⟨gT, 0, none⟩) (2 * C.length + 1) cT)).grownBy (st4 (st4 X2 (w.heap.size + 2) (.slice a C.length cap) (.int .i64 l1) (.slice (some ⟨gF, 0, none⟩) (2 * C.length + 1) cF) (.slice (some ⟨gT, 0, none⟩) (2 * C.length + 1) cT)) (w.heap.size + 3) (.slice a' D.length cap') (.int .i64 l2) (.slice (some ⟨gF', 0, none⟩) (2 * D.length + 1) cF') (.slice (some ⟨gT', 0, none⟩) (2 * D.length + 1) cT')) (some (w.heap.size + 3)) := st4_grown _ _ _ _ _ _
  have z1 : (st4 (st4 X2 (w.heap.size + 2) (.slice a C.length cap) (.int .i64 l1) (.slice (some ⟨gF, 0, none⟩) (2 * C.length + 1) cF) (.slice (some ⟨gT, 0, none⟩) (2 * C.length + 1) cT)) (w.heap.size + 3) (.slice a' D.length cap') (.int .i64 l2) (.slice (some ⟨gF', 0, none⟩) (2 * D.length + 1) cF') (.slice (some ⟨gT', 0, none⟩) (2 * D.length + 1) cT')).heap[w.heap.size + 2]? = some (.cells #[.slice a C.length cap, .int .i64 l1, .slice (some ⟨gF, 0, none⟩) (2 * C.length + 1) cF, .slice (some ⟨gT, 0, none⟩) (2 * C.length + 1) cT] 71 (0, 0)) := (g2.block _ (by have := g1.size; omega) (fun e => by have := Option.some.inj e; omega)).trans (st4_block y1)
  have z2 : (st4 (st4 X2 (w.heap.size + 2) (.slice a C.length cap) (.int .i64 l1) (.slice (some ⟨gF, 0, none⟩) (2 * C.length + 1) cF) (.slice (some ⟨gT, 0, none⟩) (2 * C.length + 1) cT)) (w.heap.size + 3) (.slice a' D.length cap') (.int .i64 l2) (.slice (some ⟨gF', 0, none⟩) (2 * D.length + 1) cF') (.slice (some ⟨gT', 0, none⟩) (2 * D.length + 1) cT')).heap[w.heap.size + 3]? = some (.cells #[.slice a' D.length cap', .int .i64 l2, .slice (some ⟨gF', 0, none⟩) (2 * D.length + 1) cF', .slice (some ⟨gT', 0, none⟩) (2 * D.length + 1) cT'] 71 (0, 0)) := st4_block ((g1.block _ l6 (fun e => by have := Option.some.inj e; omega)).trans y2)
  have hk : ∀ {u : Value} {n : Nat} {xs : List Value}, X2.ownsRow (w.heap.size + 4) 111 2 u n xs → (st4 (st4 X2 (w.heap.size + 2) (.slice a C.length cap) (.int .i64 l1) (.slice (some ⟨gF, 0, none⟩) (2 * C.length + 1) cF) (.slice (some ⟨gT, 0, none⟩) (2 * C.length + 1) cT)) (w.heap.size + 3) (.slice a' D.length cap') (.int .i64 l2) (.slice (some ⟨gF', 0, none⟩) (2 * D.length + 1) cF') (.slice (some ⟨gT', 0, none⟩) (2 * D.length + 1) cT')).ownsRow (w.heap.size + 4) 111 2 u n xs := fun ho => (ho.kept g1 (Or.inr (fun e => by have := (ho.lt _ e).1; omega))).kept g2 (Or.inr (fun e => by have := (ho.lt _ e).1; omega))
  have hbl : Below w.heap.size w (st4 (st4 X2 (w.heap.size + 2) (.slice a C.length cap) (.int .i64 l1) (.slice (some ⟨gF, 0, none⟩) (2 * C.length + 1) cF) (.slice (some ⟨gT, 0, none⟩) (2 * C.length + 1) cT)) (w.heap.size + 3) (.slice a' D.length cap') (.int .i64 l2) (.slice (some ⟨gF', 0, none⟩) (2 * D.length + 1) cF') (.slice (some ⟨gT', 0, none⟩) (2 * D.length + 1) cT')) := (y4.grown g1 y4.size (fun q hq => by have := Option.some.inj hq; omega)).grown g2 (Nat.le_trans y4.size g1.size) (fun q hq => by have := Option.some.inj hq; omega)
  have HFN : Hid (((st4 (st4 X2 (w.heap.size + 2) (.slice a C.length cap) (.int .i64 l1) (.slice (some ⟨gF, 0, none⟩) (2 * C.length + 1) cF) (.slice (some ⟨gT, 0, none⟩) (2 * C.length + 1) cT)) (w.heap.size + 3) (.slice a' D.length cap') (.int .i64 l2) (.slice (some ⟨gF', 0, none⟩) (2 * D.length + 1) cF') (.slice (some ⟨gT', 0, none⟩) (2 * D.length + 1) cT')).ownsRow (w.heap.size + 4) 111 2 (.slice (some ⟨gF, 0, none⟩) (2 * C.length + 1) cF) (2 * C.length + 1) (flat (ends C false C.length 0)) ∧ (st4 (st4 X2 (w.heap.size + 2) (.slice a C.length cap) (.int .i64 l1) (.slice (some ⟨gF, 0, none⟩) (2 * C.length + 1) cF) (.slice (some ⟨gT, 0, none⟩) (2 * C.length + 1) cT)) (w.heap.size + 3) (.slice a' D.length cap') (.int .i64 l2) (.slice (some ⟨gF', 0, none⟩) (2 * D.length + 1) cF') (.slice (some ⟨gT', 0, none⟩) (2 * D.length + 1) cT')).ownsRow (w.heap.size + 4) 111 2 (.slice (some ⟨gT, 0, none⟩) (2 * C.length + 1) cT) (2 * C.length + 1) (flat (ends C true C.length 0)) ∧ (st4 (st4 X2 (w.heap.size + 2) (.slice a C.length cap) (.int .i64 l1) (.slice (some ⟨gF, 0, none⟩) (2 * C.length + 1) cF) (.slice (some ⟨gT, 0, none⟩) (2 * C.length + 1) cT)) (w.heap.size + 3) (.slice a' D.length cap') (.int .i64 l2) (.slice (some ⟨gF', 0, none⟩) (2 * D.length + 1) cF') (.slice (some ⟨gT', 0, none⟩) (2 * D.length + 1) cT')).ownsRow (w.heap.size + 4) 111 2 (.slice (some ⟨gF', 0, none⟩) (2 * D.length + 1) cF') (2 * D.length + 1) (flat (ends D false D.length 0)) ∧ (st4 (st4 X2 (w.heap.size + 2) (.slice a C.length cap) (.int .i64 l1) (.slice (some ⟨gF, 0, none⟩) (2 * C.length + 1) cF) (.slice (some ⟨gT, 0, none⟩) (2 * C.length + 1) cT)) (w.heap.size + 3) (.slice a' D.length cap') (.int .i64 l2) (.slice (some ⟨gF', 0, none⟩) (2 * D.length + 1) cF') (.slice (some ⟨gT', 0, none⟩) (2 * D.length + 1) cT')).ownsRow (w.heap.size + 4) 111 2 (.slice (some ⟨gT', 0, none⟩) (2 * D.length + 1) cT') (2 * D.length + 1) (flat (ends D true D.length 0))) ∧ Below w.heap.size w (st4 (st4 X2 (w.heap.size + 2) (.slice a C.length cap) (.int .i64 l1) (.slice (some ⟨gF, 0, none⟩) (2 * C.length + 1) cF) (.slice (some ⟨gT, 0, none⟩) (2 * C.length + 1) cT)) (w.heap.size + 3) (.slice a' D.length cap') (.int .i64 l2) (.slice (some ⟨gF', 0, none⟩) (2 * D.length + 1) cF') (.slice (some ⟨gT', 0, none⟩) (2 * D.length + 1) cT'))) := ⟨⟨hk y3.1, hk y3.2.1, hk y3.2.2.1, hk y3.2.2.2⟩, hbl⟩
  clear hst g1 g2 hk hbl y1 y2 y3 y4 p0 p1 p2 p3 q0 q1 q2 q3 f0 f1 f2 f3 k0 k1 k2 k3
  generalize st4 (st4 X2 (w.heap.size + 2) (.slice a C.length cap) (.int .i64 l1) (.slice (some ⟨gF, 0, none⟩) (2 * C.length + 1) cF) (.slice (some ⟨gT, 0, none⟩) (2 * C.length + 1) cT)) (w.heap.size + 3) (.slice a' D.length cap') (.int .i64 l2) (.slice (some ⟨gF', 0, none⟩) (2 * D.length + 1) cF') (.slice (some ⟨gT', 0, none⟩) (2 * D.length + 1) cT') = Y at z1 z2 HFN ⊢
  have x0 : Y.drew.cell? ⟨w.heap.size + 2, 0, none⟩ = some (.slice a C.length cap) := block_cell (drew_blk z1) rfl
  have x1 : Y.drew.cell? ⟨w.heap.size + 2, 1, none⟩ = some (.int .i64 l1) := block_cell (drew_blk z1) rfl
  have x2 : Y.drew.cell? ⟨w.heap.size + 2, 2, none⟩ = some (.slice (some ⟨gF, 0, none⟩) (2 * C.length + 1) cF) := block_cell (drew_blk z1) rfl
  have x3 : Y.drew.cell? ⟨w.heap.size + 2, 3, none⟩ = some (.slice (some ⟨gT, 0, none⟩) (2 * C.length + 1) cT) := block_cell (drew_blk z1) rfl
  have x4 : Y.drew.cell? ⟨w.heap.size + 3, 0, none⟩ = some (.slice a' D.length cap') := block_cell (drew_blk z2) rfl
  have x5 : Y.drew.cell? ⟨w.heap.size + 3, 1, none⟩ = some (.int .i64 l2) := block_cell (drew_blk z2) rfl
  have x6 : Y.drew.cell? ⟨w.heap.size + 3, 2, none⟩ = some (.slice (some ⟨gF', 0, none⟩) (2 * D.length + 1) cF') := block_cell (drew_blk z2) rfl
  have x7 : Y.drew.cell? ⟨w.heap.size + 3, 3, none⟩ = some (.slice (some ⟨gT', 0, none⟩) (2 * D.length + 1) cT') := block_cell (drew_blk z2) rfl
  go_wp2
  have hbY := HFN.out.2.drew
  have hgY : Y.grownBy Y.drew none := grown_below ((Below.refl _ _).drew) none
  have o1 := own_any HFN.out.1.1 hgY
  have o2 := own_any HFN.out.1.2.1 hgY
  have o3 := own_any HFN.out.1.2.2.1 hgY
  have o4 := own_any HFN.out.1.2.2.2 hgY
  exact bodyPost_ret (v := .tuple #[.agg #[.slice a C.length cap, .int .i64 l1, .slice (some ⟨gF, 0, none⟩) (2 * C.length + 1) cF, .slice (some ⟨gT, 0, none⟩) (2 * C.length + 1) cT], .agg #[.slice a' D.length cap', .int .i64 l2, .slice (some ⟨gF', 0, none⟩) (2 * D.length + 1) cF', .slice (some ⟨gT', 0, none⟩) (2 * D.length + 1) cT'], .bool true]) (by simp [results, Try.results41, go_sem, x0, x1, x2, x3, x4, x5, x6, x7]) rfl ⟨a, cap, gF, cF, gT, cT, a', cap', gF', cF', gT', cT', rfl, ⟨HC.out.up hbY, (o1.lt gF rfl).2, (o2.lt gT rfl).2, own_terms o1 (ends_length _ _ _ _), own_terms o2 (ends_length _ _ _ _)⟩, ⟨HD.out.up hbY, (o3.lt gF' rfl).2, (o4.lt gT' rfl).2, own_terms o3 (ends_length _ _ _ _), own_terms o4 (ends_length _ _ _ _)⟩, hbY⟩
end Go.Proofs.Ytkbapnjlnnggaaa
