/- Several texts of the proof, one behind the other. -/
import Derived.Test.YtagaajlbkfkaiaaC9P
import Derived.Test.YtagaajlbkfkaiaaW2P
/- The walks of slices.Equal at crossings, and of canon.both where both diagrams may be. -/
namespace Go.Proofs.Ytagaajlbkfkaiaa
open Go.RowKit

theorem Drawn.drB {w w' : World} {a : Option Addr} {cap : Nat} {loops : Int} {C : List Cr} {D : Value} (h : Drawn w w' w.heap.size (.slice a C.length cap) loops C D) (hm : mayD C loops = true) (hb : Below w.heap.size w w') (hC : Crs w w.heap.size (.slice a C.length cap) C) :
    ∃ gF cF gT cT, D = drV a cap C loops gF cF gT cT ∧ Dr w' a cap C gF gT ∧ w'.ownsRow w.heap.size 120 2 (.slice (some ⟨gF, 0, none⟩) (2 * C.length + 1) cF) (2 * C.length + 1) (flat (ends C false C.length 0)) ∧
    w'.ownsRow w.heap.size 120 2 (.slice (some ⟨gT, 0, none⟩) (2 * C.length + 1) cT) (2 * C.length + 1) (flat (ends C true C.length 0)) := by
  obtain ⟨gF, cF, gT, cT, rfl, h1, h2⟩ := h.yes hm
  exact ⟨gF, cF, gT, cT, rfl, ⟨hC.up hb, (h1.lt gF rfl).2, (h2.lt gT rfl).2, own_terms h1 (ends_length _ _ _ _), own_terms h2 (ends_length _ _ _ _)⟩, h1, h2⟩

set_option maxHeartbeats 4000000 in
set_option maxRecDepth 100000 in
theorem equalCross_any (v1 v2 : Value) (C D : List Cr) (w : World) (h1 : Crs w w.heap.size v1 C) (h2 : Crs w w.heap.size v2 D) :
    Calls Try.prog 80 #[v1, v2] w fun e w' => e = .returned (.bool (sameD 0 0 C D)) ∧ Below w.heap.size w w' := by
  have HC1 : Hid (Crs w w.heap.size v1 C) := h1
  have HC2 : Hid (Crs w w.heap.size v2 D) := h2
  obtain ⟨a1, c1, rfl, hn1, -⟩ := h1
  obtain ⟨a2, c2, rfl, hn2, -⟩ := h2
  have hn1' : C.length ≤ 9223372036854775807 := hn1
  have hn2' : D.length ≤ 9223372036854775807 := hn2
  clear hn1 hn2
  by_cases hlen : C.length = D.length
  · have HLEN : Hid (C.length = D.length) := hlen
    have e2 : D.length = C.length := hlen.symm
    rw [e2]
    clear hlen e2 hn2'
    have hd2 : ((C.length : Int) != (C.length : Int)) = false := by simp
    go_enter Try.func80, Try.ntmps80
    go_wp2
    go_loopw [13] (fun v13 wr => ∃ i : Nat, i ≤ C.length ∧ v13 = .int .i64 (i : Nat) ∧ Hid (∀ j, j < i → crEq (C.getD j Cr.none) (D.getD j Cr.none) = true) ∧ Below w.heap.size w wr) (fun v13 _ => C.length - (intOf v13).toNat)
    case atStart => exact ⟨0, Nat.zero_le _, rfl, fun j hj => absurd hj (Nat.not_lt_zero _), Below.refl _ _⟩
    case round =>
      rename World => W1
      obtain ⟨i, hin, rfl, hall, hb⟩ := hrel
      have hszW := hb.size
      by_cases hil : i < C.length
      · have hdi : decide ((i : Int) < (C.length : Int)) = true := by simp; omega
        have hdi2 : decide (i < C.length) = true := by simp; omega
        obtain ⟨b1, o1, ea1, hb1, hC1⟩ := crs_some HC1.out (by omega)
        subst ea1
        obtain ⟨x0, x1, x2, x3, x4⟩ := (hC1.on hb hb1) i hil
        have hl := HLEN.out
        obtain ⟨b2, o2, ea2, hb2, hC2⟩ : ∃ b off, a2 = some ⟨b, off, none⟩ ∧ b < w.heap.size ∧ CrossAt w b off D := by
          obtain ⟨a', cap', e, _, g⟩ := HC2.out
          injection e with e1 e2 e3
          obtain ⟨b, off, h1, h2, h3⟩ := g (by omega)
          exact ⟨b, off, by rw [e1, h1], h2, h3⟩
        subst ea2
        obtain ⟨y0, y1, y2, y3, y4⟩ := (hC2.on hb hb2) i (by omega)
        clear hC1 hC2 hl
        obtain ⟨x, hx⟩ : ∃ x, C.getD i Cr.none = x := ⟨_, rfl⟩
        obtain ⟨y, hy⟩ : ∃ y, D.getD i Cr.none = y := ⟨_, rfl⟩
        rw [hx] at x0 x1 x2 x3 x4
        rw [hy] at y0 y1 y2 y3 y4
        have HXY : Hid (crEq (C.getD i Cr.none) (D.getD i Cr.none) = crEq x y) := (by rw [hx, hy] : crEq (C.getD i Cr.none) (D.getD i Cr.none) = crEq x y)
        clear hx hy
        have hb1w : b1 < W1.heap.size := by omega
        have hb2w : b2 < W1.heap.size := by omega
        have n0 : (0 : Int) ≤ (i : Int) := by omega
        have n1 : (i : Int) < (C.length : Int) := by omega
        have hcmp := neqCross x y
        cases hq : crEq x y with
        | true =>
          rw [hq] at hcmp
          simp only [Bool.not_true] at hcmp
          go_wp2
          go_quiet (fail)
          go_wp2
          go_roundw
          case rel =>
            refine ⟨i + 1, by omega, by go_num, fun j hj => ?_, below_drewN hb _⟩
            by_cases e : j = i
            · rw [e, HXY.out]; exact hq
            · exact hall.out j (by omega)
          case measure => simp only [intOf]; omega
        | false =>
          rw [hq] at hcmp
          simp only [Bool.not_false] at hcmp
          have HNO : Hid (sameD 0 0 C D = false) := sameD_no (fun h => by
            have := h.2.2 i hil
            rw [HXY.out, hq] at this
            exact absurd this (by simp))
          go_wp2
          go_quiet (fail)
          go_wp2
          go_ret
          exact ⟨ret_bool HNO.out, below_drewN hb _⟩
      · obtain rfl : i = C.length := by omega
        have HYES : Hid (sameD 0 0 C D = true) := (sameD_iff 0 0 C D).2 ⟨rfl, HLEN.out, fun j hj => hall.out j hj⟩
        have hdi : decide ((C.length : Int) < (C.length : Int)) = false := by simp
        go_wp2
        go_ret
        exact ⟨ret_bool HYES.out, hb⟩
  · have hd2 : ((C.length : Int) != (D.length : Int)) = true := by rw [bne_iff_ne]; omega
    have HNO : Hid (sameD 0 0 C D = false) := sameD_no (fun h => hlen h.2.1)
    go_enter Try.func80, Try.ntmps80
    go_wp2
    go_ret
    exact ⟨ret_bool HNO.out, Below.refl _ _⟩

theorem drew_blk {w : World} {k : Nat} {o : Option Obj} (h : w.heap[k]? = o) : w.drew.heap[k]? = o := h
set_option maxHeartbeats 4000000 in
set_option maxRecDepth 100000 in
theorem both_draw (v1 v2 : Value) (C D : List Cr) (l1 l2 : Int) (w : World) (hm : mayD C l1 = true) (hm' : mayD D l2 = true) (h1 : Crs w w.heap.size v1 C) (h2 : Crs w w.heap.size v2 D) :
    Calls Try.prog 79 #[.agg #[v1, .int .i64 l1], .agg #[v2, .int .i64 l2]] w fun e w' => ∃ a cap gF cF gT cT a' cap' gF' cF' gT' cT', e = .returned (.tuple #[drV a cap C l1 gF cF gT cT, drV a' cap' D l2 gF' cF' gT' cT', .bool true]) ∧ Dr w' a cap C gF gT ∧ Dr w' a' cap' D gF' gT' ∧ Below w.heap.size w w' := by
  have HC : Hid (Crs w w.heap.size v1 C) := h1
  have HD : Hid (Crs w w.heap.size v2 D) := h2
  have HM : Hid (mayD C l1 = true) := hm
  have HM' : Hid (mayD D l2 = true) := hm'
  obtain ⟨a, cap, rfl, -, -⟩ := h1
  obtain ⟨a', cap', rfl, -, -⟩ := h2
  obtain ⟨w0, hw0⟩ : ∃ w0, w0 = (((w.alloc (.cells #[.slice a C.length cap, .int .i64 l1] 24)).alloc (.cells #[.slice a' D.length cap', .int .i64 l2] 24)).alloc (.cells #[.slice none 0 0, .int .i64 0, .slice none 0 0, .slice none 0 0] 61)).alloc (.cells #[.slice none 0 0, .int .i64 0, .slice none 0 0, .slice none 0 0] 61) := ⟨_, rfl⟩
  have HW0 : Hid (w0 = (((w.alloc (.cells #[.slice a C.length cap, .int .i64 l1] 24)).alloc (.cells #[.slice a' D.length cap', .int .i64 l2] 24)).alloc (.cells #[.slice none 0 0, .int .i64 0, .slice none 0 0, .slice none 0 0] 61)).alloc (.cells #[.slice none 0 0, .int .i64 0, .slice none 0 0, .slice none 0 0] 61)) := hw0
  have hs0 : w0.heap.size = w.heap.size + 4 := by rw [hw0]; simp
  have HB0 : Hid (Below w.heap.size w w0) := (by rw [hw0]; exact (below3 _ _ _ _).alloc (by simp; omega) _ : Below w.heap.size w w0)
  have HT0 : Hid (w0.heap[w.heap.size]? = some (.cells #[.slice a C.length cap, .int .i64 l1] 24 (0, 0))) := (by rw [hw0]; exact alloc_old (alloc_old (alloc_old (alloc_at rfl))) : w0.heap[w.heap.size]? = some (.cells #[.slice a C.length cap, .int .i64 l1] 24 (0, 0)))
  have HT1 : Hid (w0.heap[w.heap.size + 1]? = some (.cells #[.slice a' D.length cap', .int .i64 l2] 24 (0, 0))) := (by rw [hw0]; exact alloc_old (alloc_old (alloc_at (by simp))) : w0.heap[w.heap.size + 1]? = some (.cells #[.slice a' D.length cap', .int .i64 l2] 24 (0, 0)))
  have HT2 : Hid (w0.heap[w.heap.size + 2]? = some (.cells #[.slice none 0 0, .int .i64 0, .slice none 0 0, .slice none 0 0] 61 (0, 0))) := (by rw [hw0]; exact alloc_old (alloc_at (by simp)) : w0.heap[w.heap.size + 2]? = some (.cells #[.slice none 0 0, .int .i64 0, .slice none 0 0, .slice none 0 0] 61 (0, 0)))
  have HT3 : Hid (w0.heap[w.heap.size + 3]? = some (.cells #[.slice none 0 0, .int .i64 0, .slice none 0 0, .slice none 0 0] 61 (0, 0))) := (by rw [hw0]; exact alloc_at (by simp) : w0.heap[w.heap.size + 3]? = some (.cells #[.slice none 0 0, .int .i64 0, .slice none 0 0, .slice none 0 0] 61 (0, 0)))
  have HS0 : Hid (w0.heap.size = w.heap.size + 4) := hs0
  clear hw0 hs0
  go_enter Try.func79, Try.ntmps79
  go_upto_region 1 with (fail)
  rw [show w.heap.size + 1 + 1 + 1 = w.heap.size + 3 from rfl, show w.heap.size + 1 + 1 = w.heap.size + 2 from rfl, ← HW0.out]
  have HC0 : Hid (Crs w0 w0.heap.size (.slice a C.length cap) C) := HC.out.up HB0.out
  have t0 : w0.cell? ⟨w.heap.size, 0, none⟩ = some (.slice a C.length cap) := block_cell HT0.out rfl
  have t1 : w0.cell? ⟨w.heap.size, 1, none⟩ = some (.int .i64 l1) := block_cell HT0.out rfl
  have l0 : w.heap.size < w0.heap.size := (Array.getElem?_eq_some_iff.1 HT0.out).1
  clear hm hm'
  go_wp2_with (go_at_call 50; refine (of_any _ C l1 _ HC0.out).mono ?_; rw [HM.out]; rintro e9 w1 ⟨d, rfl, hb1, hd⟩; obtain ⟨gF, cF, gT, cT, rfl, hdr, hF, hT⟩ := hd.drB HM.out hb1 HC0.out; refine Hid.out ?_)
  refine Lib.hid ?_
  unfold drV
  have hs0 := HS0.out
  have hs1 := hb1.size
  have HF1 : Hid (w1.ownsRow (w.heap.size + 4) 120 2 (.slice (some ⟨gF, 0, none⟩) (2 * C.length + 1) cF) (2 * C.length + 1) (flat (ends C false C.length 0)) ∧ w1.ownsRow (w.heap.size + 4) 120 2 (.slice (some ⟨gT, 0, none⟩) (2 * C.length + 1) cT) (2 * C.length + 1) (flat (ends C true C.length 0))) := ⟨own_low hF (by omega), own_low hT (by omega)⟩
  have HB1 : Hid (Below w.heap.size w w1) := HB0.out.trans (hb1.mono (by omega))
  have h1b := (hb1.block (w.heap.size + 1) (by omega)).trans HT1.out
  have h2b := (hb1.block (w.heap.size + 2) (by omega)).trans HT2.out
  have h3b := (hb1.block (w.heap.size + 3) (by omega)).trans HT3.out
  have r0 : w1.cell? ⟨w.heap.size + 2, 0, none⟩ = some (.slice none 0 0) := block_cell h2b rfl
  have r1 : w1.cell? ⟨w.heap.size + 2, 1, none⟩ = some (.int .i64 0) := block_cell h2b rfl
  have r2 : w1.cell? ⟨w.heap.size + 2, 2, none⟩ = some (.slice none 0 0) := block_cell h2b rfl
  have r3 : w1.cell? ⟨w.heap.size + 2, 3, none⟩ = some (.slice none 0 0) := block_cell h2b rfl
  have f0 : w1.frozen? ⟨w.heap.size + 2, 0, none⟩ = false := block_frozen h2b
  have f1 : w1.frozen? ⟨w.heap.size + 2, 1, none⟩ = false := block_frozen h2b
  have f2 : w1.frozen? ⟨w.heap.size + 2, 2, none⟩ = false := block_frozen h2b
  have f3 : w1.frozen? ⟨w.heap.size + 2, 3, none⟩ = false := block_frozen h2b
  have lq2 : w.heap.size + 2 < w1.heap.size := by omega
  have HG1 : Hid (w1.grownBy (st4 w1 (w.heap.size + 2) (.slice a C.length cap) (.int .i64 l1) (.slice (some ⟨gF, 0, none⟩) (2 * C.length + 1) cF) (.slice (some ⟨gT, 0, none⟩) (2 * C.length + 1) cT)) (some (w.heap.size + 2))) := st4_grown _ _ _ _ _ _
  have HX1 : Hid ((st4 w1 (w.heap.size + 2) (.slice a C.length cap) (.int .i64 l1) (.slice (some ⟨gF, 0, none⟩) (2 * C.length + 1) cF) (.slice (some ⟨gT, 0, none⟩) (2 * C.length + 1) cT)).heap[w.heap.size + 2]? = some (.cells #[.slice a C.length cap, .int .i64 l1, .slice (some ⟨gF, 0, none⟩) (2 * C.length + 1) cF, .slice (some ⟨gT, 0, none⟩) (2 * C.length + 1) cT] 61 (0, 0)) ∧ (st4 w1 (w.heap.size + 2) (.slice a C.length cap) (.int .i64 l1) (.slice (some ⟨gF, 0, none⟩) (2 * C.length + 1) cF) (.slice (some ⟨gT, 0, none⟩) (2 * C.length + 1) cT)).heap[w.heap.size + 1]? = some (.cells #[.slice a' D.length cap', .int .i64 l2] 24 (0, 0)) ∧ (st4 w1 (w.heap.size + 2) (.slice a C.length cap) (.int .i64 l1) (.slice (some ⟨gF, 0, none⟩) (2 * C.length + 1) cF) (.slice (some ⟨gT, 0, none⟩) (2 * C.length + 1) cT)).heap[w.heap.size + 3]? = some (.cells #[.slice none 0 0, .int .i64 0, .slice none 0 0, .slice none 0 0] 61 (0, 0)) ∧ (st4 w1 (w.heap.size + 2) (.slice a C.length cap) (.int .i64 l1) (.slice (some ⟨gF, 0, none⟩) (2 * C.length + 1) cF) (.slice (some ⟨gT, 0, none⟩) (2 * C.length + 1) cT)).ownsRow (w.heap.size + 4) 120 2 (.slice (some ⟨gF, 0, none⟩) (2 * C.length + 1) cF) (2 * C.length + 1) (flat (ends C false C.length 0)) ∧ (st4 w1 (w.heap.size + 2) (.slice a C.length cap) (.int .i64 l1) (.slice (some ⟨gF, 0, none⟩) (2 * C.length + 1) cF) (.slice (some ⟨gT, 0, none⟩) (2 * C.length + 1) cT)).ownsRow (w.heap.size + 4) 120 2 (.slice (some ⟨gT, 0, none⟩) (2 * C.length + 1) cT) (2 * C.length + 1) (flat (ends C true C.length 0)) ∧ Below w.heap.size w (st4 w1 (w.heap.size + 2) (.slice a C.length cap) (.int .i64 l1) (.slice (some ⟨gF, 0, none⟩) (2 * C.length + 1) cF) (.slice (some ⟨gT, 0, none⟩) (2 * C.length + 1) cT)) ∧ w1.heap.size ≤ (st4 w1 (w.heap.size + 2) (.slice a C.length cap) (.int .i64 l1) (.slice (some ⟨gF, 0, none⟩) (2 * C.length + 1) cF) (.slice (some ⟨gT, 0, none⟩) (2 * C.length + 1) cT)).heap.size) := ⟨st4_block h2b, (HG1.out.block _ (by omega) (fun e => by have := Option.some.inj e; omega)).trans h1b, (HG1.out.block _ (by omega) (fun e => by have := Option.some.inj e; omega)).trans h3b, HF1.out.1.kept HG1.out (Or.inr (fun e => by have := (HF1.out.1.lt _ e).1; omega)), HF1.out.2.kept HG1.out (Or.inr (fun e => by have := (HF1.out.2.lt _ e).1; omega)), HB1.out.grown HG1.out HB1.out.size (fun q hq => by have := Option.some.inj hq; omega), HG1.out.size⟩
  clear hb1 hd hdr hF hT h1b h2b h3b HS0 HF1 HG1 HB1
  go_upto_region 3 with (fail)
  have hst : (((w1.setCell ⟨w.heap.size + 2, 0, none⟩ (.slice a C.length cap)).setCell ⟨w.heap.size + 2, 1, none⟩ (.int .i64 l1)).setCell ⟨w.heap.size + 2, 2, none⟩ (.slice (some ⟨gF, 0, none⟩) (2 * C.length + 1) cF)).setCell ⟨w.heap.size + 2, 3, none⟩ (.slice (some ⟨gT, 0, none⟩) (2 * C.length + 1) cT) = st4 w1 (w.heap.size + 2) (.slice a C.length cap) (.int .i64 l1) (.slice (some ⟨gF, 0, none⟩) (2 * C.length + 1) cF) (.slice (some ⟨gT, 0, none⟩) (2 * C.length + 1) cT) := rfl
  rw [hst]
  clear hst r0 r1 r2 r3 f0 f1 f2 f3
  generalize st4 w1 (w.heap.size + 2) (.slice a C.length cap) (.int .i64 l1) (.slice (some ⟨gF, 0, none⟩) (2 * C.length + 1) cF) (.slice (some ⟨gT, 0, none⟩) (2 * C.length + 1) cT) = X1 at HX1 ⊢
  obtain ⟨y1, y2, y3, y4, y5, y6, y7⟩ := HX1.out
  have HC1 : Hid (Crs X1 X1.heap.size (.slice a' D.length cap') D) := HD.out.up y6
  have u0 : X1.cell? ⟨w.heap.size + 1, 0, none⟩ = some (.slice a' D.length cap') := block_cell y2 rfl
  have u1 : X1.cell? ⟨w.heap.size + 1, 1, none⟩ = some (.int .i64 l2) := block_cell y2 rfl
  have lu : w.heap.size + 1 < X1.heap.size := (Array.getElem?_eq_some_iff.1 y2).1
  have l3 : w.heap.size + 3 < X1.heap.size := (Array.getElem?_eq_some_iff.1 y3).1
  clear y1 y2 y3 y4 y5 y6 y7
  go_wp2_with (go_at_call 50; refine (of_any _ D l2 _ HC1.out).mono ?_; rw [HM'.out]; rintro e9 w2 ⟨d, rfl, hb2, hd⟩; obtain ⟨gF', cF', gT', cT', rfl, hdr, hF, hT⟩ := hd.drB HM'.out hb2 HC1.out; refine Hid.out ?_)
  refine Lib.hid ?_
  unfold drV
  obtain ⟨y1, y2, y3, y4, y5, y6, y7⟩ := HX1.out
  have hs2 := hb2.size
  have hg2 : X1.grownBy w2 none := grown_below hb2 none
  have h2b := (hb2.block (w.heap.size + 2) (by omega)).trans y1
  have h3b := (hb2.block (w.heap.size + 3) (by omega)).trans y3
  have r0 : w2.cell? ⟨w.heap.size + 3, 0, none⟩ = some (.slice none 0 0) := block_cell h3b rfl
  have r1 : w2.cell? ⟨w.heap.size + 3, 1, none⟩ = some (.int .i64 0) := block_cell h3b rfl
  have r2 : w2.cell? ⟨w.heap.size + 3, 2, none⟩ = some (.slice none 0 0) := block_cell h3b rfl
  have r3 : w2.cell? ⟨w.heap.size + 3, 3, none⟩ = some (.slice none 0 0) := block_cell h3b rfl
  have f0 : w2.frozen? ⟨w.heap.size + 3, 0, none⟩ = false := block_frozen h3b
  have f1 : w2.frozen? ⟨w.heap.size + 3, 1, none⟩ = false := block_frozen h3b
  have f2 : w2.frozen? ⟨w.heap.size + 3, 2, none⟩ = false := block_frozen h3b
  have f3 : w2.frozen? ⟨w.heap.size + 3, 3, none⟩ = false := block_frozen h3b
  have l4 : w.heap.size + 3 < w2.heap.size := by omega
  have HF2 : Hid (w2.ownsRow (w.heap.size + 4) 120 2 (.slice (some ⟨gF, 0, none⟩) (2 * C.length + 1) cF) (2 * C.length + 1) (flat (ends C false C.length 0)) ∧ w2.ownsRow (w.heap.size + 4) 120 2 (.slice (some ⟨gT, 0, none⟩) (2 * C.length + 1) cT) (2 * C.length + 1) (flat (ends C true C.length 0)) ∧ w2.ownsRow (w.heap.size + 4) 120 2 (.slice (some ⟨gF', 0, none⟩) (2 * D.length + 1) cF') (2 * D.length + 1) (flat (ends D false D.length 0)) ∧ w2.ownsRow (w.heap.size + 4) 120 2 (.slice (some ⟨gT', 0, none⟩) (2 * D.length + 1) cT') (2 * D.length + 1) (flat (ends D true D.length 0))) := ⟨own_any y4 hg2, own_any y5 hg2, own_low hF (by omega), own_low hT (by omega)⟩
  have HG2 : Hid (w2.grownBy (st4 w2 (w.heap.size + 3) (.slice a' D.length cap') (.int .i64 l2) (.slice (some ⟨gF', 0, none⟩) (2 * D.length + 1) cF') (.slice (some ⟨gT', 0, none⟩) (2 * D.length + 1) cT')) (some (w.heap.size + 3))) := st4_grown _ _ _ _ _ _
  have HX2 : Hid (((st4 w2 (w.heap.size + 3) (.slice a' D.length cap') (.int .i64 l2) (.slice (some ⟨gF', 0, none⟩) (2 * D.length + 1) cF') (.slice (some ⟨gT', 0, none⟩) (2 * D.length + 1) cT')).heap[w.heap.size + 2]? = some (.cells #[.slice a C.length cap, .int .i64 l1, .slice (some ⟨gF, 0, none⟩) (2 * C.length + 1) cF, .slice (some ⟨gT, 0, none⟩) (2 * C.length + 1) cT] 61 (0, 0)) ∧ (st4 w2 (w.heap.size + 3) (.slice a' D.length cap') (.int .i64 l2) (.slice (some ⟨gF', 0, none⟩) (2 * D.length + 1) cF') (.slice (some ⟨gT', 0, none⟩) (2 * D.length + 1) cT')).heap[w.heap.size + 3]? = some (.cells #[.slice a' D.length cap', .int .i64 l2, .slice (some ⟨gF', 0, none⟩) (2 * D.length + 1) cF', .slice (some ⟨gT', 0, none⟩) (2 * D.length + 1) cT'] 61 (0, 0))) ∧ ((st4 w2 (w.heap.size + 3) (.slice a' D.length cap') (.int .i64 l2) (.slice (some ⟨gF', 0, none⟩) (2 * D.length + 1) cF') (.slice (some ⟨gT', 0, none⟩) (2 * D.length + 1) cT')).ownsRow (w.heap.size + 4) 120 2 (.slice (some ⟨gF, 0, none⟩) (2 * C.length + 1) cF) (2 * C.length + 1) (flat (ends C false C.length 0)) ∧ (st4 w2 (w.heap.size + 3) (.slice a' D.length cap') (.int .i64 l2) (.slice (some ⟨gF', 0, none⟩) (2 * D.length + 1) cF') (.slice (some ⟨gT', 0, none⟩) (2 * D.length + 1) cT')).ownsRow (w.heap.size + 4) 120 2 (.slice (some ⟨gT, 0, none⟩) (2 * C.length + 1) cT) (2 * C.length + 1) (flat (ends C true C.length 0)) ∧ (st4 w2 (w.heap.size + 3) (.slice a' D.length cap') (.int .i64 l2) (.slice (some ⟨gF', 0, none⟩) (2 * D.length + 1) cF') (.slice (some ⟨gT', 0, none⟩) (2 * D.length + 1) cT')).ownsRow (w.heap.size + 4) 120 2 (.slice (some ⟨gF', 0, none⟩) (2 * D.length + 1) cF') (2 * D.length + 1) (flat (ends D false D.length 0)) ∧ (st4 w2 (w.heap.size + 3) (.slice a' D.length cap') (.int .i64 l2) (.slice (some ⟨gF', 0, none⟩) (2 * D.length + 1) cF') (.slice (some ⟨gT', 0, none⟩) (2 * D.length + 1) cT')).ownsRow (w.heap.size + 4) 120 2 (.slice (some ⟨gT', 0, none⟩) (2 * D.length + 1) cT') (2 * D.length + 1) (flat (ends D true D.length 0))) ∧ Below w.heap.size w (st4 w2 (w.heap.size + 3) (.slice a' D.length cap') (.int .i64 l2) (.slice (some ⟨gF', 0, none⟩) (2 * D.length + 1) cF') (.slice (some ⟨gT', 0, none⟩) (2 * D.length + 1) cT'))) := ⟨⟨(HG2.out.block _ (by omega) (fun e => by have := Option.some.inj e; omega)).trans h2b, st4_block h3b⟩, ⟨HF2.out.1.kept HG2.out (Or.inr (fun e => by have := (HF2.out.1.lt _ e).1; omega)), HF2.out.2.1.kept HG2.out (Or.inr (fun e => by have := (HF2.out.2.1.lt _ e).1; omega)), HF2.out.2.2.1.kept HG2.out (Or.inr (fun e => by have := (HF2.out.2.2.1.lt _ e).1; omega)), HF2.out.2.2.2.kept HG2.out (Or.inr (fun e => by have := (HF2.out.2.2.2.lt _ e).1; omega))⟩, (y6.trans (hb2.mono y6.size)).grown HG2.out (by omega) (fun q hq => by have := Option.some.inj hq; omega)⟩
  clear hb2 hd hdr hF hT h2b h3b HF2 HG2 hg2 y1 y2 y3 y4 y5 y6 y7 u0 u1
  go_upto_region 4 with (fail)
  have hst : (((w2.setCell ⟨w.heap.size + 3, 0, none⟩ (.slice a' D.length cap')).setCell ⟨w.heap.size + 3, 1, none⟩ (.int .i64 l2)).setCell ⟨w.heap.size + 3, 2, none⟩ (.slice (some ⟨gF', 0, none⟩) (2 * D.length + 1) cF')).setCell ⟨w.heap.size + 3, 3, none⟩ (.slice (some ⟨gT', 0, none⟩) (2 * D.length + 1) cT') = st4 w2 (w.heap.size + 3) (.slice a' D.length cap') (.int .i64 l2) (.slice (some ⟨gF', 0, none⟩) (2 * D.length + 1) cF') (.slice (some ⟨gT', 0, none⟩) (2 * D.length + 1) cT') := rfl
  rw [hst]
  clear hst r0 r1 r2 r3 f0 f1 f2 f3
  generalize st4 w2 (w.heap.size + 3) (.slice a' D.length cap') (.int .i64 l2) (.slice (some ⟨gF', 0, none⟩) (2 * D.length + 1) cF') (.slice (some ⟨gT', 0, none⟩) (2 * D.length + 1) cT') = X2 at HX2 ⊢
  obtain ⟨⟨y1, y2⟩, y3, y4⟩ := HX2.out
  have p0 : X2.cell? ⟨w.heap.size + 2, 0, none⟩ = some (.slice a C.length cap) := block_cell y1 rfl
  have p1 : X2.cell? ⟨w.heap.size + 2, 1, none⟩ = some (.int .i64 l1) := block_cell y1 rfl
  have p2 : X2.cell? ⟨w.heap.size + 2, 2, none⟩ = some (.slice (some ⟨gF, 0, none⟩) (2 * C.length + 1) cF) := block_cell y1 rfl
  have p3 : X2.cell? ⟨w.heap.size + 2, 3, none⟩ = some (.slice (some ⟨gT, 0, none⟩) (2 * C.length + 1) cT) := block_cell y1 rfl
  have q0 : X2.cell? ⟨w.heap.size + 3, 0, none⟩ = some (.slice a' D.length cap') := block_cell y2 rfl
  have q1 : X2.cell? ⟨w.heap.size + 3, 1, none⟩ = some (.int .i64 l2) := block_cell y2 rfl
  have q2 : X2.cell? ⟨w.heap.size + 3, 2, none⟩ = some (.slice (some ⟨gF', 0, none⟩) (2 * D.length + 1) cF') := block_cell y2 rfl
  have q3 : X2.cell? ⟨w.heap.size + 3, 3, none⟩ = some (.slice (some ⟨gT', 0, none⟩) (2 * D.length + 1) cT') := block_cell y2 rfl
  have f0 : X2.frozen? ⟨w.heap.size + 2, 0, none⟩ = false := block_frozen y1
  have f1 : X2.frozen? ⟨w.heap.size + 2, 1, none⟩ = false := block_frozen y1
  have f2 : X2.frozen? ⟨w.heap.size + 2, 2, none⟩ = false := block_frozen y1
  have f3 : X2.frozen? ⟨w.heap.size + 2, 3, none⟩ = false := block_frozen y1
  have k0 : X2.frozen? ⟨w.heap.size + 3, 0, none⟩ = false := block_frozen y2
  have k1 : X2.frozen? ⟨w.heap.size + 3, 1, none⟩ = false := block_frozen y2
  have k2 : X2.frozen? ⟨w.heap.size + 3, 2, none⟩ = false := block_frozen y2
  have k3 : X2.frozen? ⟨w.heap.size + 3, 3, none⟩ = false := block_frozen y2
  have l5 : w.heap.size + 2 < X2.heap.size := (Array.getElem?_eq_some_iff.1 y1).1
  have l6 : w.heap.size + 3 < X2.heap.size := (Array.getElem?_eq_some_iff.1 y2).1
  clear y1 y2 y3 y4
  go_region
  have hst : ((((((((X2).setCell ⟨w.heap.size + 2, 0, none⟩ (.slice a C.length cap)).setCell ⟨w.heap.size + 2, 1, none⟩ (.int .i64 l1)).setCell ⟨w.heap.size + 2, 2, none⟩ (.slice (some ⟨gF, 0, none⟩) (2 * C.length + 1) cF)).setCell ⟨w.heap.size + 2, 3, none⟩ (.slice (some ⟨gT, 0, none⟩) (2 * C.length + 1) cT)).setCell ⟨w.heap.size + 3, 0, none⟩ (.slice a' D.length cap')).setCell ⟨w.heap.size + 3, 1, none⟩ (.int .i64 l2)).setCell ⟨w.heap.size + 3, 2, none⟩ (.slice (some ⟨gF', 0, none⟩) (2 * D.length + 1) cF')).setCell ⟨w.heap.size + 3, 3, none⟩ (.slice (some ⟨gT', 0, none⟩) (2 * D.length + 1) cT') = st4 (st4 X2 (w.heap.size + 2) (.slice a C.length cap) (.int .i64 l1) (.slice (some ⟨gF, 0, none⟩) (2 * C.length + 1) cF) (.slice (some ⟨gT, 0, none⟩) (2 * C.length + 1) cT)) (w.heap.size + 3) (.slice a' D.length cap') (.int .i64 l2) (.slice (some ⟨gF', 0, none⟩) (2 * D.length + 1) cF') (.slice (some ⟨gT', 0, none⟩) (2 * D.length + 1) cT') := rfl
  rw [hst]
  obtain ⟨⟨y1, y2⟩, y3, y4⟩ := HX2.out
  have g1 : X2.grownBy (st4 X2 (w.heap.size + 2) (.slice a C.length cap) (.int .i64 l1) (.slice (some ⟨gF, 0, none⟩) (2 * C.length + 1) cF) (.slice (some ⟨gT, 0, none⟩) (2 * C.length + 1) cT)) (some (w.heap.size + 2)) := st4_grown _ _ _ _ _ _
  have g2 : (st4 X2 (w.heap.size + 2) (.slice a C.length cap) (.int .i64 l1) (.slice (some ⟨gF, 0, none⟩) (2 * C.length + 1) cF) (.slice (some ⟨gT, 0, none⟩) (2 * C.length + 1) cT)).grownBy (st4 (st4 X2 (w.heap.size + 2) (.slice a C.length cap) (.int .i64 l1) (.slice (some ⟨gF, 0, none⟩) (2 * C.length + 1) cF) (.slice (some ⟨gT, 0, none⟩) (2 * C.length + 1) cT)) (w.heap.size + 3) (.slice a' D.length cap') (.int .i64 l2) (.slice (some ⟨gF', 0, none⟩) (2 * D.length + 1) cF') (.slice (some ⟨gT', 0, none⟩) (2 * D.length + 1) cT')) (some (w.heap.size + 3)) := st4_grown _ _ _ _ _ _
  have z1 : (st4 (st4 X2 (w.heap.size + 2) (.slice a C.length cap) (.int .i64 l1) (.slice (some ⟨gF, 0, none⟩) (2 * C.length + 1) cF) (.slice (some ⟨gT, 0, none⟩) (2 * C.length + 1) cT)) (w.heap.size + 3) (.slice a' D.length cap') (.int .i64 l2) (.slice (some ⟨gF', 0, none⟩) (2 * D.length + 1) cF') (.slice (some ⟨gT', 0, none⟩) (2 * D.length + 1) cT')).heap[w.heap.size + 2]? = some (.cells #[.slice a C.length cap, .int .i64 l1, .slice (some ⟨gF, 0, none⟩) (2 * C.length + 1) cF, .slice (some ⟨gT, 0, none⟩) (2 * C.length + 1) cT] 61 (0, 0)) := (g2.block _ (by have := g1.size; omega) (fun e => by have := Option.some.inj e; omega)).trans (st4_block y1)
  have z2 : (st4 (st4 X2 (w.heap.size + 2) (.slice a C.length cap) (.int .i64 l1) (.slice (some ⟨gF, 0, none⟩) (2 * C.length + 1) cF) (.slice (some ⟨gT, 0, none⟩) (2 * C.length + 1) cT)) (w.heap.size + 3) (.slice a' D.length cap') (.int .i64 l2) (.slice (some ⟨gF', 0, none⟩) (2 * D.length + 1) cF') (.slice (some ⟨gT', 0, none⟩) (2 * D.length + 1) cT')).heap[w.heap.size + 3]? = some (.cells #[.slice a' D.length cap', .int .i64 l2, .slice (some ⟨gF', 0, none⟩) (2 * D.length + 1) cF', .slice (some ⟨gT', 0, none⟩) (2 * D.length + 1) cT'] 61 (0, 0)) := st4_block ((g1.block _ l6 (fun e => by have := Option.some.inj e; omega)).trans y2)
  have hk : ∀ {u : Value} {n : Nat} {xs : List Value}, X2.ownsRow (w.heap.size + 4) 120 2 u n xs → (st4 (st4 X2 (w.heap.size + 2) (.slice a C.length cap) (.int .i64 l1) (.slice (some ⟨gF, 0, none⟩) (2 * C.length + 1) cF) (.slice (some ⟨gT, 0, none⟩) (2 * C.length + 1) cT)) (w.heap.size + 3) (.slice a' D.length cap') (.int .i64 l2) (.slice (some ⟨gF', 0, none⟩) (2 * D.length + 1) cF') (.slice (some ⟨gT', 0, none⟩) (2 * D.length + 1) cT')).ownsRow (w.heap.size + 4) 120 2 u n xs := fun ho => (ho.kept g1 (Or.inr (fun e => by have := (ho.lt _ e).1; omega))).kept g2 (Or.inr (fun e => by have := (ho.lt _ e).1; omega))
  have hbl : Below w.heap.size w (st4 (st4 X2 (w.heap.size + 2) (.slice a C.length cap) (.int .i64 l1) (.slice (some ⟨gF, 0, none⟩) (2 * C.length + 1) cF) (.slice (some ⟨gT, 0, none⟩) (2 * C.length + 1) cT)) (w.heap.size + 3) (.slice a' D.length cap') (.int .i64 l2) (.slice (some ⟨gF', 0, none⟩) (2 * D.length + 1) cF') (.slice (some ⟨gT', 0, none⟩) (2 * D.length + 1) cT')) := (y4.grown g1 y4.size (fun q hq => by have := Option.some.inj hq; omega)).grown g2 (Nat.le_trans y4.size g1.size) (fun q hq => by have := Option.some.inj hq; omega)
  have HFN : Hid (((st4 (st4 X2 (w.heap.size + 2) (.slice a C.length cap) (.int .i64 l1) (.slice (some ⟨gF, 0, none⟩) (2 * C.length + 1) cF) (.slice (some ⟨gT, 0, none⟩) (2 * C.length + 1) cT)) (w.heap.size + 3) (.slice a' D.length cap') (.int .i64 l2) (.slice (some ⟨gF', 0, none⟩) (2 * D.length + 1) cF') (.slice (some ⟨gT', 0, none⟩) (2 * D.length + 1) cT')).ownsRow (w.heap.size + 4) 120 2 (.slice (some ⟨gF, 0, none⟩) (2 * C.length + 1) cF) (2 * C.length + 1) (flat (ends C false C.length 0)) ∧ (st4 (st4 X2 (w.heap.size + 2) (.slice a C.length cap) (.int .i64 l1) (.slice (some ⟨gF, 0, none⟩) (2 * C.length + 1) cF) (.slice (some ⟨gT, 0, none⟩) (2 * C.length + 1) cT)) (w.heap.size + 3) (.slice a' D.length cap') (.int .i64 l2) (.slice (some ⟨gF', 0, none⟩) (2 * D.length + 1) cF') (.slice (some ⟨gT', 0, none⟩) (2 * D.length + 1) cT')).ownsRow (w.heap.size + 4) 120 2 (.slice (some ⟨gT, 0, none⟩) (2 * C.length + 1) cT) (2 * C.length + 1) (flat (ends C true C.length 0)) ∧ (st4 (st4 X2 (w.heap.size + 2) (.slice a C.length cap) (.int .i64 l1) (.slice (some ⟨gF, 0, none⟩) (2 * C.length + 1) cF) (.slice (some ⟨gT, 0, none⟩) (2 * C.length + 1) cT)) (w.heap.size + 3) (.slice a' D.length cap') (.int .i64 l2) (.slice (some ⟨gF', 0, none⟩) (2 * D.length + 1) cF') (.slice (some ⟨gT', 0, none⟩) (2 * D.length + 1) cT')).ownsRow (w.heap.size + 4) 120 2 (.slice (some ⟨gF', 0, none⟩) (2 * D.length + 1) cF') (2 * D.length + 1) (flat (ends D false D.length 0)) ∧ (st4 (st4 X2 (w.heap.size + 2) (.slice a C.length cap) (.int .i64 l1) (.slice (some ⟨gF, 0, none⟩) (2 * C.length + 1) cF) (.slice (some ⟨gT, 0, none⟩) (2 * C.length + 1) cT)) (w.heap.size + 3) (.slice a' D.length cap') (.int .i64 l2) (.slice (some ⟨gF', 0, none⟩) (2 * D.length + 1) cF') (.slice (some ⟨gT', 0, none⟩) (2 * D.length + 1) cT')).ownsRow (w.heap.size + 4) 120 2 (.slice (some ⟨gT', 0, none⟩) (2 * D.length + 1) cT') (2 * D.length + 1) (flat (ends D true D.length 0))) ∧ Below w.heap.size w (st4 (st4 X2 (w.heap.size + 2) (.slice a C.length cap) (.int .i64 l1) (.slice (some ⟨gF, 0, none⟩) (2 * C.length + 1) cF) (.slice (some ⟨gT, 0, none⟩) (2 * C.length + 1) cT)) (w.heap.size + 3) (.slice a' D.length cap') (.int .i64 l2) (.slice (some ⟨gF', 0, none⟩) (2 * D.length + 1) cF') (.slice (some ⟨gT', 0, none⟩) (2 * D.length + 1) cT'))) := ⟨⟨hk y3.1, hk y3.2.1, hk y3.2.2.1, hk y3.2.2.2⟩, hbl⟩
  clear hst g1 g2 hk hbl y1 y2 y3 y4 p0 p1 p2 p3 q0 q1 q2 q3 f0 f1 f2 f3 k0 k1 k2 k3
  generalize st4 (st4 X2 (w.heap.size + 2) (.slice a C.length cap) (.int .i64 l1) (.slice (some ⟨gF, 0, none⟩) (2 * C.length + 1) cF) (.slice (some ⟨gT, 0, none⟩) (2 * C.length + 1) cT)) (w.heap.size + 3) (.slice a' D.length cap') (.int .i64 l2) (.slice (some ⟨gF', 0, none⟩) (2 * D.length + 1) cF') (.slice (some ⟨gT', 0, none⟩) (2 * D.length + 1) cT') = Y at z1 z2 HFN ⊢
  have x0 : Y.drew.cell? ⟨w.heap.size + 2, 0, none⟩ = some (.slice a C.length cap) := block_cell (drew_blk z1) rfl
  have x1 : Y.drew.cell? ⟨w.heap.size + 2, 1, none⟩ = some (.int .i64 l1) := block_cell (drew_blk z1) rfl
  have x2 : Y.drew.cell? ⟨w.heap.size + 2, 2, none⟩ = some (.slice (some ⟨gF, 0, none⟩) (2 * C.length + 1) cF) := block_cell (drew_blk z1) rfl
  have x3 : Y.drew.cell? ⟨w.heap.size + 2, 3, none⟩ = some (.slice (some ⟨gT, 0, none⟩) (2 * C.length + 1) cT) := block_cell (drew_blk z1) rfl
  have x4 : Y.drew.cell? ⟨w.heap.size + 3, 0, none⟩ = some (.slice a' D.length cap') := block_cell (drew_blk z2) rfl
  have x5 : Y.drew.cell? ⟨w.heap.size + 3, 1, none⟩ = some (.int .i64 l2) := block_cell (drew_blk z2) rfl
  have x6 : Y.drew.cell? ⟨w.heap.size + 3, 2, none⟩ = some (.slice (some ⟨gF', 0, none⟩) (2 * D.length + 1) cF') := block_cell (drew_blk z2) rfl
  have x7 : Y.drew.cell? ⟨w.heap.size + 3, 3, none⟩ = some (.slice (some ⟨gT', 0, none⟩) (2 * D.length + 1) cT') := block_cell (drew_blk z2) rfl
  go_wp2
  have hbY := HFN.out.2.drew
  have hgY : Y.grownBy Y.drew none := grown_below ((Below.refl _ _).drew) none
  have o1 := own_any HFN.out.1.1 hgY
  have o2 := own_any HFN.out.1.2.1 hgY
  have o3 := own_any HFN.out.1.2.2.1 hgY
  have o4 := own_any HFN.out.1.2.2.2 hgY
  exact bodyPost_ret (v := .tuple #[.agg #[.slice a C.length cap, .int .i64 l1, .slice (some ⟨gF, 0, none⟩) (2 * C.length + 1) cF, .slice (some ⟨gT, 0, none⟩) (2 * C.length + 1) cT], .agg #[.slice a' D.length cap', .int .i64 l2, .slice (some ⟨gF', 0, none⟩) (2 * D.length + 1) cF', .slice (some ⟨gT', 0, none⟩) (2 * D.length + 1) cT'], .bool true]) (by simp [results, Try.results79, go_sem, x0, x1, x2, x3, x4, x5, x6, x7]) rfl ⟨a, cap, gF, cF, gT, cT, a', cap', gF', cF', gT', cT', rfl, ⟨HC.out.up hbY, (o1.lt gF rfl).2, (o2.lt gT rfl).2, own_terms o1 (ends_length _ _ _ _), own_terms o2 (ends_length _ _ _ _)⟩, ⟨HD.out.up hbY, (o3.lt gF' rfl).2, (o4.lt gT' rfl).2, own_terms o3 (ends_length _ _ _ _), own_terms o4 (ends_length _ _ _ _)⟩, hbY⟩
end Go.Proofs.Ytagaajlbkfkaiaa
/- Both ways of making the canonical form come to one: mathematics. -/
namespace Go.Proofs.Ytagaajlbkfkaiaa

theorem idxOf_map {ρ : Nat → Nat} {A : Nat → Prop} (hinj : ∀ x y, A x → A y → ρ x = ρ y → x = y) : ∀ (F : List Nat) (x : Nat), (∀ y, y ∈ F → A y) → A x → (F.map ρ).idxOf (ρ x) = F.idxOf x
  | [], _, _, _ => rfl
  | z :: F, x, hF, hx => by
    rw [List.map_cons, List.idxOf_cons, List.idxOf_cons, idxOf_map hinj F x (fun y hy => hF y (List.mem_cons_of_mem _ hy)) hx]
    by_cases e : z = x
    · subst e; simp
    · have e2 : ρ z ≠ ρ x := fun h => e (hinj z x (hF z (List.mem_cons_self)) hx h)
      rw [beq_eq_false_iff_ne.2 e, beq_eq_false_iff_ne.2 e2]
theorem mem_map_inj {ρ : Nat → Nat} {A : Nat → Prop} (hinj : ∀ x y, A x → A y → ρ x = ρ y → x = y) {F : List Nat} {x : Nat} (hF : ∀ y, y ∈ F → A y) (hx : A x) : ρ x ∈ F.map ρ ↔ x ∈ F := by
  constructor
  · intro h
    obtain ⟨y, hy, e⟩ := List.mem_map.1 h
    rw [← hinj y x (hF y hy) hx e]; exact hy
  · intro h; exact List.mem_map_of_mem h
theorem addF_map {ρ : Nat → Nat} {A : Nat → Prop} (hinj : ∀ x y, A x → A y → ρ x = ρ y → x = y) {F : List Nat} {x : Nat} (hF : ∀ y, y ∈ F → A y) (hx : A x) : addF (F.map ρ) (ρ x) = (addF F x).map ρ := by
  unfold addF
  by_cases h : x ∈ F
  · rw [if_pos h, if_pos ((mem_map_inj hinj hF hx).2 h)]
  · rw [if_neg h, if_neg (fun e => h ((mem_map_inj hinj hF hx).1 e))]; simp
theorem addF_mem {A : Nat → Prop} {F : List Nat} {x : Nat} (hF : ∀ y, y ∈ F → A y) (hx : A x) : ∀ y, y ∈ addF F x → A y := by
  intro y hy
  unfold addF at hy
  split at hy
  · exact hF y hy
  · rcases List.mem_append.1 hy with h | h
    · exact hF y h
    · rw [List.mem_singleton.1 h]; exact hx
theorem addN_map {ρ : Nat → Nat} {A : Nat → Prop} (hinj : ∀ x y, A x → A y → ρ x = ρ y → x = y) {F : List Nat} {x y : Cr} (hF : ∀ z, z ∈ F → A z) (h : ∀ s, s < 4 → A (arcN x s) ∧ arcN y s = ρ (arcN x s)) : ∀ k, k ≤ 4 → addN (F.map ρ) y k = (addN F x k).map ρ ∧ ∀ z, z ∈ addN F x k → A z := by
  intro k
  induction k with
  | zero => intro _; exact ⟨rfl, hF⟩
  | succ k ih =>
    intro hk
    obtain ⟨h1, h2⟩ := ih (by omega)
    obtain ⟨g1, g2⟩ := h k (by omega)
    rw [addN, addN, h1, g2]
    exact ⟨addF_map hinj h2 g1, addF_mem h2 g1⟩
theorem canX_map {ρ : Nat → Nat} {A : Nat → Prop} (hinj : ∀ x y, A x → A y → ρ x = ρ y → x = y) {F : List Nat} {x y : Cr} (hF : ∀ z, z ∈ F → A z) (h : ∀ s, s < 4 → A (arcN x s) ∧ arcN y s = ρ (arcN x s)) (hp : y.plus = x.plus) : canX (F.map ρ) y = canX F x := by
  have hn : ∀ k, k < 4 → canN (F.map ρ) y k = canN F x k := fun k hk => by
    obtain ⟨h1, h2⟩ := addN_map hinj hF h (k + 1) (by omega)
    obtain ⟨g1, g2⟩ := h k hk
    unfold canN
    rw [h1, g2, idxOf_map hinj _ _ h2 g1]
  unfold canX
  rw [hn 0 (by omega), hn 1 (by omega), hn 2 (by omega), hn 3 (by omega), hp]
theorem canGo_map {C : List Cr} {ρ : Nat → Nat} {A : Nat → Prop} (hinj : ∀ x y, A x → A y → ρ x = ρ y → x = y) : ∀ (o1 o2 F : List Nat), o1.length = o2.length → (∀ z, z ∈ F → A z) →
    (∀ q, q ∈ o1.zip o2 → (∀ s, s < 4 → A (arcN (C.getD q.1 Cr.none) s) ∧ arcN (C.getD q.2 Cr.none) s = ρ (arcN (C.getD q.1 Cr.none) s)) ∧ (C.getD q.2 Cr.none).plus = (C.getD q.1 Cr.none).plus) → canGo C (F.map ρ) o2 = canGo C F o1
  | [], [], _, _, _, _ => rfl
  | [], _ :: _, _, h, _, _ => by simp at h
  | _ :: _, [], _, h, _, _ => by simp at h
  | c :: o1, d :: o2, F, h, hF, hz => by
    obtain ⟨g1, g2⟩ := hz (c, d) (by simp)
    obtain ⟨h1, h2⟩ := addN_map hinj hF g1 4 (Nat.le_refl _)
    rw [canGo, canGo, canX_map hinj hF g1 g2, h1, canGo_map hinj o1 o2 _ (by simpa using h) h2 (fun q hq => hz q (by simp [hq]))]
/-- Tellings of the diagram. -/
def IsTe (C : List Cr) (p : List Nat × List Int) : Prop := ∃ k, k < C.length ∧ p = te C k
def ords (A : List (List Nat × List Int)) : List Nat := (A.map Prod.fst).flatten
theorem keyT_eq {p q : List Nat × List Int} (h : keyT p = keyT q) : p.1.length = q.1.length ∧ p.2 = q.2 := by
  unfold keyT at h
  injection h with h1 h2
  exact ⟨by omega, h2⟩
theorem zip_ords : ∀ (A B : List (List Nat × List Int)), A.map keyT = B.map keyT → (ords A).zip (ords B) = ((A.zip B).map fun a => a.1.1.zip a.2.1).flatten ∧ (ords A).length = (ords B).length
  | [], [], _ => ⟨rfl, rfl⟩
  | [], _ :: _, h => by simp at h
  | _ :: _, [], h => by simp at h
  | p :: A, q :: B, h => by
    rw [List.map_cons, List.map_cons] at h
    injection h with h1 h2
    obtain ⟨i1, i2⟩ := zip_ords A B h2
    have hl := (keyT_eq h1).1
    have e1 : ords (p :: A) = p.1 ++ ords A := by simp [ords]
    have e2 : ords (q :: B) = q.1 ++ ords B := by simp [ords]
    refine ⟨?_, ?_⟩
    · rw [e1, e2, List.zip_append hl, i1]
      simp
    · rw [e1, e2, List.length_append, List.length_append, hl, i2]
theorem zip_keys : ∀ (A B : List (List Nat × List Int)), A.map keyT = B.map keyT → ∀ a, a ∈ A.zip B → keyT a.1 = keyT a.2
  | [], _, _, a, ha => by simp at ha
  | _ :: _, [], _, a, ha => by simp at ha
  | p :: A, q :: B, h, a, ha => by
    rw [List.map_cons, List.map_cons] at h
    injection h with h1 h2
    rw [List.zip_cons_cons] at ha
    rcases List.mem_cons.1 ha with e | e
    · rw [e]; exact h1
    · exact zip_keys A B h2 a e
/-- Where two crossings stand against one another. -/
theorem zip_at {A B : List (List Nat × List Int)} (hk : A.map keyT = B.map keyT) {c d : Nat} (h : (c, d) ∈ (ords A).zip (ords B)) : ∃ p q l, (p, q) ∈ A.zip B ∧ l < p.1.length ∧ p.1.getD l 0 = c ∧ q.1.getD l 0 = d := by
  rw [(zip_ords A B hk).1] at h
  obtain ⟨z, hz, hcd⟩ := List.mem_flatten.1 h
  obtain ⟨a, ha, rfl⟩ := List.mem_map.1 hz
  have hl := (keyT_eq (zip_keys A B hk a ha)).1
  obtain ⟨l, hlt, he⟩ := List.getElem_of_mem hcd
  have h1 : l < a.1.1.length := by simp at hlt; omega
  rw [List.getElem_zip] at he
  injection he with e1 e2
  exact ⟨a.1, a.2, l, ha, h1, by rw [List.getD_eq_getElem?_getD, List.getElem?_eq_getElem h1]; exact e1, by rw [List.getD_eq_getElem?_getD, List.getElem?_eq_getElem (by omega)]; exact e2⟩
theorem zip_of {A B : List (List Nat × List Int)} (hk : A.map keyT = B.map keyT) {p q : List Nat × List Int} {l : Nat} (ha : (p, q) ∈ A.zip B) (hl : l < p.1.length) : (p.1.getD l 0, q.1.getD l 0) ∈ (ords A).zip (ords B) := by
  rw [(zip_ords A B hk).1]
  have hq := (keyT_eq (zip_keys A B hk _ ha)).1
  have hq' : l < q.1.length := by have : p.1.length = q.1.length := hq; omega
  refine List.mem_flatten.2 ⟨p.1.zip q.1, List.mem_map.2 ⟨(p, q), ha, rfl⟩, ?_⟩
  refine List.mem_iff_getElem?.2 ⟨l, ?_⟩
  rw [List.getElem?_zip_eq_some]
  exact ⟨by simp [List.getD, hl], by simp [List.getD, hq']⟩
theorem zip_one {l1 l2 : List Nat} (hn : l1.Nodup) {c x y : Nat} (h1 : (c, x) ∈ l1.zip l2) (h2 : (c, y) ∈ l1.zip l2) : x = y := by
  obtain ⟨i, hi⟩ := List.mem_iff_getElem?.1 h1
  obtain ⟨j, hj⟩ := List.mem_iff_getElem?.1 h2
  rw [List.getElem?_zip_eq_some] at hi hj
  obtain ⟨li, ei⟩ := List.getElem?_eq_some_iff.1 hi.1
  obtain ⟨lj, ej⟩ := List.getElem?_eq_some_iff.1 hj.1
  have e : i = j := (List.getElem_inj hn).1 (ei.trans ej.symm)
  subst e
  exact Option.some.inj (hi.2.symm.trans hj.2)
theorem zip_flip {l1 l2 : List Nat} {c d : Nat} (h : (c, d) ∈ l1.zip l2) : (d, c) ∈ l2.zip l1 := by
  obtain ⟨i, hi⟩ := List.mem_iff_getElem?.1 h
  rw [List.getElem?_zip_eq_some] at hi
  exact List.mem_iff_getElem?.2 ⟨i, by rw [List.getElem?_zip_eq_some]; exact ⟨hi.2, hi.1⟩⟩
theorem getD_idxOf {l : List Nat} {x : Nat} (h : x ∈ l) : l.getD (l.idxOf x) 0 = x := by
  have hl := List.idxOf_lt_length_of_mem h
  rw [List.getD_eq_getElem?_getD, List.getElem?_eq_getElem hl]
  exact List.getElem_idxOf hl
/-- Arcs that are one there are one here. -/
theorem arcs_go {C : List Cr} {loops : Int} (hm : mayD C loops = true) {A B : List (List Nat × List Int)} (hA : ∀ p, p ∈ A → IsTe C p) (hB : ∀ p, p ∈ B → IsTe C p) (hk : A.map keyT = B.map keyT) (nd : (ords A).Nodup) {c1 c2 d1 d2 s t : Nat} (h1 : (c1, c2) ∈ (ords A).zip (ords B)) (h2 : (d1, d2) ∈ (ords A).zip (ords B)) (hs : s < 4) (ht : t < 4) (he : arcN (C.getD c1 Cr.none) s = arcN (C.getD d1 Cr.none) t) : arcN (C.getD c2 Cr.none) s = arcN (C.getD d2 Cr.none) t := by
  obtain ⟨p, q, l, hpq, hl, ec1, ec2⟩ := zip_at hk h1
  obtain ⟨p', q', l', hpq', hl', ed1, ed2⟩ := zip_at hk h2
  have hkey : keyT p = keyT q := zip_keys A B hk _ hpq
  obtain ⟨hln, hcd⟩ := keyT_eq hkey
  obtain ⟨k, hkC, ep⟩ := hA p (List.of_mem_zip hpq).1
  obtain ⟨k2, hk2C, eq⟩ := hB q (List.of_mem_zip hpq).2
  obtain ⟨k3, hk3C, ep'⟩ := hA p' (List.of_mem_zip hpq').1
  have hc1 : c1 < C.length := by
    rw [← ec1]
    rw [ep] at hl ⊢
    exact (te_ok hm hkC).lt _ (by rw [List.getD_eq_getElem?_getD, List.getElem?_eq_getElem hl]; exact List.getElem_mem hl)
  have hd1 : d1 < C.length := by
    rw [← ed1]
    rw [ep'] at hl' ⊢
    exact (te_ok hm hk3C).lt _ (by rw [List.getD_eq_getElem?_getD, List.getElem?_eq_getElem hl']; exact List.getElem_mem hl')
  have hlq : l < q.1.length := by omega
  have hc2 : c2 < C.length := by
    rw [← ec2]
    rw [eq] at hlq ⊢
    exact (te_ok hm hk2C).lt _ (by rw [List.getD_eq_getElem?_getD, List.getElem?_eq_getElem hlq]; exact List.getElem_mem hlq)
  rcases spot_eq hm hc1 hs hd1 ht he with ⟨e1, e2⟩ | ⟨e1, e2⟩
  · subst e1 e2
    rw [zip_one nd h1 h2]
  · have tp : ToldAt C p l := by rw [ep] at hl ⊢; exact te_told hm hkC l hl
    have tq : ToldAt C q l := by rw [eq] at hlq ⊢; exact te_told hm hk2C l hlq
    have m1 := tp.mem s hs
    have n1 := tp.nb s hs
    have s1 := tp.side s hs
    have m2 := tq.mem s hs
    have n2 := tq.nb s hs
    have s2 := tq.side s hs
    rw [ec1, e1] at m1 n1
    rw [ec1, e2] at s1
    rw [ec2] at m2 n2 s2
    rw [hcd, n2] at n1
    rw [hcd, s2] at s1
    have hid : q.1.idxOf (nbC C c2 s) = p.1.idxOf d1 := by omega
    have hsd : nbS C c2 s = t := by omega
    have hx := zip_of hk hpq (List.idxOf_lt_length_of_mem m1)
    rw [getD_idxOf m1, ← hid, getD_idxOf m2] at hx
    have hd2 : d2 = nbC C c2 s := zip_one nd h2 hx
    rw [hd2, ← hsd]
    exact (spot_nb hm hc2 hs).symm
theorem plus_go {C : List Cr} {loops : Int} (hm : mayD C loops = true) {A B : List (List Nat × List Int)} (hA : ∀ p, p ∈ A → IsTe C p) (hB : ∀ p, p ∈ B → IsTe C p) (hk : A.map keyT = B.map keyT) {c1 c2 : Nat} (h1 : (c1, c2) ∈ (ords A).zip (ords B)) : (C.getD c2 Cr.none).plus = (C.getD c1 Cr.none).plus := by
  obtain ⟨p, q, l, hpq, hl, ec1, ec2⟩ := zip_at hk h1
  obtain ⟨hln, hcd⟩ := keyT_eq (zip_keys A B hk _ hpq)
  obtain ⟨k, hkC, ep⟩ := hA p (List.of_mem_zip hpq).1
  obtain ⟨k2, hk2C, eq⟩ := hB q (List.of_mem_zip hpq).2
  have hlq : l < q.1.length := by have : p.1.length = q.1.length := hln; omega
  have tp : ToldAt C p l := by rw [ep] at hl ⊢; exact te_told hm hkC l hl
  have tq : ToldAt C q l := by rw [eq] at hlq ⊢; exact te_told hm hk2C l hlq
  have g1 := tp.sg
  have g2 := tq.sg
  have hcd' : p.2 = q.2 := hcd
  rw [ec1, hcd'] at g1
  rw [ec2] at g2
  rw [g2] at g1
  cases h3 : (C.getD c1 Cr.none).plus <;> cases h4 : (C.getD c2 Cr.none).plus <;> simp_all
theorem can_same {C : List Cr} {loops : Int} (hm : mayD C loops = true) {A B : List (List Nat × List Int)} (hA : ∀ p, p ∈ A → IsTe C p) (hB : ∀ p, p ∈ B → IsTe C p) (hk : A.map keyT = B.map keyT) (ndA : (ords A).Nodup) (ndB : (ords B).Nodup) : canGo C [] (ords B) = canGo C [] (ords A) := by
  have hex : ∀ x : Nat, ∃ y : Nat, ∀ q, q ∈ (ords A).zip (ords B) → ∀ s, s < 4 → arcN (C.getD q.1 Cr.none) s = x → arcN (C.getD q.2 Cr.none) s = y := by
    intro x
    by_cases h : ∃ q s, q ∈ (ords A).zip (ords B) ∧ s < 4 ∧ arcN (C.getD q.1 Cr.none) s = x
    · obtain ⟨q, s, hq, hs, he⟩ := h
      exact ⟨arcN (C.getD q.2 Cr.none) s, fun q' hq' s' hs' he' => arcs_go hm hA hB hk ndA (c1 := q'.1) (c2 := q'.2) (d1 := q.1) (d2 := q.2) hq' hq hs' hs (he'.trans he.symm)⟩
    · exact ⟨0, fun q hq s hs he => absurd ⟨q, s, hq, hs, he⟩ h⟩
  obtain ⟨ρ, hρ⟩ := Classical.axiomOfChoice hex
  have hinj : ∀ x y, (∃ q s, q ∈ (ords A).zip (ords B) ∧ s < 4 ∧ arcN (C.getD q.1 Cr.none) s = x) → (∃ q s, q ∈ (ords A).zip (ords B) ∧ s < 4 ∧ arcN (C.getD q.1 Cr.none) s = y) → ρ x = ρ y → x = y := by
    rintro x y ⟨q, s, hq, hs, rfl⟩ ⟨r, t, hr, ht, rfl⟩ e
    rw [← hρ _ q hq s hs rfl, ← hρ _ r hr t ht rfl] at e
    exact arcs_go hm hB hA hk.symm ndB (c1 := q.2) (c2 := q.1) (d1 := r.2) (d2 := r.1) (zip_flip hq) (zip_flip hr) hs ht e
  exact canGo_map hinj (ords A) (ords B) [] (zip_ords A B hk).2 (fun z hz => by cases hz) (fun q hq => ⟨fun s hs => ⟨⟨q, s, hq, hs, rfl⟩, hρ _ q hq s hs rfl⟩, plus_go hm hA hB hk (c1 := q.1) (c2 := q.2) hq⟩)
end Go.Proofs.Ytagaajlbkfkaiaa
/- The canonical forms of canon.Canon and ref.CanonForm are one: mathematics. -/
namespace Go.Proofs.Ytagaajlbkfkaiaa

theorem sort_eq : ∀ (a b : List (List Int)), a.Perm b → a.Pairwise (fun x y => ¬lexC y x < 0) → b.Pairwise (fun x y => ¬lexC y x < 0) → a = b
  | [], b, h, _, _ => (List.Perm.nil_eq h)
  | x :: a, [], h, _, _ => by have := h.length_eq; simp at this
  | x :: a, y :: b, h, ha, hb => by
    have hx := List.pairwise_cons.1 ha
    have hy := List.pairwise_cons.1 hb
    have e : x = y := by
      rcases lexC_flip x y with g | g | g
      · have hm : x ∈ y :: b := h.subset (List.mem_cons_self)
        rcases List.mem_cons.1 hm with e | e
        · exact e
        · exact absurd g (hy.1 x e)
      · exact lexC_zero _ _ g
      · have hm : y ∈ x :: a := h.symm.subset (List.mem_cons_self)
        rcases List.mem_cons.1 hm with e | e
        · exact e.symm
        · exact absurd g (hx.1 y e)
    subst e
    rw [sort_eq a b (List.Perm.cons_inv h) hx.2 hy.2]
theorem sorted_keys {L : Nat → List Nat × List Int} {σ : List Nat} (h : SortedT L σ) : ((σ.map L).map keyT).Pairwise (fun x y => ¬lexC y x < 0) := by
  rw [List.map_map, List.pairwise_map]
  refine h.imp ?_
  intro x y hxy
  rw [cmpT_key] at hxy
  exact hxy
theorem perm_range {l : List Nat} {c : Nat} (hn : l.Nodup) (h : ∀ x, x ∈ l ↔ x < c) : l.Perm (List.range c) := by
  refine List.perm_iff_count.2 fun a => ?_
  by_cases ha : a < c
  · rw [List.Nodup.count hn, if_pos ((h a).2 ha), List.Nodup.count List.nodup_range, if_pos (List.mem_range.2 ha)]
  · rw [List.count_eq_zero_of_not_mem (fun e => ha ((h a).1 e)), List.count_eq_zero_of_not_mem (fun e => ha (List.mem_range.1 e))]
theorem mem_hdTo (V : List Nat) (p x : Nat) : x ∈ hdTo V p ↔ x < p ∧ V.getD x 0 = x := by
  induction p with
  | zero => simp [hdTo]
  | succ p ih =>
    rw [hdTo]
    split
    · rename_i e
      rw [List.mem_append, ih, List.mem_singleton]
      constructor
      · rintro (h | h)
        · exact ⟨by omega, h.2⟩
        · subst h; exact ⟨by omega, e⟩
      · rintro ⟨h1, h2⟩
        by_cases e2 : x = p
        · exact Or.inr e2
        · exact Or.inl ⟨by omega, h2⟩
    · rename_i e
      rw [ih]
      constructor
      · exact fun h => ⟨by omega, h.2⟩
      · rintro ⟨h1, h2⟩
        refine ⟨?_, h2⟩
        by_cases e2 : x = p
        · subst e2; exact absurd h2 e
        · omega
theorem hdTo_nodup (V : List Nat) (p : Nat) : (hdTo V p).Nodup := by
  induction p with
  | zero => exact List.nodup_nil
  | succ p ih =>
    rw [hdTo]
    split
    · refine List.nodup_append.2 ⟨ih, by simp, fun a ha b hb e => ?_⟩
      rw [List.mem_singleton.1 hb] at e
      rw [e] at ha
      have := ((mem_hdTo V p p).1 ha).1
      omega
    · exact ih
theorem leT_congr (C : List Cr) (P Q : List Int) (p q : Nat) : ∀ n, (∀ k, k < n → (P.getD k 0 = (p : Int) ↔ Q.getD k 0 = (q : Int))) → leT C P p n = leT C Q q n := by
  intro n
  induction n with
  | zero => intro _; rfl
  | succ n ih =>
    intro h
    rw [leT, leT, ih (fun k hk => h k (by omega))]
    have e := h n (by omega)
    by_cases h1 : P.getD n 0 = (p : Int)
    · have h2 := e.1 h1
      simp only [h1, h2, true_and]
    · have h2 : ¬Q.getD n 0 = (q : Int) := fun x => h1 (e.2 x)
      rw [if_neg (fun x => h1 x.1), if_neg (fun x => h2 x.1)]
theorem leT_is (C : List Cr) (P : List Int) (p : Nat) : ∀ n, (leT C P p n = ([], []) ∧ ∀ k, k < n → P.getD k 0 ≠ (p : Int)) ∨ ∃ k, k < n ∧ P.getD k 0 = (p : Int) ∧ leT C P p n = te C k := by
  intro n
  induction n with
  | zero => exact Or.inl ⟨rfl, fun k hk => absurd hk (Nat.not_lt_zero _)⟩
  | succ n ih =>
    rw [leT]
    by_cases h1 : P.getD n 0 = (p : Int)
    · by_cases h2 : (leT C P p n).1 = [] ∨ cmpT (te C n) (leT C P p n) < 0
      · rw [if_pos ⟨h1, h2⟩]; exact Or.inr ⟨n, by omega, h1, rfl⟩
      · rw [if_neg (fun x => h2 x.2)]
        rcases ih with ⟨a, b⟩ | ⟨k, a, b, c⟩
        · exact absurd (Or.inl (by rw [a])) h2
        · exact Or.inr ⟨k, by omega, b, c⟩
    · rw [if_neg (fun x => h1 x.1)]
      rcases ih with ⟨a, b⟩ | ⟨k, a, b, c⟩
      · refine Or.inl ⟨a, fun k hk => ?_⟩
        by_cases e : k = n
        · rw [e]; exact h1
        · exact b k (by omega)
      · exact Or.inr ⟨k, by omega, b, c⟩
theorem ords_perm {A B : List (List Nat × List Int)} (h : A.Perm B) : (ords A).Perm (ords B) := by
  unfold ords
  exact (h.map Prod.fst).flatten
/-- The pieces' tellings by both numberings of pieces. -/
theorem forms_one {C : List Cr} {loops : Int} (hm : mayD C loops = true) {P : List Int} {n : Nat} {σ V τ : List Nat} (hP : PcsAll C P n) (hσ : σ.Perm (List.range n)) (sσ : SortedT (fun p => leT C P p C.length) σ) (hV : Least (arcE C) C.length V) (hτ : τ.Perm (List.range (hdTo V C.length).length)) (sτ : SortedT (fun i => leT C (wI V) ((hdTo V C.length).getD i 0) C.length) τ) :
    canGo C [] ((σ.map fun p => (leT C P p C.length).1).flatten) = canGo C [] ((τ.map fun i => (leT C (wI V) ((hdTo V C.length).getD i 0) C.length).1).flatten) := by
  obtain ⟨Hs, hHs⟩ : ∃ Hs, hdTo V C.length = Hs := ⟨_, rfl⟩
  have hmem : ∀ x, x ∈ Hs ↔ x < C.length ∧ V.getD x 0 = x := fun x => by rw [← hHs]; exact mem_hdTo V _ x
  have hnd : Hs.Nodup := by rw [← hHs]; exact hdTo_nodup V _
  rw [hHs] at hτ sτ ⊢
  -- the number of a head's piece
  have hcls : ∀ h k, h ∈ Hs → k < C.length → (V.getD k 0 = h ↔ P.getD k 0 = P.getD h 0) := fun h k hh hk => by
    obtain ⟨h1, h2⟩ := (hmem h).1 hh
    rw [hP.same k h hk h1]
    have := hV.same hk h1
    rw [h2] at this
    exact this
  obtain ⟨ph, hph⟩ : ∃ ph : Nat → Nat, ph = fun h => (P.getD h 0).toNat := ⟨_, rfl⟩
  have hphv : ∀ h, h < C.length → P.getD h 0 = (ph h : Int) ∧ ph h < n := fun h hh => by
    have := hP.vals h hh
    rw [hph]
    simp only
    omega
  have hperm : (Hs.map ph).Perm (List.range n) := by
    refine perm_range ?_ fun p => ⟨fun hx => ?_, fun hx => ?_⟩
    · unfold List.Nodup
      rw [List.pairwise_map]
      refine List.Pairwise.imp_of_mem ?_ hnd
      intro h h' hh hh' hne e
      obtain ⟨a1, a2⟩ := (hmem h).1 hh
      obtain ⟨b1, b2⟩ := (hmem h').1 hh'
      have e2 := (hcls h' h hh' a1).2 (by rw [(hphv h a1).1, (hphv h' b1).1, e])
      exact hne (a2.symm.trans e2)
    · obtain ⟨h, hh, rfl⟩ := List.mem_map.1 hx
      exact (hphv h ((hmem h).1 hh).1).2
    · obtain ⟨v, hv, ev⟩ := hP.used p hx
      obtain ⟨c1, c2⟩ := hV.2 v hv
      have hle := c2 v (Con.refl _ _)
      have hlt : V.getD v 0 < C.length := by omega
      have e1 := (hV.same hv hlt).2 c1
      have e2 := (hP.same v _ hv hlt).2 c1
      refine List.mem_map.2 ⟨V.getD v 0, (hmem _).2 ⟨hlt, e1.symm⟩, ?_⟩
      have e3 := (hphv _ hlt).1
      rw [← e2, ev] at e3
      omega
  have hAB : (σ.map fun p => leT C P p C.length).Perm (τ.map fun i => leT C (wI V) (Hs.getD i 0) C.length) := by
    refine (hσ.map _).trans ((hperm.symm.map _).trans ?_)
    refine List.Perm.trans ?_ (hτ.symm.map _)
    have e1 : (Hs.map ph).map (fun p => leT C P p C.length) = Hs.map fun h => leT C (wI V) h C.length := by
      rw [List.map_map]
      refine List.map_congr_left fun h hh => ?_
      obtain ⟨a1, a2⟩ := (hmem h).1 hh
      refine leT_congr C P (wI V) (ph h) h C.length fun k hk => ?_
      rw [wI_at V k (by rw [hV.1]; exact hk), ← (hphv h a1).1]
      have := hcls h k hh hk
      rw [← this]
      exact ⟨fun e => by rw [e], fun e => by omega⟩
    have e2 : Hs = (List.range Hs.length).map fun i => Hs.getD i 0 := by
      apply List.ext_getElem?
      intro j
      by_cases hj : j < Hs.length
      · simp [hj, List.getD]
      · rw [List.getElem?_eq_none (by omega), List.getElem?_eq_none (by simp; omega)]
    rw [e1]
    have e3 : (Hs.map fun h => leT C (wI V) h C.length) = (List.range Hs.length).map fun i => leT C (wI V) (Hs.getD i 0) C.length := by
      conv => lhs; rw [e2]
      rw [List.map_map]
      rfl
    rw [e3]
  have hkeys := sort_eq _ _ (hAB.map keyT) (sorted_keys sσ) (sorted_keys sτ)
  have hte : ∀ p, p < n → ∃ k, k < C.length ∧ P.getD k 0 = (p : Int) ∧ leT C P p C.length = te C k := fun p hp => by
    rcases leT_is C P p C.length with ⟨_, b⟩ | h
    · obtain ⟨v, hv, ev⟩ := hP.used p hp
      exact absurd ev (b v hv)
    · exact h
  have hlt : ∀ p, p ∈ σ → p < n := fun p hp => List.mem_range.1 (hσ.subset hp)
  have hA : ∀ p, p ∈ (σ.map fun p => leT C P p C.length) → IsTe C p := fun p hp => by
    obtain ⟨q, hq, rfl⟩ := List.mem_map.1 hp
    obtain ⟨k, k1, -, k3⟩ := hte q (hlt q hq)
    exact ⟨k, k1, k3⟩
  have hB : ∀ p, p ∈ (τ.map fun i => leT C (wI V) (Hs.getD i 0) C.length) → IsTe C p := fun p hp => hA p (hAB.symm.subset hp)
  have hin : ∀ p, p < n → ∀ x, x ∈ (leT C P p C.length).1 → P.getD x 0 = (p : Int) := fun p hp x hx => by
    obtain ⟨k, k1, k2, k3⟩ := hte p hp
    rw [k3] at hx
    rw [← k2]
    exact ((hP.same k x k1 ((te_ok hm k1).lt x hx)).2 (te_con hm k1 x hx)).symm
  have hone : ∀ p, p < n → (leT C P p C.length).1.Nodup := fun p hp => by
    obtain ⟨k, k1, -, k3⟩ := hte p hp
    rw [k3]
    exact (te_ok hm k1).nd
  have hndl : ∀ l : List Nat, l.Nodup → (∀ p, p ∈ l → p < n) → (ords (l.map fun p => leT C P p C.length)).Nodup := by
    intro l
    induction l with
    | nil => intro _ _; exact List.nodup_nil
    | cons p l ih =>
      intro hl hp
      have hl' := List.nodup_cons.1 hl
      have e : ords ((p :: l).map fun p => leT C P p C.length) = (leT C P p C.length).1 ++ ords (l.map fun p => leT C P p C.length) := by simp [ords]
      rw [e]
      refine List.nodup_append.2 ⟨hone p (hp p (List.mem_cons_self)), ih hl'.2 (fun q hq => hp q (List.mem_cons_of_mem _ hq)), fun a ha b hb e2 => ?_⟩
      subst e2
      unfold ords at hb
      obtain ⟨o, ho, hao⟩ := List.mem_flatten.1 hb
      obtain ⟨t, ht, rfl⟩ := List.mem_map.1 ho
      obtain ⟨q, hq, rfl⟩ := List.mem_map.1 ht
      have h1 := hin p (hp p (List.mem_cons_self)) a ha
      have h2 := hin q (hp q (List.mem_cons_of_mem _ hq)) a hao
      have : p = q := by omega
      subst this
      exact hl'.1 hq
  have ndA := hndl σ (hσ.symm.nodup List.nodup_range) hlt
  have ndB := (ords_perm hAB).nodup ndA
  have h := can_same hm hA hB hkeys ndA ndB
  have o1 : ords (σ.map fun p => leT C P p C.length) = (σ.map fun p => (leT C P p C.length).1).flatten := by unfold ords; rw [List.map_map]; rfl
  have o2 : ords (τ.map fun i => leT C (wI V) (Hs.getD i 0) C.length) = (τ.map fun i => (leT C (wI V) (Hs.getD i 0) C.length).1).flatten := by unfold ords; rw [List.map_map]; rfl
  rw [o1, o2] at h
  exact h.symm
end Go.Proofs.Ytagaajlbkfkaiaa
/- Which piece ref.CanonForm takes next; which numbers its arcs have. -/
namespace Go.Proofs.Ytagaajlbkfkaiaa
open Go.RowKit

theorem cmpT_ntrans {p q r : List Nat × List Int} (h1 : ¬cmpT p q < 0) (h2 : ¬cmpT q r < 0) : ¬cmpT p r < 0 := by
  rw [cmpT_key] at *
  exact lexC_ntrans _ _ _ h1 h2
theorem cmpT_asymm {p q : List Nat × List Int} (h1 : cmpT p q < 0) : ¬cmpT q p < 0 := by
  rw [cmpT_key] at *
  intro h2
  have := lexC_trans _ _ _ h1 h2
  rw [lexC_self] at this
  exact absurd this (by decide)
/-- What is taken so far: in order, and none of the others is less. -/
structure PickS (L : Nat → List Nat × List Int) (m : Nat) (τ : List Nat) : Prop where
  nd : τ.Nodup
  lt : ∀ x, x ∈ τ → x < m
  srt : SortedT L τ
  rest : ∀ x, x ∈ τ → ∀ y, y < m → y ∉ τ → ¬cmpT (L y) (L x) < 0
theorem PickS.nil (L : Nat → List Nat × List Int) (m : Nat) : PickS L m [] := ⟨List.nodup_nil, (fun x h => by cases h), List.Pairwise.nil, (fun x h => by cases h)⟩
theorem PickS.next {L : Nat → List Nat × List Int} {m k : Nat} {τ : List Nat} (h : PickS L m τ) (hk : k < m) (hn : k ∉ τ) (hl : ∀ y, y < m → y ∉ τ → ¬cmpT (L y) (L k) < 0) : PickS L m (τ ++ [k]) := by
  refine ⟨List.nodup_append.2 ⟨h.nd, by simp, fun a ha b hb e => ?_⟩, fun x hx => ?_, ?_, fun x hx y hy hny => ?_⟩
  · rw [List.mem_singleton.1 hb] at e
    rw [e] at ha
    exact hn ha
  · rcases List.mem_append.1 hx with hx | hx
    · exact h.lt x hx
    · rw [List.mem_singleton.1 hx]; exact hk
  · unfold SortedT
    refine List.pairwise_append.2 ⟨h.srt, List.pairwise_singleton _ _, fun x hx y hy => ?_⟩
    rw [List.mem_singleton.1 hy]
    exact h.rest x hx k hk hn
  · have hny1 : y ∉ τ := fun e => hny (List.mem_append_left _ e)
    rcases List.mem_append.1 hx with hx | hx
    · exact h.rest x hx y hy hny1
    · rw [List.mem_singleton.1 hx]; exact hl y hy hny1
theorem PickS.few {L : Nat → List Nat × List Int} {m : Nat} {τ : List Nat} (h : PickS L m τ) : τ.length ≤ m := by
  have := List.Nodup.length_le_of_subset h.nd (l₂ := List.range m) (fun x hx => List.mem_range.2 (h.lt x hx))
  simpa using this
theorem PickS.free {L : Nat → List Nat × List Int} {m : Nat} {τ : List Nat} (_h : PickS L m τ) (hl : τ.length < m) : ∃ y, y < m ∧ y ∉ τ := by
  refine Classical.byContradiction fun hno => ?_
  have hsub : List.range m ⊆ τ := fun x hx => Classical.byContradiction fun hn => hno ⟨x, List.mem_range.1 hx, hn⟩
  have := List.Nodup.length_le_of_subset List.nodup_range hsub
  simp at this
  omega
/-- The arcs' numbers; 0: none yet. -/
def arF (F : List Nat) (x : Nat) : Int := if x ∈ F then (F.idxOf x : Int) + 1 else 0
theorem arF_new (n : Nat) (F : List Nat) (x : Nat) (hx : x ∉ F) : (mapI n (arF F)).set x ((F.length : Int) + 1) = mapI n (arF (F ++ [x])) := by
  refine mapI_set _ _ _ _ _ fun y _ => ?_
  unfold arF
  by_cases e : y = x
  · subst e
    rw [if_pos rfl, if_pos (by simp), List.idxOf_append, if_neg hx]
    simp
  · rw [if_neg e]
    by_cases h : y ∈ F
    · rw [if_pos h, if_pos (List.mem_append_left _ h), List.idxOf_append, if_pos h]
    · rw [if_neg h, if_neg (fun h2 => by rcases List.mem_append.1 h2 with h2 | h2; exact h h2; exact e (by simpa using h2))]
def mapB (m : Nat) (f : Nat → Bool) : List Bool := (List.range m).map f
theorem mapB_len (m : Nat) (f : Nat → Bool) : (mapB m f).length = m := by simp [mapB]
theorem mapB_set (m : Nat) (τ : List Nat) (k : Nat) : (mapB m fun i => decide (i ∈ τ)).set k true = mapB m fun i => decide (i ∈ τ ++ [k]) := by
  apply List.ext_getElem?
  intro j
  rw [List.getElem?_set]
  by_cases hj : j < m
  · simp only [mapB, List.getElem?_map, List.getElem?_range hj, Option.map_some, List.length_map, List.length_range]
    by_cases e : k = j
    · subst e; simp [hj]
    · rw [if_neg e]
      simp only [List.mem_append, List.mem_singleton]
      congr 1
      refine decide_eq_decide.2 ⟨Or.inl, fun h => h.elim id (fun h => absurd h.symm e)⟩
  · rw [List.getElem?_eq_none (by rw [mapB_len]; omega), List.getElem?_eq_none (by rw [mapB_len]; omega)]
    split
    · rw [if_neg (by rw [mapB_len]; omega)]
    · rfl
/-- Where ref.CanonForm stands while it numbers arcs: what was there before is as it was; the diagram under way, the arcs' numbers, what is taken. -/
structure StB (W3 : World) (n : Nat) (loops : Int) (gU m : Nat) (F τ : List Nat) (acc : List Cr) (v : Value) (W : World) : Prop where
  bel : Below W3.heap.size W3 W
  out : OutAt W (W3.heap.size + 1) W3.heap.size v loops acc
  arc : W.ownsRow (W3.heap.size + 1) 3 1 (.slice (some ⟨W3.heap.size + 1, 0, none⟩) (2 * n + 1) (2 * n + 1)) (2 * n + 1) (intsV (mapI (2 * n + 1) (arF F)))
  use : W.ownsRow (W3.heap.size + 1) 4 1 (.slice (some ⟨gU, 0, none⟩) m m) m (bools (mapB m fun i => decide (i ∈ τ)))
section
variable {W3 : World} {n : Nat} {loops : Int} {gU m : Nat} {F τ : List Nat} {acc : List Cr} {v : Value} {W : World}
theorem StB.any {W' : World} (h : StB W3 n loops gU m F τ acc v W) (hg : W.grownBy W' none) : StB W3 n loops gU m F τ acc v W' :=
  ⟨h.bel.grown hg h.bel.size (fun k hk => by cases hk), ⟨(hg.block _ (Array.getElem?_eq_some_iff.1 h.out.box).1 (by simp)).trans h.out.box, own_any h.out.row hg⟩, own_any h.arc hg, own_any h.use hg⟩
theorem StB.sz (h : StB W3 n loops gU m F τ acc v W) : W3.heap.size + 1 < W.heap.size ∧ gU < W.heap.size ∧ W3.heap.size + 1 ≤ gU ∧ gU ≠ W3.heap.size + 1 := by
  refine ⟨(h.arc.lt _ rfl).2, (h.use.lt _ rfl).2, (h.use.lt _ rfl).1, fun e => ?_⟩
  rcases own_ne h.use h.arc (by decide) with h1 | h1
  · cases h1
  · exact h1 (by rw [e]; rfl)
/-- One more is taken. -/
theorem StB.take {k : Nat} (h : StB W3 n loops gU m F τ acc v W) : StB W3 n loops gU m F (τ ++ [k]) acc v (W.setCell ⟨gU, k, none⟩ (.bool true)) := by
  obtain ⟨s1, s2, s3, s4⟩ := h.sz
  have hS := set_grown W gU k (.bool true)
  have hst := (h.use.stored k (.bool true)).1
  rw [bools_set, mapB_set] at hst
  refine ⟨h.bel.grown hS h.bel.size (fun q hq => by have := Option.some.inj hq; omega), ⟨(hS.block _ (by omega) (fun e => by have := Option.some.inj e; omega)).trans h.out.box, h.out.row.kept hS ?_⟩, h.arc.kept hS (Or.inr (fun e => s4 (Option.some.inj e).symm)), hst⟩
  exact own_ne h.out.row h.use (by decide)
/-- An arc gets its number. -/
theorem StB.num {x : Nat} (h : StB W3 n loops gU m F τ acc v W) (hx : x ∉ F) : StB W3 n loops gU m (F ++ [x]) τ acc v (W.setCell ⟨W3.heap.size + 1, x, none⟩ (.int .i64 ((F.length : Int) + 1))) := by
  obtain ⟨s1, s2, s3, s4⟩ := h.sz
  have hS := set_grown W (W3.heap.size + 1) x (.int .i64 ((F.length : Int) + 1))
  have hst := (h.arc.stored x (.int .i64 ((F.length : Int) + 1))).1
  rw [intsV_set, arF_new _ _ _ hx] at hst
  refine ⟨h.bel.grown hS h.bel.size (fun q hq => by have := Option.some.inj hq; omega), ⟨(hS.block _ (by omega) (fun e => by have := Option.some.inj e; omega)).trans h.out.box, h.out.row.kept hS (own_ne h.out.row h.arc (by decide))⟩, hst, h.use.kept hS (own_ne h.use h.arc (by decide))⟩
/-- Another row of numbers grows. -/
theorem StB.row {k : Nat} {u : Value} {xs : List Value} {W' : World} (h : StB W3 n loops gU m F τ acc v W) (ho : W.ownsRow (W3.heap.size + 2) 3 1 u k xs) (hg : W.grownBy W' u.ownBlock) : StB W3 n loops gU m F τ acc v W' := by
  obtain ⟨s1, s2, s3, s4⟩ := h.sz
  have hlow : ∀ q, q < W3.heap.size + 2 → some q ≠ u.ownBlock := fun q hq e => by have := (ho.lt q e.symm).1; omega
  exact ⟨h.bel.grown hg h.bel.size (fun q hq => by have := (ho.lt q hq).1; omega), ⟨(hg.block _ (by omega) (hlow _ (by omega))).trans h.out.box, h.out.row.kept hg (own_ne h.out.row ho (by decide))⟩, h.arc.kept hg (Or.inr (hlow (W3.heap.size + 1) (by omega))), h.use.kept hg (own_ne h.use ho (by decide))⟩
/-- A crossing more. -/
theorem StB.app {w8 : World} {v8 : Value} {x : Cr} {o : Obj} (h : StB W3 n loops gU m F τ acc v W) (hown8 : w8.ownsRow (W3.heap.size + 1) 71 5 v8 (acc.length + 1) (crossCells acc ++ crossCells [x])) (hg8 : (W.alloc o).grownBy w8 v.ownBlock) :
    StB W3 n loops gU m F τ (acc ++ [x]) v8 (w8.setCell ⟨W3.heap.size, 0, none⟩ v8) := by
  obtain ⟨s1, s2, s3, s4⟩ := h.sz
  have hS := set_grown w8 W3.heap.size 0 v8
  have hnone : W.grownBy (W.alloc o) none := World.grownBy_alloc _ _ _
  have hrow : ∀ {e s k : Nat} {u : Value} {xs : List Value}, W.ownsRow (W3.heap.size + 1) e s u k xs → e ≠ 71 → (w8.setCell ⟨W3.heap.size, 0, none⟩ v8).ownsRow (W3.heap.size + 1) e s u k xs := fun ho he => by
    have h1 := own_any ho hnone
    have h2 := h1.kept hg8 (own_ne h1 (own_any h.out.row hnone) he)
    exact h2.kept hS (Or.inr (fun e => by have := (h2.lt _ e).1; omega))
  exact ⟨h.out.below h.bel (by omega) h.bel.size (Nat.le_refl _) hg8, h.out.app (by omega) rfl hown8 hg8, hrow h.arc (by decide), hrow h.use (by decide)⟩
end
end Go.Proofs.Ytagaajlbkfkaiaa
