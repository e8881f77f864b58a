/- The walk of ref.SumOf where it answers. -/
import Derived.Test.YtnmgeegmiijflaaS6
import Derived.Test.YtnmgeegmiijflaaW11
import Derived.Deep.Cut
import Derived.Deep.RegionHeldLaw
import Derived.Deep.AppendLies
namespace Go.Proofs.Ytnmgeegmiijflaa
open Go.RowKit

set_option maxHeartbeats 16000000 in
set_option maxRecDepth 100000 in
theorem sumOf_ok (v1 v2 : Value) (C D : List Cr) (l1 l2 x y : Int) (w : World) (h1 : Crs w w.heap.size v1 C) (h2 : Crs w w.heap.size v2 D) (s1 : C.length ≤ 16) (s2 : D.length ≤ 16) (p1 : 0 ≤ l1 ∧ l1 ≤ 16) (p2 : 0 ≤ l2 ∧ l2 ≤ 16) (h1x : 1 ≤ x) (hx : x ≤ 2 * (C.length : Int)) (h1y : 1 ≤ y) (hy : y ≤ 2 * (D.length : Int)) (hn : C.length + D.length ≤ 16) (hl : l1 + l2 ≤ 16) (hA : ∀ i k, i < C.length → k < 4 → -1000 ≤ (C.getD i Cr.none).arc k ∧ (C.getD i Cr.none).arc k ≤ 1000) (hA' : ∀ i k, i < D.length → k < 4 → -1000 ≤ (D.getD i Cr.none).arc k ∧ (D.getD i Cr.none).arc k ≤ 1000) :
    Calls Try.prog 43 #[.agg #[v1, .int .i64 l1], .int .i64 x, .agg #[v2, .int .i64 l2], .int .i64 y] w fun e w' => ∃ r, e = .returned (.tuple #[.agg #[r, .int .i64 (l1 + l2)], .int .i64 0]) ∧ Crs w' w'.heap.size r (tieC C D x y) ∧ Below w.heap.size w w' := by
  have HC : Hid (Crs w w.heap.size v1 C) := h1
  have HD : Hid (Crs w w.heap.size v2 D) := h2
  obtain ⟨a, cap, rfl⟩ := slice_Crs' h1
  obtain ⟨a', cap', rfl⟩ := slice_Crs' h2
  clear h1 h2
  obtain ⟨w0, hw0⟩ : ∃ w0, w0 = ((w.alloc (.cells #[.slice a C.length cap, .int .i64 l1] 24)).alloc (.cells #[.slice a' D.length cap', .int .i64 l2] 24)).alloc (.cells #[.slice none 0 0, .int .i64 0] 24) := ⟨_, rfl⟩
  have HW0 : Hid (w0 = ((w.alloc (.cells #[.slice a C.length cap, .int .i64 l1] 24)).alloc (.cells #[.slice a' D.length cap', .int .i64 l2] 24)).alloc (.cells #[.slice none 0 0, .int .i64 0] 24)) := hw0
  have hs0 : w0.heap.size = w.heap.size + 3 := by rw [hw0]; simp
  have HB0 : Hid (Below w.heap.size w w0) := (by rw [hw0]; exact below3 _ _ _ _ : Below w.heap.size w w0)
  have HT0 : Hid (w0.heap[w.heap.size]? = some (.cells #[.slice a C.length cap, .int .i64 l1] 24 (0, 0))) := (by rw [hw0]; exact alloc_old (alloc_old (alloc_at rfl)) : w0.heap[w.heap.size]? = some (.cells #[.slice a C.length cap, .int .i64 l1] 24 (0, 0)))
  have HT1 : Hid (w0.heap[w.heap.size + 1]? = some (.cells #[.slice a' D.length cap', .int .i64 l2] 24 (0, 0))) := (by rw [hw0]; exact alloc_old (alloc_at (by simp)) : w0.heap[w.heap.size + 1]? = some (.cells #[.slice a' D.length cap', .int .i64 l2] 24 (0, 0)))
  have HT2 : Hid (w0.heap[w.heap.size + 1 + 1]? = some (.cells #[.slice none 0 0, .int .i64 0] 24 (0, 0))) := (by rw [hw0]; exact alloc_at (by simp) : w0.heap[w.heap.size + 1 + 1]? = some (.cells #[.slice none 0 0, .int .i64 0] 24 (0, 0)))
  clear hw0
  have a0 : w0.cell? ⟨w.heap.size, 0, none⟩ = some (.slice a C.length cap) := block_cell HT0.out rfl
  have b0 : w0.cell? ⟨w.heap.size + 1, 0, none⟩ = some (.slice a' D.length cap') := block_cell HT1.out rfl
  have la : w.heap.size < w0.heap.size := by omega
  have lb : w.heap.size + 1 < w0.heap.size := by omega
  have q1 : IntKind.i64.wrap (2 * (C.length : Int)) = 2 * (C.length : Int) := IntWalk.i64_in _ (by omega)
  have q2 : IntKind.i64.wrap (2 * (D.length : Int)) = 2 * (D.length : Int) := IntWalk.i64_in _ (by omega)
  have q3 : IntKind.i64.wrap ((C.length : Int) + (D.length : Int)) = (C.length : Int) + (D.length : Int) := IntWalk.i64_in _ (by omega)
  have q4 : IntKind.i64.wrap (l1 + l2) = l1 + l2 := IntWalk.i64_in _ (by omega)
  have x1 : decide (x < 1) = false := by simp; omega
  have x2 : decide (2 * (C.length : Int) < x) = false := by simp; omega
  have y1 : decide (y < 1) = false := by simp; omega
  have y2 : decide (2 * (D.length : Int) < y) = false := by simp; omega
  have n1 : decide (16 < (C.length : Int) + (D.length : Int)) = false := by simp; omega
  have n2 : decide (16 < l1 + l2) = false := by simp; omega
  obtain ⟨i0, hi, hz0, hz1, hz2⟩ := info_parts infoCross
  obtain ⟨j0, hj, hy0, hy1, hy2⟩ := info_parts infoInt
  have HAC : Hid (∀ i k, i < C.length → k < 4 → -1000 ≤ (C.getD i Cr.none).arc k ∧ (C.getD i Cr.none).arc k ≤ 1000) := hA
  have HAD : Hid (∀ i k, i < D.length → k < 4 → -1000 ≤ (D.getD i Cr.none).arc k ∧ (D.getD i Cr.none).arc k ≤ 1000) := hA'
  clear hA hA'
  have q5 : IntKind.i64.wrap (y + 2 * (C.length : Int)) = y + 2 * (C.length : Int) := IntWalk.i64_in _ (by omega)
  go_enter Try.func43, Try.ntmps43
  go_wp2
  rw [← HW0.out]
  go_quiet (fail)
  have hbq : Below w0.heap.size w0 (w0.drewN nq) := below_drewN (Below.refl _ _) _
  clear a0 b0 la lb
  generalize w0.drewN nq = w1 at hbq ⊢
  have hs1 := hbq.size
  have HB1 : Hid (Below w.heap.size w w1) := HB0.out.trans (hbq.mono HB0.out.size)
  have HA1 : Hid (w1.heap[w.heap.size]? = some (.cells #[.slice a C.length cap, .int .i64 l1] 24 (0, 0))) := (hbq.block _ (by omega)).trans HT0.out
  have HD1 : Hid (w1.heap[w.heap.size + 1]? = some (.cells #[.slice a' D.length cap', .int .i64 l2] 24 (0, 0))) := (hbq.block _ (by omega)).trans HT1.out
  have HR1 : Hid (w1.heap[w.heap.size + 1 + 1]? = some (.cells #[.slice none 0 0, .int .i64 0] 24 (0, 0))) := (hbq.block _ (by omega)).trans HT2.out
  clear hbq
  have a0 : w1.cell? ⟨w.heap.size, 0, none⟩ = some (.slice a C.length cap) := block_cell HA1.out rfl
  have a1 : w1.cell? ⟨w.heap.size, 1, none⟩ = some (.int .i64 l1) := block_cell HA1.out rfl
  have b0 : w1.cell? ⟨w.heap.size + 1, 0, none⟩ = some (.slice a' D.length cap') := block_cell HD1.out rfl
  have b1 : w1.cell? ⟨w.heap.size + 1, 1, none⟩ = some (.int .i64 l2) := block_cell HD1.out rfl
  have r0 : w1.cell? ⟨w.heap.size + 1 + 1, 0, none⟩ = some (.slice none 0 0) := block_cell HR1.out rfl
  have r1 : w1.cell? ⟨w.heap.size + 1 + 1, 1, none⟩ = some (.int .i64 0) := block_cell HR1.out rfl
  have f0 : w1.frozen? ⟨w.heap.size + 1 + 1, 0, none⟩ = false := block_frozen HR1.out
  have f1 : w1.frozen? ⟨w.heap.size + 1 + 1, 1, none⟩ = false := block_frozen HR1.out
  have l0 : w.heap.size + 1 + 1 < w1.heap.size := by omega
  have la : w.heap.size < w1.heap.size := by omega
  have lb : w.heap.size + 1 < w1.heap.size := by omega
  obtain ⟨w2, hw2⟩ : ∃ w2, w2 = w1.alloc (.cells #[.slice none 0 0, .int .i64 (l1 + l2)] 24) := ⟨_, rfl⟩
  have HW2 : Hid (w2 = w1.alloc (.cells #[.slice none 0 0, .int .i64 (l1 + l2)] 24)) := hw2
  have hs2 : w2.heap.size = w1.heap.size + 1 := by rw [hw2]; simp
  have HB2 : Hid (Below w.heap.size w w2) := (by rw [hw2]; exact HB1.out.alloc HB1.out.size _ : Below w.heap.size w w2)
  have HG2 : Hid (w2.heap[w1.heap.size]? = some (.cells #[.slice none 0 0, .int .i64 (l1 + l2)] 24 (0, 0))) := (by rw [hw2]; exact alloc_at rfl : w2.heap[w1.heap.size]? = some (.cells #[.slice none 0 0, .int .i64 (l1 + l2)] 24 (0, 0)))
  have HX2 : Hid (w2.heap[w.heap.size]? = some (.cells #[.slice a C.length cap, .int .i64 l1] 24 (0, 0)) ∧ w2.heap[w.heap.size + 1]? = some (.cells #[.slice a' D.length cap', .int .i64 l2] 24 (0, 0)) ∧ w2.heap[w.heap.size + 1 + 1]? = some (.cells #[.slice none 0 0, .int .i64 0] 24 (0, 0))) := (by rw [hw2]; exact ⟨alloc_old HA1.out, alloc_old HD1.out, alloc_old HR1.out⟩ : (w2.heap[w.heap.size]? = some (.cells #[.slice a C.length cap, .int .i64 l1] 24 (0, 0)) ∧ w2.heap[w.heap.size + 1]? = some (.cells #[.slice a' D.length cap', .int .i64 l2] 24 (0, 0)) ∧ w2.heap[w.heap.size + 1 + 1]? = some (.cells #[.slice none 0 0, .int .i64 0] 24 (0, 0))))
  clear hw2
  go_wp2
  rw [← HW2.out]
  clear a0 a1 b0 b1 r0 r1 f0 f1 l0 la lb x1 x2 y1 y2 n1 n2
  go_loopw [13] (fun v13 wr => ∃ (i : Nat) (v3 : Value) (acc : List Cr), i ≤ C.length + D.length ∧ v13 = .int .i64 (i : Nat) ∧ Hid (acc.length = i) ∧ Hid (acc = (tieC C D x y).take i) ∧ OutAt wr (w1.heap.size + 1) (w1.heap.size) v3 (l1 + l2) acc ∧ Hid (wr.heap[w.heap.size]? = some (.cells #[.slice a C.length cap, .int .i64 l1] 24 (0, 0)) ∧ wr.heap[w.heap.size + 1]? = some (.cells #[.slice a' D.length cap', .int .i64 l2] 24 (0, 0)) ∧ wr.heap[w.heap.size + 1 + 1]? = some (.cells #[.slice none 0 0, .int .i64 0] 24 (0, 0))) ∧ w2.heap.size ≤ wr.heap.size ∧ Below w.heap.size w wr) (fun v13 _ => C.length + D.length - (intOf v13).toNat)
  case atStart => exact ⟨0, .slice none 0 0, [], Nat.zero_le _, rfl, (rfl : ([] : List Cr).length = 0), (by simp : [] = (tieC C D x y).take 0), OutAt.nil HG2.out, HX2.out, Nat.le_refl _, HB2.out⟩
  case round =>
    rename World => W1
    obtain ⟨i, v3, acc, hin, rfl, hal, hacc, hout, hbx, hszW, hb⟩ := hrel
    have hal32 : acc.length ≤ 16 := by have := hal.out; omega
    have HOUT : Hid (OutAt W1 (w1.heap.size + 1) (w1.heap.size) v3 (l1 + l2) acc) := hout
    clear hout
    by_cases hil : i < C.length + D.length
    · have hdi : decide ((i : Int) < (C.length : Int) + (D.length : Int)) = true := by simp; omega
      have a0 : W1.cell? ⟨w.heap.size, 0, none⟩ = some (.slice a C.length cap) := block_cell hbx.out.1 rfl
      have a1 : W1.cell? ⟨w.heap.size, 1, none⟩ = some (.int .i64 l1) := block_cell hbx.out.1 rfl
      have b0 : W1.cell? ⟨w.heap.size + 1, 0, none⟩ = some (.slice a' D.length cap') := block_cell hbx.out.2.1 rfl
      have b1 : W1.cell? ⟨w.heap.size + 1, 1, none⟩ = some (.int .i64 l2) := block_cell hbx.out.2.1 rfl
      have la : w.heap.size < W1.heap.size := by omega
      have lb : w.heap.size + 1 < W1.heap.size := by omega
      have hit : i < (tieC C D x y).length := by simp [tieC]; omega
      have HNX : Hid ((tieC C D x y).take (i + 1) = (tieC C D x y).take i ++ [(tieC C D x y).getD i Cr.none]) := (by
        rw [List.take_add_one, List.getD_eq_getElem?_getD, List.getElem?_eq_getElem hit]
        rfl : (tieC C D x y).take (i + 1) = (tieC C D x y).take i ++ [(tieC C D x y).getD i Cr.none])
      clear hit
      by_cases hic : i < C.length
      · have hg : decide ((C.length : Int) ≤ (i : Int)) = false := by simp; omega
        have hlt : decide ((i : Int) < (C.length : Int)) = true := by simp; omega
        have hat : i < C.length := hic
        have hgN : decide (C.length ≤ i) = false := by simp; omega
        have HGET : Hid ((tieC C D x y).getD i Cr.none = tieX (0 : Int) x (y + 2 * (C.length : Int)) (C.getD i Cr.none)) := (by simp [tieC, List.getD_eq_getElem?_getD, List.getElem?_append_left, hat] : (tieC C D x y).getD i Cr.none = tieX 0 x (y + 2 * (C.length : Int)) (C.getD i Cr.none))
        have HRG : Hid (∀ k, k < 4 → -1000 ≤ (C.getD i Cr.none).arc k ∧ (C.getD i Cr.none).arc k ≤ 1000) := fun k hk => HAC.out i k hat hk
        obtain ⟨b, off, ea, hbq, hC⟩ := crs_some HC.out (by omega)
        subst ea
        have HCW : Hid (CrossAt W1 b off C) := hC.on hb hbq
        clear hC
        obtain ⟨a3, c3', ev3⟩ := own_capS HOUT.out.row
        subst ev3
        obtain ⟨Y, hY⟩ : ∃ Y, Y = W1.alloc (.cells #[.slice (some ⟨b, off, none⟩) C.length cap, .int .i64 l1] 24) := ⟨_, rfl⟩
        have HY : Hid (Y = W1.alloc (.cells #[.slice (some ⟨b, off, none⟩) C.length cap, .int .i64 l1] 24)) := hY
        have hsY : Y.heap.size = W1.heap.size + 1 := by rw [hY]; simp
        have HBY : Hid (Below W1.heap.size W1 Y) := (by rw [hY]; exact (Below.refl _ _).alloc (Nat.le_refl _) _ : Below W1.heap.size W1 Y)
        have HTY : Hid (Y.heap[W1.heap.size]? = some (.cells #[.slice (some ⟨b, off, none⟩) C.length cap, .int .i64 l1] 24 (0, 0))) := (by rw [hY]; exact alloc_at rfl : Y.heap[W1.heap.size]? = some (.cells #[.slice (some ⟨b, off, none⟩) C.length cap, .int .i64 l1] 24 (0, 0)))
        clear hY
        have HCY : Hid (CrossAt Y b off C) := HCW.out.on HBY.out (by omega)
        have HOY : Hid (OutAt Y (w1.heap.size + 1) (w1.heap.size) (.slice a3 acc.length c3') (l1 + l2) acc) := HOUT.out.on HBY.out
        go_wp2
        rw [← HY.out]
        try rw [hgN]
        clear a0 a1 b0 b1
        obtain ⟨X, hX⟩ : ∃ X, C.getD i Cr.none = X := ⟨_, rfl⟩
        have HXX : Hid (C.getD i Cr.none = X) := hX
        rw [hX] at HGET HRG
        clear hX
        obtain ⟨f, hf⟩ : ∃ f : Nat → Int, f = tnum X (0 : Int) x (y + 2 * (C.length : Int)) := ⟨_, rfl⟩
        have HF : Hid (f = tnum X (0 : Int) x (y + 2 * (C.length : Int))) := hf
        clear hf
        go_loopw [17, 18] (fun v17 v18 wr => ∃ (k : Nat), k ≤ 4 ∧ v18 = .int .i64 (k : Nat) ∧ wr.ownsRow Y.heap.size 3 1 v17 k (intsV ((List.range k).map f)) ∧ Below Y.heap.size Y wr) (fun _ v18 _ => 4 - (intOf v18).toNat)
        case atStart => exact ⟨0, Nat.zero_le _, rfl, World.ownsRow_nil _ _ _ _, Below.refl _ _⟩
        case round =>
          rename World => W3
          obtain ⟨k, hk4, rfl, hrow, hb3⟩ := hrel
          have hs3 := hb3.size
          have HROW : Hid (W3.ownsRow Y.heap.size 3 1 _ k (intsV ((List.range k).map f))) := hrow
          obtain ⟨a2, c2, ev2⟩ := own_capS hrow
          clear hrow
          subst ev2
          have HT3 : Hid (W3.heap[W1.heap.size]? = some (.cells #[.slice (some ⟨b, off, none⟩) C.length cap, .int .i64 l1] 24 (0, 0))) := (hb3.block _ (by omega)).trans HTY.out
          have HC3 : Hid (CrossAt W3 b off C) := HCY.out.on hb3 (by omega)
          by_cases hk : k < 4
          · have hdk : decide ((k : Int) < 4) = true := by simp; omega
            have d0 : W3.cell? ⟨W1.heap.size, 0, none⟩ = some (.slice (some ⟨b, off, none⟩) C.length cap) := block_cell HT3.out rfl
            have d1 : W3.cell? ⟨W1.heap.size, 1, none⟩ = some (.int .i64 l1) := block_cell HT3.out rfl
            have ld : W1.heap.size < W3.heap.size := by omega
            obtain ⟨z, hz⟩ : ∃ z, X.arc k = z := ⟨_, rfl⟩
            have hzr := HRG.out k hk
            rw [hz] at hzr
            have hwz : IntKind.i64.wrap z = z := IntWalk.i64_in _ (by omega)
            have HZ : Hid (X.arc k = z) := hz
            have HFK : Hid (f k = if z = x ∧ X.comes k = true then (y + 2 * (C.length : Int)) else z + (0 : Int)) := (by rw [HF.out]; unfold tnum; rw [hz] : f k = if z = x ∧ X.comes k = true then (y + 2 * (C.length : Int)) else z + (0 : Int))
            clear hz
            cases hcm : X.comes k with
            | true =>
              by_cases hzc : z = x
              · have hd : (z == x) = true := by simp; omega
                have HU : Hid (f k = (y + 2 * (C.length : Int))) := (by rw [HFK.out, if_pos ⟨hzc, hcm⟩] : f k = (y + 2 * (C.length : Int)))
                go_wp2_with (go_at_call 50; refine (arcAt_any b off cap l1 C i k _ hat hk (by omega) HC3.out).mono ?_; rw [HXX.out, HZ.out]; rintro e9 w4 ⟨rfl, hb4⟩; refine Hid.out ?_)
                refine Lib.hid ?_
                have hs4 := hb4.size
                have HC4 : Hid (CrossAt w4 b off C) := HC3.out.on hb4 (by omega)
                have HT4 : Hid (w4.heap[W1.heap.size]? = some (.cells #[.slice (some ⟨b, off, none⟩) C.length cap, .int .i64 l1] 24 (0, 0))) := (hb4.block _ (by omega)).trans HT3.out
                have HB4 : Hid (Below Y.heap.size Y w4) := hb3.trans (hb4.mono hs3)
                have HR4 : Hid (w4.ownsRow Y.heap.size 3 1 (.slice a2 k c2) k (intsV ((List.range k).map f))) := own_any HROW.out (grown_below hb4 none)
                clear hb4 d0 d1 ld
                have d0 : w4.cell? ⟨W1.heap.size, 0, none⟩ = some (.slice (some ⟨b, off, none⟩) C.length cap) := block_cell HT4.out rfl
                have d1 : w4.cell? ⟨W1.heap.size, 1, none⟩ = some (.int .i64 l1) := block_cell HT4.out rfl
                have ld : W1.heap.size < w4.heap.size := by omega
                go_wp2_with (go_at_call 51; refine (entry_any b off cap l1 C i k _ hat hk (by omega) HC4.out).mono ?_; rw [HXX.out, hcm]; rintro e9 w5 ⟨rfl, hb5⟩; refine Hid.out ?_)
                refine Lib.hid ?_
                have hs5 := hb5.size
                have HB5 : Hid (Below Y.heap.size Y w5) := HB4.out.trans (hb5.mono (by omega))
                have HR5 : Hid (w5.ownsRow Y.heap.size 3 1 (.slice a2 k c2) k (intsV ((List.range k).map f))) := own_any HR4.out (grown_below hb5 none)
                clear hb5 d0 d1 ld
                go_wp2_with (first
                  | (at_builtin; refine wpList_append_own _ rfl _ _ 44 rfl Y.heap.size 3 j0 (.int .i64 0) 1 8 Try.underlying44 hj hy0 hy1 hy2 rfl (by decide) _ _ _ rfl (HR5.out.alloc _) ⟨w5.heap.size, 0, none⟩ 1 1 [.int .i64 (y + 2 * (C.length : Int))] rfl rfl (new_cell1 _ _ _) (int_one _) (by unfold maxLen; omega) (by omega) (by simp; omega) ?_; intro v8 w8 hown8 hg8 _; go_frame))
                go_roundw
                case rel =>
                  have hR := HR5.out.alloc (.cells #[.int .i64 (y + 2 * (C.length : Int))] 3)
                  refine ⟨k + 1, by omega, by go_num, ?_, (HB5.out.alloc (by omega) _).grown hg8 (by simp; omega) (fun q hq => (hR.lt q hq).1)⟩
                  have e1 : (List.range (k + 1)).map f = (List.range k).map f ++ [(y + 2 * (C.length : Int))] := by rw [List.range_succ, List.map_append, ← HU.out]; rfl
                  rw [e1, intsV_app]
                  exact hown8
                case measure => simp only [intOf]; omega
              · have hd : (z == x) = false := by simp; omega
                have HU : Hid (f k = z) := (by rw [HFK.out, if_neg (fun h => hzc h.1)]; simp : f k = z)
                go_wp2_with (go_at_call 50; refine (arcAt_any b off cap l1 C i k _ hat hk (by omega) HC3.out).mono ?_; rw [HXX.out, HZ.out]; rintro e9 w4 ⟨rfl, hb4⟩; refine Hid.out ?_)
                refine Lib.hid ?_
                have hs4 := hb4.size
                have HC4 : Hid (CrossAt w4 b off C) := HC3.out.on hb4 (by omega)
                have HT4 : Hid (w4.heap[W1.heap.size]? = some (.cells #[.slice (some ⟨b, off, none⟩) C.length cap, .int .i64 l1] 24 (0, 0))) := (hb4.block _ (by omega)).trans HT3.out
                have HB4 : Hid (Below Y.heap.size Y w4) := hb3.trans (hb4.mono hs3)
                have HR4 : Hid (w4.ownsRow Y.heap.size 3 1 (.slice a2 k c2) k (intsV ((List.range k).map f))) := own_any HROW.out (grown_below hb4 none)
                clear hb4 d0 d1 ld
                have d0 : w4.cell? ⟨W1.heap.size, 0, none⟩ = some (.slice (some ⟨b, off, none⟩) C.length cap) := block_cell HT4.out rfl
                have d1 : w4.cell? ⟨W1.heap.size, 1, none⟩ = some (.int .i64 l1) := block_cell HT4.out rfl
                have ld : W1.heap.size < w4.heap.size := by omega
                go_wp2_with (go_at_call 51; refine (entry_any b off cap l1 C i k _ hat hk (by omega) HC4.out).mono ?_; rw [HXX.out, hcm]; rintro e9 w5 ⟨rfl, hb5⟩; refine Hid.out ?_)
                refine Lib.hid ?_
                have hs5 := hb5.size
                have HB5 : Hid (Below Y.heap.size Y w5) := HB4.out.trans (hb5.mono (by omega))
                have HR5 : Hid (w5.ownsRow Y.heap.size 3 1 (.slice a2 k c2) k (intsV ((List.range k).map f))) := own_any HR4.out (grown_below hb5 none)
                clear hb5 d0 d1 ld
                go_wp2_with (first
                  | (at_builtin; refine wpList_append_own _ rfl _ _ 44 rfl Y.heap.size 3 j0 (.int .i64 0) 1 8 Try.underlying44 hj hy0 hy1 hy2 rfl (by decide) _ _ _ rfl (HR5.out.alloc _) ⟨w5.heap.size, 0, none⟩ 1 1 [.int .i64 z] rfl rfl (new_cell1 _ _ _) (int_one _) (by unfold maxLen; omega) (by omega) (by simp; omega) ?_; intro v8 w8 hown8 hg8 _; go_frame))
                go_roundw
                case rel =>
                  have hR := HR5.out.alloc (.cells #[.int .i64 z] 3)
                  refine ⟨k + 1, by omega, by go_num, ?_, (HB5.out.alloc (by omega) _).grown hg8 (by simp; omega) (fun q hq => (hR.lt q hq).1)⟩
                  have e1 : (List.range (k + 1)).map f = (List.range k).map f ++ [z] := by rw [List.range_succ, List.map_append, ← HU.out]; rfl
                  rw [e1, intsV_app]
                  exact hown8
                case measure => simp only [intOf]; omega
            | false =>
              have HU : Hid (f k = z) := (by rw [HFK.out, if_neg (fun h => by rw [hcm] at h; cases h.2)]; simp : f k = z)
              go_wp2_with (go_at_call 50; refine (arcAt_any b off cap l1 C i k _ hat hk (by omega) HC3.out).mono ?_; rw [HXX.out, HZ.out]; rintro e9 w4 ⟨rfl, hb4⟩; refine Hid.out ?_)
              refine Lib.hid ?_
              have hs4 := hb4.size
              have HC4 : Hid (CrossAt w4 b off C) := HC3.out.on hb4 (by omega)
              have HT4 : Hid (w4.heap[W1.heap.size]? = some (.cells #[.slice (some ⟨b, off, none⟩) C.length cap, .int .i64 l1] 24 (0, 0))) := (hb4.block _ (by omega)).trans HT3.out
              have HB4 : Hid (Below Y.heap.size Y w4) := hb3.trans (hb4.mono hs3)
              have HR4 : Hid (w4.ownsRow Y.heap.size 3 1 (.slice a2 k c2) k (intsV ((List.range k).map f))) := own_any HROW.out (grown_below hb4 none)
              clear hb4 d0 d1 ld
              have d0 : w4.cell? ⟨W1.heap.size, 0, none⟩ = some (.slice (some ⟨b, off, none⟩) C.length cap) := block_cell HT4.out rfl
              have d1 : w4.cell? ⟨W1.heap.size, 1, none⟩ = some (.int .i64 l1) := block_cell HT4.out rfl
              have ld : W1.heap.size < w4.heap.size := by omega
              go_wp2_with (go_at_call 51; refine (entry_any b off cap l1 C i k _ hat hk (by omega) HC4.out).mono ?_; rw [HXX.out, hcm]; rintro e9 w5 ⟨rfl, hb5⟩; refine Hid.out ?_)
              refine Lib.hid ?_
              have hs5 := hb5.size
              have HB5 : Hid (Below Y.heap.size Y w5) := HB4.out.trans (hb5.mono (by omega))
              have HR5 : Hid (w5.ownsRow Y.heap.size 3 1 (.slice a2 k c2) k (intsV ((List.range k).map f))) := own_any HR4.out (grown_below hb5 none)
              clear hb5 d0 d1 ld
              go_wp2_with (first
                | (at_builtin; refine wpList_append_own _ rfl _ _ 44 rfl Y.heap.size 3 j0 (.int .i64 0) 1 8 Try.underlying44 hj hy0 hy1 hy2 rfl (by decide) _ _ _ rfl (HR5.out.alloc _) ⟨w5.heap.size, 0, none⟩ 1 1 [.int .i64 z] rfl rfl (new_cell1 _ _ _) (int_one _) (by unfold maxLen; omega) (by omega) (by simp; omega) ?_; intro v8 w8 hown8 hg8 _; go_frame))
              go_roundw
              case rel =>
                have hR := HR5.out.alloc (.cells #[.int .i64 z] 3)
                refine ⟨k + 1, by omega, by go_num, ?_, (HB5.out.alloc (by omega) _).grown hg8 (by simp; omega) (fun q hq => (hR.lt q hq).1)⟩
                have e1 : (List.range (k + 1)).map f = (List.range k).map f ++ [z] := by rw [List.range_succ, List.map_append, ← HU.out]; rfl
                rw [e1, intsV_app]
                exact hown8
              case measure => simp only [intOf]; omega
          · obtain rfl : k = 4 := by omega
            obtain ⟨a9, c9, ev9, hsl⟩ := slots_of_own HROW.out
            have hl4 : (intsV ((List.range 4).map f)).length = 4 := by simp [intsV_len]
            rw [hl4] at ev9 hsl
            obtain ⟨br, orr, ea9, hbr, hcell⟩ := hsl (by omega)
            subst ea9
            injection ev9 with e91 e92 e93
            subst e91
            have k0 : W3.cell? ⟨br, orr, none⟩ = some (.int .i64 (f 0)) := hcell 0 (by omega)
            have k1 : W3.cell? ⟨br, orr + 1, none⟩ = some (.int .i64 (f 1)) := hcell 1 (by omega)
            have k2 : W3.cell? ⟨br, orr + 2, none⟩ = some (.int .i64 (f 2)) := hcell 2 (by omega)
            have k3 : W3.cell? ⟨br, orr + 3, none⟩ = some (.int .i64 (f 3)) := hcell 3 (by omega)
            have d0 : W3.cell? ⟨W1.heap.size, 0, none⟩ = some (.slice (some ⟨b, off, none⟩) C.length cap) := block_cell HT3.out rfl
            have ld : W1.heap.size < W3.heap.size := by omega
            have hp9 : W3.cell? ⟨b, off + i * 5 + 4, none⟩ = some (.bool X.plus) := (by rw [← HXX.out]; exact (HC3.out i hat).2.2.2.2)
            have hatN : decide (i < C.length) = true := by simp; omega
            have hatI : decide ((i : Int) < (C.length : Int)) = true := by simp; omega
            have lb9 : b < W3.heap.size := by omega
            have HO3 : Hid (OutAt W3 (w1.heap.size + 1) (w1.heap.size) (.slice a3 acc.length c3') (l1 + l2) acc) := HOY.out.on hb3
            have HOD : Hid (OutAt W3.drew (w1.heap.size + 1) (w1.heap.size) (.slice a3 acc.length c3') (l1 + l2) acc) := HO3.out.on (Below.refl _ _).drew
            have t0 : W3.cell? ⟨w1.heap.size, 0, none⟩ = some (.slice a3 acc.length c3') := block_cell HO3.out.box rfl
            have t1 : w1.heap.size < W3.heap.size := by omega
            have hsD : W3.drew.heap.size = W3.heap.size := rfl
            have hbW : Below W1.heap.size W1 W3 := HBY.out.trans (hb3.mono (by omega))
            have HBD : Hid (Below w.heap.size w W3.drew) := (hb.trans (hbW.mono hb.size)).drew
            have HXD : Hid (W3.drew.heap[w.heap.size]? = some (.cells #[.slice (some ⟨b, off, none⟩) C.length cap, .int .i64 l1] 24 (0, 0)) ∧ W3.drew.heap[w.heap.size + 1]? = some (.cells #[.slice a' D.length cap', .int .i64 l2] 24 (0, 0)) ∧ W3.drew.heap[w.heap.size + 1 + 1]? = some (.cells #[.slice none 0 0, .int .i64 0] 24 (0, 0))) := ⟨drew_block ((hbW.block _ (by omega)).trans hbx.out.1), drew_block ((hbW.block _ (by omega)).trans hbx.out.2.1), drew_block ((hbW.block _ (by omega)).trans hbx.out.2.2)⟩
            have HYE : Hid ((⟨f 0, f 1, f 2, f 3, X.plus⟩ : Cr) = tieX (0 : Int) x (y + 2 * (C.length : Int)) X) := (by rw [HF.out]; rfl : (⟨f 0, f 1, f 2, f 3, X.plus⟩ : Cr) = tieX (0 : Int) x (y + 2 * (C.length : Int)) X)
            clear hcell hsl hl4 hbW
            have hbr1 : Y.heap.size ≤ br := (HROW.out.lt br rfl).1
            have hne : ∀ k, (k < w1.heap.size + 1 ∨ W1.heap.size ≤ k) → some k ≠ (Value.slice a3 acc.length c3').ownBlock := fun k hk e => by have := HOUT.out.row.lt k e.symm; omega
            have hbd : ∀ o, Below W3.heap.size W3 (W3.drew.alloc o) := fun o => ((Below.refl _ _).drew).alloc (Nat.le_refl _) o
            have HKP : Hid (∀ (o : Obj) (w' : World), (W3.drew.alloc o).grownBy w' (Value.slice a3 acc.length c3').ownBlock → w'.cell? ⟨br, orr, none⟩ = some (.int .i64 (f 0)) ∧ w'.cell? ⟨br, orr + 1, none⟩ = some (.int .i64 (f 1)) ∧ w'.cell? ⟨br, orr + 2, none⟩ = some (.int .i64 (f 2)) ∧ w'.cell? ⟨br, orr + 3, none⟩ = some (.int .i64 (f 3)) ∧ w'.cell? ⟨W1.heap.size, 0, none⟩ = some (.slice (some ⟨b, off, none⟩) C.length cap) ∧ w'.cell? ⟨b, off + i * 5 + 4, none⟩ = some (.bool X.plus)) := fun o w' hg => ⟨(hg.cell_far ⟨br, orr, none⟩ (by simp; omega) (hne (br) (by omega))).trans (bcell (hbd o) (by omega) k0), (hg.cell_far ⟨br, orr + 1, none⟩ (by simp; omega) (hne (br) (by omega))).trans (bcell (hbd o) (by omega) k1), (hg.cell_far ⟨br, orr + 2, none⟩ (by simp; omega) (hne (br) (by omega))).trans (bcell (hbd o) (by omega) k2), (hg.cell_far ⟨br, orr + 3, none⟩ (by simp; omega) (hne (br) (by omega))).trans (bcell (hbd o) (by omega) k3), (hg.cell_far ⟨W1.heap.size, 0, none⟩ (by simp; omega) (hne (W1.heap.size) (by omega))).trans (bcell (hbd o) (by omega) d0), (hg.cell_far ⟨b, off + i * 5 + 4, none⟩ (by simp; omega) (hne (b) (by omega))).trans (bcell (hbd o) (by omega) hp9)⟩
            have HKQ : Hid (∀ (o : Obj) (w' : World) (u : Value), (W3.drew.alloc o).grownBy w' (Value.slice a3 acc.length c3').ownBlock → (fun w' => w'.cell? ⟨br, orr, none⟩ = some (.int .i64 (f 0)) ∧ w'.cell? ⟨br, orr + 1, none⟩ = some (.int .i64 (f 1)) ∧ w'.cell? ⟨br, orr + 2, none⟩ = some (.int .i64 (f 2)) ∧ w'.cell? ⟨br, orr + 3, none⟩ = some (.int .i64 (f 3)) ∧ w'.cell? ⟨W1.heap.size, 0, none⟩ = some (.slice (some ⟨b, off, none⟩) C.length cap) ∧ w'.cell? ⟨b, off + i * 5 + 4, none⟩ = some (.bool X.plus)) (w'.setCell ⟨w1.heap.size, 0, none⟩ u)) := fun o w' u hg => by
              have g := HKP.out o w' hg
              have hz := hg.size
              simp only [World.size_alloc] at hz
              have hsg := set_grown w' (w1.heap.size) 0 u
              exact ⟨hsg.cell g.1 (by simp; omega), hsg.cell g.2.1 (by simp; omega), hsg.cell g.2.2.1 (by simp; omega), hsg.cell g.2.2.2.1 (by simp; omega), hsg.cell g.2.2.2.2.1 (by simp; omega), hsg.cell g.2.2.2.2.2 (by simp; omega)⟩
            clear hne hbd
            go_wp2
            refine wp_region_held_drew (S := fun w' => w'.cell? ⟨br, orr, none⟩ = some (.int .i64 (f 0)) ∧ w'.cell? ⟨br, orr + 1, none⟩ = some (.int .i64 (f 1)) ∧ w'.cell? ⟨br, orr + 2, none⟩ = some (.int .i64 (f 2)) ∧ w'.cell? ⟨br, orr + 3, none⟩ = some (.int .i64 (f 3)) ∧ w'.cell? ⟨W1.heap.size, 0, none⟩ = some (.slice (some ⟨b, off, none⟩) C.length cap) ∧ w'.cell? ⟨b, off + i * 5 + 4, none⟩ = some (.bool X.plus)) (by kernel_rfl) (by (try dsimp only); first | exact HKQ.out _ _ _ hg8 | exact HKP.out _ _ hg8 | go_keep) (fun hHeld => ?_)
            refine wpAnyH_take (i := 0) (v := ?vv0c) rfl (by kernel_rfl) (by kernel_rfl) (by kernel_rfl) (fun _ _ _ h => h) (Or.inl ⟨by rfl, ?yy0c⟩) (by assumption) ?rr0c
            case yy0c => (intro w hSw; (try dsimp only at hSw); go_simp; (try with_reducible rfl))
            try simp only [Act.put]
            refine wpAnyH_take (i := 2) (v := ?vv2c) rfl (by kernel_rfl) (by kernel_rfl) (by kernel_rfl) (fun _ _ _ h => h) (Or.inl ⟨by rfl, ?yy2c⟩) (by assumption) ?rr2c
            case yy2c => (intro w hSw; (try dsimp only at hSw); go_simp; (try with_reducible rfl))
            try simp only [Act.put]
            refine wpAnyH_take (i := 3) (v := ?vv3c) rfl (by kernel_rfl) (by kernel_rfl) (by kernel_rfl) (fun _ _ _ h => h) (Or.inl ⟨by rfl, ?yy3c⟩) (by assumption) ?rr3c
            case yy3c => (intro w hSw; (try dsimp only at hSw); go_simp; (try with_reducible rfl))
            try simp only [Act.put]
            refine wpAnyH_take (i := 4) (v := ?vv4c) rfl (by kernel_rfl) (by kernel_rfl) (by kernel_rfl) (fun _ _ _ h => h) (Or.inl ⟨by rfl, ?yy4c⟩) (by assumption) ?rr4c
            case yy4c => (intro w hSw; (try dsimp only at hSw); go_simp; (try with_reducible rfl))
            try simp only [Act.put]
            refine wpAnyH_take (i := 5) (v := ?vv5c) rfl (by kernel_rfl) (by kernel_rfl) (by kernel_rfl) (fun _ _ _ h => h) (Or.inl ⟨by rfl, ?yy5c⟩) (by assumption) ?rr5c
            case yy5c => (intro w hSw; (try dsimp only at hSw); go_simp; (try with_reducible rfl))
            try simp only [Act.put]
            refine wpAnyH_take (i := 6) (v := ?vv6c) rfl (by kernel_rfl) (by kernel_rfl) (by kernel_rfl) (fun _ _ _ h => h) (Or.inl ⟨by rfl, ?yy6c⟩) (by assumption) ?rr6c
            case yy6c => (intro w hSw; (try dsimp only at hSw); go_simp; (try with_reducible rfl))
            try simp only [Act.put]
            refine wpAnyH_take (i := 7) (v := ?vv7c) rfl (by kernel_rfl) (by kernel_rfl) (by kernel_rfl) (fun _ _ _ h => h) (Or.inl ⟨by rfl, ?yy7c⟩) (by assumption) ?rr7c
            case yy7c => (intro w hSw; (try dsimp only at hSw); go_simp; (try with_reducible rfl))
            try simp only [Act.put]
            refine wpAnyH_take (i := 8) (v := ?vv8c) rfl (by kernel_rfl) (by kernel_rfl) (by kernel_rfl) (fun _ _ _ h => h) (Or.inl ⟨by rfl, ?yy8c⟩) (by assumption) ?rr8c
            case yy8c => (intro w hSw; (try dsimp only at hSw); go_simp; (try with_reducible rfl))
            try simp only [Act.put]
            refine wpAnyH_take (i := 9) (v := ?vv9c) rfl (by kernel_rfl) (by kernel_rfl) (by kernel_rfl) (fun _ _ _ h => h) (Or.inl ⟨by rfl, ?yy9c⟩) (by assumption) ?rr9c
            case yy9c => (intro w hSw; (try dsimp only at hSw); go_simp; (try with_reducible rfl))
            try simp only [Act.put]
            refine wpAnyH_take (i := 10) (v := ?vv10c) rfl (by kernel_rfl) (by kernel_rfl) (by kernel_rfl) (fun _ _ _ h => h) (Or.inl ⟨by rfl, ?yy10c⟩) (by assumption) ?rr10c
            case yy10c => (intro w hSw; (try dsimp only at hSw); go_simp; (try with_reducible rfl))
            try simp only [Act.put]
            refine wpAnyH_take (i := 11) (v := ?vv11c) rfl (by kernel_rfl) (by kernel_rfl) (by kernel_rfl) (fun _ _ _ h => h) (Or.inl ⟨by rfl, ?yy11c⟩) (by assumption) ?rr11c
            case yy11c => (intro w hSw; (try dsimp only at hSw); go_simp; (try with_reducible rfl))
            try simp only [Act.put]
            refine wpAnyH_take (i := 12) (v := ?vv12c) rfl (by kernel_rfl) (by kernel_rfl) (by kernel_rfl) (fun _ _ _ h => h) (Or.inl ⟨by rfl, ?yy12c⟩) (by assumption) ?rr12c
            case yy12c => (intro w hSw; (try dsimp only at hSw); go_simp; (try with_reducible rfl))
            try simp only [Act.put]
            refine wpAnyH_take (i := 13) (v := ?vv13c) rfl (by kernel_rfl) (by kernel_rfl) (by kernel_rfl) (fun _ _ _ h => h) (Or.inl ⟨by rfl, ?yy13c⟩) (by assumption) ?rr13c
            case yy13c => (intro w hSw; (try dsimp only at hSw); go_simp; (try with_reducible rfl))
            try simp only [Act.put]
            refine wpAnyH_take (i := 14) (v := ?vv14c) rfl (by kernel_rfl) (by kernel_rfl) (by kernel_rfl) (fun _ _ _ h => h) (Or.inl ⟨by rfl, ?yy14c⟩) (by assumption) ?rr14c
            case yy14c => (intro w hSw; (try dsimp only at hSw); go_simp; (try with_reducible rfl))
            try simp only [Act.put]
            refine wpAnyH_take (i := 15) (v := ?vv15c) rfl (by kernel_rfl) (by kernel_rfl) (by kernel_rfl) (fun _ _ _ h => h) (Or.inl ⟨by rfl, ?yy15c⟩) (by assumption) ?rr15c
            case yy15c => (intro w hSw; (try dsimp only at hSw); go_simp; (try with_reducible rfl))
            try simp only [Act.put]
            refine wpAnyH_take (i := 16) (v := ?vv16c) rfl (by kernel_rfl) (by kernel_rfl) (by kernel_rfl) (fun _ _ _ h => h) (Or.inl ⟨by rfl, ?yy16c⟩) (by assumption) ?rr16c
            case yy16c => (intro w hSw; (try dsimp only at hSw); go_simp; (try with_reducible rfl))
            try simp only [Act.put]
            refine wpAnyH_take (i := 17) (v := ?vv17c) rfl (by kernel_rfl) (by kernel_rfl) (by kernel_rfl) (fun _ _ _ h => h) (Or.inl ⟨by rfl, ?yy17c⟩) (by assumption) ?rr17c
            case yy17c => (intro w hSw; (try dsimp only at hSw); go_simp; (try with_reducible rfl))
            try simp only [Act.put]
            refine wpAnyH_take (i := 18) (v := ?vv18c) rfl (by kernel_rfl) (by kernel_rfl) (by kernel_rfl) (fun _ _ _ h => h) (Or.inl ⟨by rfl, ?yy18c⟩) (by assumption) ?rr18c
            case yy18c => (intro w hSw; (try dsimp only at hSw); go_simp; (try with_reducible rfl))
            try simp only [Act.put]
            refine wpAnyH_take (i := 19) (v := ?vv19c) rfl (by kernel_rfl) (by kernel_rfl) (by kernel_rfl) (fun _ _ _ h => h) (Or.inl ⟨by rfl, ?yy19c⟩) (by assumption) ?rr19c
            case yy19c => (intro w hSw; (try dsimp only at hSw); go_simp; (try with_reducible rfl))
            try simp only [Act.put]
            refine wpAnyH_take (i := 20) (v := ?vv20c) rfl (by kernel_rfl) (by kernel_rfl) (by kernel_rfl) (fun _ _ _ h => h) (Or.inl ⟨by rfl, ?yy20c⟩) (by assumption) ?rr20c
            case yy20c => (intro w hSw; (try dsimp only at hSw); go_simp; (try with_reducible rfl))
            try simp only [Act.put]
            refine wpAnyH_ready (rs := [1, 21]) (by kernel_rfl) (by simp) ?_
            refine AllReadyH.cons rfl (fun K hK => ?_) (AllReadyH.cons rfl (fun K hK => ?_) AllReadyH.nil)
            · go_simp
              refine hK.out _ _ (by (try dsimp only); first | exact HKQ.out _ _ _ hg8 | exact HKP.out _ _ hg8 | go_keep) (fun hHeld => ?_)
              clear hK K
              refine wpAnyH_ready (rs := [21]) (by kernel_rfl) (by simp) ?_
              refine AllReadyH.cons rfl (fun K hK => ?_) AllReadyH.nil
              go_simp
              refine hK.out _ _ (by (try dsimp only); first | exact HKQ.out _ _ _ hg8 | exact HKP.out _ _ hg8 | go_keep) (fun hHeld => ?_)
              clear hK K
              refine wpAnyH_ready (rs := [22]) (by kernel_rfl) (by simp) ?_
              refine AllReadyH.cons rfl (fun K hK => ?_) AllReadyH.nil
              (refine step_append_own rfl (.tmp 127) (.tmp 147) 22 rfl (w1.heap.size + 1) 68 i0 (.agg #[.int .i64 0, .int .i64 0, .int .i64 0, .int .i64 0, .bool false]) 5 40 Try.underlying22 hi hz0 hz1 hz2 rfl (by decide) _ acc.length _ (by simp [Act.eval]) (HOD.out.row.alloc _) ⟨W3.drew.heap.size, 0, none⟩ 1 1 [.int .i64 (f 0), .int .i64 (f 1), .int .i64 (f 2), .int .i64 (f 3), .bool X.plus] (by simp [Act.eval]) rfl (new_cell5 _ _ _ _ _ _ _) (cells_one [(⟨f 0, f 1, f 2, f 3, X.plus⟩ : Cr)]) (by unfold maxLen; omega) (by omega) (by simp; omega) ?_; intro v8 w8 hown8 hg8; obtain ⟨a8, c8, ev8⟩ := own_capS hown8; subst ev8; have hb8 := HOD.out.box8 (by omega) hg8; have r0 : w8.cell? ⟨w1.heap.size, 0, none⟩ = some (.slice a3 acc.length c3') := block_cell hb8 rfl; have r1 : w8.frozen? ⟨w1.heap.size, 0, none⟩ = false := block_frozen hb8; have r2 : w1.heap.size < w8.heap.size := (Array.getElem?_eq_some_iff.1 hb8).1; clear hb8)
              refine hK.out _ _ (by (try dsimp only); first | exact HKQ.out _ _ _ hg8 | exact HKP.out _ _ hg8 | go_keep) (fun hHeld => ?_)
              clear hK K
              refine wpAnyH_take (i := 23) (v := ?vv23ac) rfl (by kernel_rfl) (by kernel_rfl) (by kernel_rfl) (fun _ _ _ h => h) (Or.inl ⟨by rfl, ?yy23ac⟩) (by assumption) ?rr23ac
              case yy23ac => (intro w hSw; (try dsimp only at hSw); go_simp; (try with_reducible rfl))
              try simp only [Act.put]
              refine wpAnyH_ready (rs := [24]) (by kernel_rfl) (by simp) ?_
              refine AllReadyH.cons rfl (fun K hK => ?_) AllReadyH.nil
              go_simp
              refine hK.out _ _ (by (try dsimp only); first | exact HKQ.out _ _ _ hg8 | exact HKP.out _ _ hg8 | go_keep) (fun hHeld => ?_)
              clear hK K
              refine wpAnyH_done (by kernel_rfl) ?_ _
              have hs8 : W3.heap.size + 1 ≤ w8.heap.size := by have := hg8.size; simpa using this
              clear k0 k1 k2 k3 d0 hp9 t0 r0 r1 hHeld
              go_wp2
              go_roundw
              all_goals first
                | (simp only [intOf]; omega)
                | exact ⟨i + 1, .slice a8 (acc.length + 1) c8, acc ++ [(⟨f 0, f 1, f 2, f 3, X.plus⟩ : Cr)], by omega, by go_num, (by have := hal.out; simp; omega : (acc ++ [(⟨f 0, f 1, f 2, f 3, X.plus⟩ : Cr)]).length = i + 1), (by rw [HYE.out, HNX.out, HGET.out, hacc.out] : acc ++ [(⟨f 0, f 1, f 2, f 3, X.plus⟩ : Cr)] = (tieC C D x y).take (i + 1)), HOD.out.app (by omega) rfl hown8 hg8, ⟨HOD.out.other HXD.out.1 (by omega) (by omega) hg8, HOD.out.other HXD.out.2.1 (by omega) (by omega) hg8, HOD.out.other HXD.out.2.2 (by omega) (by omega) hg8⟩, (by simp; omega), HOD.out.below HBD.out (by omega) (by omega) (by omega) hg8⟩
            · go_simp
              refine hK.out _ _ (by (try dsimp only); first | exact HKQ.out _ _ _ hg8 | exact HKP.out _ _ hg8 | go_keep) (fun hHeld => ?_)
              clear hK K
              refine wpAnyH_ready (rs := [1]) (by kernel_rfl) (by simp) ?_
              refine AllReadyH.cons rfl (fun K hK => ?_) AllReadyH.nil
              go_simp
              refine hK.out _ _ (by (try dsimp only); first | exact HKQ.out _ _ _ hg8 | exact HKP.out _ _ hg8 | go_keep) (fun hHeld => ?_)
              clear hK K
              refine wpAnyH_ready (rs := [22]) (by kernel_rfl) (by simp) ?_
              refine AllReadyH.cons rfl (fun K hK => ?_) AllReadyH.nil
              (refine step_append_own rfl (.tmp 127) (.tmp 147) 22 rfl (w1.heap.size + 1) 68 i0 (.agg #[.int .i64 0, .int .i64 0, .int .i64 0, .int .i64 0, .bool false]) 5 40 Try.underlying22 hi hz0 hz1 hz2 rfl (by decide) _ acc.length _ (by simp [Act.eval]) (HOD.out.row.alloc _) ⟨W3.drew.heap.size, 0, none⟩ 1 1 [.int .i64 (f 0), .int .i64 (f 1), .int .i64 (f 2), .int .i64 (f 3), .bool X.plus] (by simp [Act.eval]) rfl (new_cell5 _ _ _ _ _ _ _) (cells_one [(⟨f 0, f 1, f 2, f 3, X.plus⟩ : Cr)]) (by unfold maxLen; omega) (by omega) (by simp; omega) ?_; intro v8 w8 hown8 hg8; obtain ⟨a8, c8, ev8⟩ := own_capS hown8; subst ev8; have hb8 := HOD.out.box8 (by omega) hg8; have r0 : w8.cell? ⟨w1.heap.size, 0, none⟩ = some (.slice a3 acc.length c3') := block_cell hb8 rfl; have r1 : w8.frozen? ⟨w1.heap.size, 0, none⟩ = false := block_frozen hb8; have r2 : w1.heap.size < w8.heap.size := (Array.getElem?_eq_some_iff.1 hb8).1; clear hb8)
              refine hK.out _ _ (by (try dsimp only); first | exact HKQ.out _ _ _ hg8 | exact HKP.out _ _ hg8 | go_keep) (fun hHeld => ?_)
              clear hK K
              refine wpAnyH_take (i := 23) (v := ?vv23bc) rfl (by kernel_rfl) (by kernel_rfl) (by kernel_rfl) (fun _ _ _ h => h) (Or.inl ⟨by rfl, ?yy23bc⟩) (by assumption) ?rr23bc
              case yy23bc => (intro w hSw; (try dsimp only at hSw); go_simp; (try with_reducible rfl))
              try simp only [Act.put]
              refine wpAnyH_ready (rs := [24]) (by kernel_rfl) (by simp) ?_
              refine AllReadyH.cons rfl (fun K hK => ?_) AllReadyH.nil
              go_simp
              refine hK.out _ _ (by (try dsimp only); first | exact HKQ.out _ _ _ hg8 | exact HKP.out _ _ hg8 | go_keep) (fun hHeld => ?_)
              clear hK K
              refine wpAnyH_done (by kernel_rfl) ?_ _
              have hs8 : W3.heap.size + 1 ≤ w8.heap.size := by have := hg8.size; simpa using this
              clear k0 k1 k2 k3 d0 hp9 t0 r0 r1 hHeld
              go_wp2
              go_roundw
              all_goals first
                | (simp only [intOf]; omega)
                | exact ⟨i + 1, .slice a8 (acc.length + 1) c8, acc ++ [(⟨f 0, f 1, f 2, f 3, X.plus⟩ : Cr)], by omega, by go_num, (by have := hal.out; simp; omega : (acc ++ [(⟨f 0, f 1, f 2, f 3, X.plus⟩ : Cr)]).length = i + 1), (by rw [HYE.out, HNX.out, HGET.out, hacc.out] : acc ++ [(⟨f 0, f 1, f 2, f 3, X.plus⟩ : Cr)] = (tieC C D x y).take (i + 1)), HOD.out.app (by omega) rfl hown8 hg8, ⟨HOD.out.other HXD.out.1 (by omega) (by omega) hg8, HOD.out.other HXD.out.2.1 (by omega) (by omega) hg8, HOD.out.other HXD.out.2.2 (by omega) (by omega) hg8⟩, (by simp; omega), HOD.out.below HBD.out (by omega) (by omega) (by omega) hg8⟩
      · obtain ⟨j, hij⟩ : ∃ j, i = C.length + j := ⟨i - C.length, by omega⟩
        have hg : decide ((C.length : Int) ≤ (i : Int)) = true := by simp; omega
        have hlt : decide ((i : Int) < (C.length : Int)) = false := by simp; omega
        have hj9 : IntKind.i64.wrap ((i : Int) - (C.length : Int)) = (j : Int) := (by rw [IntWalk.i64_in _ (by omega)]; omega)
        have hat : j < D.length := by omega
        have HIJ : Hid (i = C.length + j) := hij
        have hgN : decide (C.length ≤ i) = true := by simp; omega
        have HGET : Hid ((tieC C D x y).getD i Cr.none = tieX (2 * (C.length : Int)) y x (D.getD j Cr.none)) := (by rw [hij]; simp [tieC, List.getD_eq_getElem?_getD, hat] : (tieC C D x y).getD i Cr.none = tieX (2 * (C.length : Int)) y x (D.getD j Cr.none))
        have HRG : Hid (∀ k, k < 4 → -1000 ≤ (D.getD j Cr.none).arc k ∧ (D.getD j Cr.none).arc k ≤ 1000) := fun k hk => HAD.out j k hat hk
        clear hij
        obtain ⟨b, off, ea, hbq, hC⟩ := crs_some HD.out (by omega)
        subst ea
        have HCW : Hid (CrossAt W1 b off D) := hC.on hb hbq
        clear hC
        obtain ⟨a3, c3', ev3⟩ := own_capS HOUT.out.row
        subst ev3
        obtain ⟨Y, hY⟩ : ∃ Y, Y = W1.alloc (.cells #[.slice (some ⟨b, off, none⟩) D.length cap', .int .i64 l2] 24) := ⟨_, rfl⟩
        have HY : Hid (Y = W1.alloc (.cells #[.slice (some ⟨b, off, none⟩) D.length cap', .int .i64 l2] 24)) := hY
        have hsY : Y.heap.size = W1.heap.size + 1 := by rw [hY]; simp
        have HBY : Hid (Below W1.heap.size W1 Y) := (by rw [hY]; exact (Below.refl _ _).alloc (Nat.le_refl _) _ : Below W1.heap.size W1 Y)
        have HTY : Hid (Y.heap[W1.heap.size]? = some (.cells #[.slice (some ⟨b, off, none⟩) D.length cap', .int .i64 l2] 24 (0, 0))) := (by rw [hY]; exact alloc_at rfl : Y.heap[W1.heap.size]? = some (.cells #[.slice (some ⟨b, off, none⟩) D.length cap', .int .i64 l2] 24 (0, 0)))
        clear hY
        have HCY : Hid (CrossAt Y b off D) := HCW.out.on HBY.out (by omega)
        have HOY : Hid (OutAt Y (w1.heap.size + 1) (w1.heap.size) (.slice a3 acc.length c3') (l1 + l2) acc) := HOUT.out.on HBY.out
        go_wp2
        rw [← HY.out]
        try rw [hgN]
        clear a0 a1 b0 b1
        obtain ⟨X, hX⟩ : ∃ X, D.getD j Cr.none = X := ⟨_, rfl⟩
        have HXX : Hid (D.getD j Cr.none = X) := hX
        rw [hX] at HGET HRG
        clear hX
        obtain ⟨f, hf⟩ : ∃ f : Nat → Int, f = tnum X (2 * (C.length : Int)) y x := ⟨_, rfl⟩
        have HF : Hid (f = tnum X (2 * (C.length : Int)) y x) := hf
        clear hf
        go_loopw [17, 18] (fun v17 v18 wr => ∃ (k : Nat), k ≤ 4 ∧ v18 = .int .i64 (k : Nat) ∧ wr.ownsRow Y.heap.size 3 1 v17 k (intsV ((List.range k).map f)) ∧ Below Y.heap.size Y wr) (fun _ v18 _ => 4 - (intOf v18).toNat)
        case atStart => exact ⟨0, Nat.zero_le _, rfl, World.ownsRow_nil _ _ _ _, Below.refl _ _⟩
        case round =>
          rename World => W3
          obtain ⟨k, hk4, rfl, hrow, hb3⟩ := hrel
          have hs3 := hb3.size
          have HROW : Hid (W3.ownsRow Y.heap.size 3 1 _ k (intsV ((List.range k).map f))) := hrow
          obtain ⟨a2, c2, ev2⟩ := own_capS hrow
          clear hrow
          subst ev2
          have HT3 : Hid (W3.heap[W1.heap.size]? = some (.cells #[.slice (some ⟨b, off, none⟩) D.length cap', .int .i64 l2] 24 (0, 0))) := (hb3.block _ (by omega)).trans HTY.out
          have HC3 : Hid (CrossAt W3 b off D) := HCY.out.on hb3 (by omega)
          by_cases hk : k < 4
          · have hdk : decide ((k : Int) < 4) = true := by simp; omega
            have d0 : W3.cell? ⟨W1.heap.size, 0, none⟩ = some (.slice (some ⟨b, off, none⟩) D.length cap') := block_cell HT3.out rfl
            have d1 : W3.cell? ⟨W1.heap.size, 1, none⟩ = some (.int .i64 l2) := block_cell HT3.out rfl
            have ld : W1.heap.size < W3.heap.size := by omega
            obtain ⟨z, hz⟩ : ∃ z, X.arc k = z := ⟨_, rfl⟩
            have hzr := HRG.out k hk
            rw [hz] at hzr
            have hwz : IntKind.i64.wrap (z + 2 * (C.length : Int)) = (z + 2 * (C.length : Int)) := IntWalk.i64_in _ (by omega)
            have HZ : Hid (X.arc k = z) := hz
            have HFK : Hid (f k = if z = y ∧ X.comes k = true then x else z + (2 * (C.length : Int))) := (by rw [HF.out]; unfold tnum; rw [hz] : f k = if z = y ∧ X.comes k = true then x else z + (2 * (C.length : Int)))
            clear hz
            cases hcm : X.comes k with
            | true =>
              by_cases hzc : z = y
              · have hd : (z + 2 * (C.length : Int) == y + 2 * (C.length : Int)) = true := by simp; omega
                have hd2 : (z == y) = true := by simp; omega
                have HU : Hid (f k = x) := (by rw [HFK.out, if_pos ⟨hzc, hcm⟩] : f k = x)
                go_wp2_with (go_at_call 50; refine (arcAt_any b off cap' l2 D j k _ hat hk (by omega) HC3.out).mono ?_; rw [HXX.out, HZ.out]; rintro e9 w4 ⟨rfl, hb4⟩; refine Hid.out ?_)
                refine Lib.hid ?_
                have hs4 := hb4.size
                have HC4 : Hid (CrossAt w4 b off D) := HC3.out.on hb4 (by omega)
                have HT4 : Hid (w4.heap[W1.heap.size]? = some (.cells #[.slice (some ⟨b, off, none⟩) D.length cap', .int .i64 l2] 24 (0, 0))) := (hb4.block _ (by omega)).trans HT3.out
                have HB4 : Hid (Below Y.heap.size Y w4) := hb3.trans (hb4.mono hs3)
                have HR4 : Hid (w4.ownsRow Y.heap.size 3 1 (.slice a2 k c2) k (intsV ((List.range k).map f))) := own_any HROW.out (grown_below hb4 none)
                clear hb4 d0 d1 ld
                have d0 : w4.cell? ⟨W1.heap.size, 0, none⟩ = some (.slice (some ⟨b, off, none⟩) D.length cap') := block_cell HT4.out rfl
                have d1 : w4.cell? ⟨W1.heap.size, 1, none⟩ = some (.int .i64 l2) := block_cell HT4.out rfl
                have ld : W1.heap.size < w4.heap.size := by omega
                go_wp2_with (go_at_call 51; refine (entry_any b off cap' l2 D j k _ hat hk (by omega) HC4.out).mono ?_; rw [HXX.out, hcm]; rintro e9 w5 ⟨rfl, hb5⟩; refine Hid.out ?_)
                refine Lib.hid ?_
                have hs5 := hb5.size
                have HB5 : Hid (Below Y.heap.size Y w5) := HB4.out.trans (hb5.mono (by omega))
                have HR5 : Hid (w5.ownsRow Y.heap.size 3 1 (.slice a2 k c2) k (intsV ((List.range k).map f))) := own_any HR4.out (grown_below hb5 none)
                clear hb5 d0 d1 ld
                go_wp2_with (first
                  | (at_builtin; refine wpList_append_own _ rfl _ _ 44 rfl Y.heap.size 3 j0 (.int .i64 0) 1 8 Try.underlying44 hj hy0 hy1 hy2 rfl (by decide) _ _ _ rfl (HR5.out.alloc _) ⟨w5.heap.size, 0, none⟩ 1 1 [.int .i64 x] rfl rfl (new_cell1 _ _ _) (int_one _) (by unfold maxLen; omega) (by omega) (by simp; omega) ?_; intro v8 w8 hown8 hg8 _; go_frame))
                go_roundw
                case rel =>
                  have hR := HR5.out.alloc (.cells #[.int .i64 x] 3)
                  refine ⟨k + 1, by omega, by go_num, ?_, (HB5.out.alloc (by omega) _).grown hg8 (by simp; omega) (fun q hq => (hR.lt q hq).1)⟩
                  have e1 : (List.range (k + 1)).map f = (List.range k).map f ++ [x] := by rw [List.range_succ, List.map_append, ← HU.out]; rfl
                  rw [e1, intsV_app]
                  exact hown8
                case measure => simp only [intOf]; omega
              · have hd : (z + 2 * (C.length : Int) == y + 2 * (C.length : Int)) = false := by simp; omega
                have hd2 : (z == y) = false := by simp; omega
                have HU : Hid (f k = (z + 2 * (C.length : Int))) := (by rw [HFK.out, if_neg (fun h => hzc h.1)] : f k = (z + 2 * (C.length : Int)))
                go_wp2_with (go_at_call 50; refine (arcAt_any b off cap' l2 D j k _ hat hk (by omega) HC3.out).mono ?_; rw [HXX.out, HZ.out]; rintro e9 w4 ⟨rfl, hb4⟩; refine Hid.out ?_)
                refine Lib.hid ?_
                have hs4 := hb4.size
                have HC4 : Hid (CrossAt w4 b off D) := HC3.out.on hb4 (by omega)
                have HT4 : Hid (w4.heap[W1.heap.size]? = some (.cells #[.slice (some ⟨b, off, none⟩) D.length cap', .int .i64 l2] 24 (0, 0))) := (hb4.block _ (by omega)).trans HT3.out
                have HB4 : Hid (Below Y.heap.size Y w4) := hb3.trans (hb4.mono hs3)
                have HR4 : Hid (w4.ownsRow Y.heap.size 3 1 (.slice a2 k c2) k (intsV ((List.range k).map f))) := own_any HROW.out (grown_below hb4 none)
                clear hb4 d0 d1 ld
                have d0 : w4.cell? ⟨W1.heap.size, 0, none⟩ = some (.slice (some ⟨b, off, none⟩) D.length cap') := block_cell HT4.out rfl
                have d1 : w4.cell? ⟨W1.heap.size, 1, none⟩ = some (.int .i64 l2) := block_cell HT4.out rfl
                have ld : W1.heap.size < w4.heap.size := by omega
                go_wp2_with (go_at_call 51; refine (entry_any b off cap' l2 D j k _ hat hk (by omega) HC4.out).mono ?_; rw [HXX.out, hcm]; rintro e9 w5 ⟨rfl, hb5⟩; refine Hid.out ?_)
                refine Lib.hid ?_
                have hs5 := hb5.size
                have HB5 : Hid (Below Y.heap.size Y w5) := HB4.out.trans (hb5.mono (by omega))
                have HR5 : Hid (w5.ownsRow Y.heap.size 3 1 (.slice a2 k c2) k (intsV ((List.range k).map f))) := own_any HR4.out (grown_below hb5 none)
                clear hb5 d0 d1 ld
                go_wp2_with (first
                  | (at_builtin; refine wpList_append_own _ rfl _ _ 44 rfl Y.heap.size 3 j0 (.int .i64 0) 1 8 Try.underlying44 hj hy0 hy1 hy2 rfl (by decide) _ _ _ rfl (HR5.out.alloc _) ⟨w5.heap.size, 0, none⟩ 1 1 [.int .i64 (z + 2 * (C.length : Int))] rfl rfl (new_cell1 _ _ _) (int_one _) (by unfold maxLen; omega) (by omega) (by simp; omega) ?_; intro v8 w8 hown8 hg8 _; go_frame))
                go_roundw
                case rel =>
                  have hR := HR5.out.alloc (.cells #[.int .i64 (z + 2 * (C.length : Int))] 3)
                  refine ⟨k + 1, by omega, by go_num, ?_, (HB5.out.alloc (by omega) _).grown hg8 (by simp; omega) (fun q hq => (hR.lt q hq).1)⟩
                  have e1 : (List.range (k + 1)).map f = (List.range k).map f ++ [(z + 2 * (C.length : Int))] := by rw [List.range_succ, List.map_append, ← HU.out]; rfl
                  rw [e1, intsV_app]
                  exact hown8
                case measure => simp only [intOf]; omega
            | false =>
              have HU : Hid (f k = (z + 2 * (C.length : Int))) := (by rw [HFK.out, if_neg (fun h => by rw [hcm] at h; cases h.2)] : f k = (z + 2 * (C.length : Int)))
              go_wp2_with (go_at_call 50; refine (arcAt_any b off cap' l2 D j k _ hat hk (by omega) HC3.out).mono ?_; rw [HXX.out, HZ.out]; rintro e9 w4 ⟨rfl, hb4⟩; refine Hid.out ?_)
              refine Lib.hid ?_
              have hs4 := hb4.size
              have HC4 : Hid (CrossAt w4 b off D) := HC3.out.on hb4 (by omega)
              have HT4 : Hid (w4.heap[W1.heap.size]? = some (.cells #[.slice (some ⟨b, off, none⟩) D.length cap', .int .i64 l2] 24 (0, 0))) := (hb4.block _ (by omega)).trans HT3.out
              have HB4 : Hid (Below Y.heap.size Y w4) := hb3.trans (hb4.mono hs3)
              have HR4 : Hid (w4.ownsRow Y.heap.size 3 1 (.slice a2 k c2) k (intsV ((List.range k).map f))) := own_any HROW.out (grown_below hb4 none)
              clear hb4 d0 d1 ld
              have d0 : w4.cell? ⟨W1.heap.size, 0, none⟩ = some (.slice (some ⟨b, off, none⟩) D.length cap') := block_cell HT4.out rfl
              have d1 : w4.cell? ⟨W1.heap.size, 1, none⟩ = some (.int .i64 l2) := block_cell HT4.out rfl
              have ld : W1.heap.size < w4.heap.size := by omega
              go_wp2_with (go_at_call 51; refine (entry_any b off cap' l2 D j k _ hat hk (by omega) HC4.out).mono ?_; rw [HXX.out, hcm]; rintro e9 w5 ⟨rfl, hb5⟩; refine Hid.out ?_)
              refine Lib.hid ?_
              have hs5 := hb5.size
              have HB5 : Hid (Below Y.heap.size Y w5) := HB4.out.trans (hb5.mono (by omega))
              have HR5 : Hid (w5.ownsRow Y.heap.size 3 1 (.slice a2 k c2) k (intsV ((List.range k).map f))) := own_any HR4.out (grown_below hb5 none)
              clear hb5 d0 d1 ld
              go_wp2_with (first
                | (at_builtin; refine wpList_append_own _ rfl _ _ 44 rfl Y.heap.size 3 j0 (.int .i64 0) 1 8 Try.underlying44 hj hy0 hy1 hy2 rfl (by decide) _ _ _ rfl (HR5.out.alloc _) ⟨w5.heap.size, 0, none⟩ 1 1 [.int .i64 (z + 2 * (C.length : Int))] rfl rfl (new_cell1 _ _ _) (int_one _) (by unfold maxLen; omega) (by omega) (by simp; omega) ?_; intro v8 w8 hown8 hg8 _; go_frame))
              go_roundw
              case rel =>
                have hR := HR5.out.alloc (.cells #[.int .i64 (z + 2 * (C.length : Int))] 3)
                refine ⟨k + 1, by omega, by go_num, ?_, (HB5.out.alloc (by omega) _).grown hg8 (by simp; omega) (fun q hq => (hR.lt q hq).1)⟩
                have e1 : (List.range (k + 1)).map f = (List.range k).map f ++ [(z + 2 * (C.length : Int))] := by rw [List.range_succ, List.map_append, ← HU.out]; rfl
                rw [e1, intsV_app]
                exact hown8
              case measure => simp only [intOf]; omega
          · obtain rfl : k = 4 := by omega
            obtain ⟨a9, c9, ev9, hsl⟩ := slots_of_own HROW.out
            have hl4 : (intsV ((List.range 4).map f)).length = 4 := by simp [intsV_len]
            rw [hl4] at ev9 hsl
            obtain ⟨br, orr, ea9, hbr, hcell⟩ := hsl (by omega)
            subst ea9
            injection ev9 with e91 e92 e93
            subst e91
            have k0 : W3.cell? ⟨br, orr, none⟩ = some (.int .i64 (f 0)) := hcell 0 (by omega)
            have k1 : W3.cell? ⟨br, orr + 1, none⟩ = some (.int .i64 (f 1)) := hcell 1 (by omega)
            have k2 : W3.cell? ⟨br, orr + 2, none⟩ = some (.int .i64 (f 2)) := hcell 2 (by omega)
            have k3 : W3.cell? ⟨br, orr + 3, none⟩ = some (.int .i64 (f 3)) := hcell 3 (by omega)
            have d0 : W3.cell? ⟨W1.heap.size, 0, none⟩ = some (.slice (some ⟨b, off, none⟩) D.length cap') := block_cell HT3.out rfl
            have ld : W1.heap.size < W3.heap.size := by omega
            have hp9 : W3.cell? ⟨b, off + j * 5 + 4, none⟩ = some (.bool X.plus) := (by rw [← HXX.out]; exact (HC3.out j hat).2.2.2.2)
            have hatN : decide (j < D.length) = true := by simp; omega
            have hatI : decide ((j : Int) < (D.length : Int)) = true := by simp; omega
            have lb9 : b < W3.heap.size := by omega
            have HO3 : Hid (OutAt W3 (w1.heap.size + 1) (w1.heap.size) (.slice a3 acc.length c3') (l1 + l2) acc) := HOY.out.on hb3
            have HOD : Hid (OutAt W3.drew (w1.heap.size + 1) (w1.heap.size) (.slice a3 acc.length c3') (l1 + l2) acc) := HO3.out.on (Below.refl _ _).drew
            have t0 : W3.cell? ⟨w1.heap.size, 0, none⟩ = some (.slice a3 acc.length c3') := block_cell HO3.out.box rfl
            have t1 : w1.heap.size < W3.heap.size := by omega
            have hsD : W3.drew.heap.size = W3.heap.size := rfl
            have hbW : Below W1.heap.size W1 W3 := HBY.out.trans (hb3.mono (by omega))
            have HBD : Hid (Below w.heap.size w W3.drew) := (hb.trans (hbW.mono hb.size)).drew
            have HXD : Hid (W3.drew.heap[w.heap.size]? = some (.cells #[.slice a C.length cap, .int .i64 l1] 24 (0, 0)) ∧ W3.drew.heap[w.heap.size + 1]? = some (.cells #[.slice (some ⟨b, off, none⟩) D.length cap', .int .i64 l2] 24 (0, 0)) ∧ W3.drew.heap[w.heap.size + 1 + 1]? = some (.cells #[.slice none 0 0, .int .i64 0] 24 (0, 0))) := ⟨drew_block ((hbW.block _ (by omega)).trans hbx.out.1), drew_block ((hbW.block _ (by omega)).trans hbx.out.2.1), drew_block ((hbW.block _ (by omega)).trans hbx.out.2.2)⟩
            have HYE : Hid ((⟨f 0, f 1, f 2, f 3, X.plus⟩ : Cr) = tieX (2 * (C.length : Int)) y x X) := (by rw [HF.out]; rfl : (⟨f 0, f 1, f 2, f 3, X.plus⟩ : Cr) = tieX (2 * (C.length : Int)) y x X)
            clear hcell hsl hl4 hbW
            have hbr1 : Y.heap.size ≤ br := (HROW.out.lt br rfl).1
            have hne : ∀ k, (k < w1.heap.size + 1 ∨ W1.heap.size ≤ k) → some k ≠ (Value.slice a3 acc.length c3').ownBlock := fun k hk e => by have := HOUT.out.row.lt k e.symm; omega
            have hbd : ∀ o, Below W3.heap.size W3 (W3.drew.alloc o) := fun o => ((Below.refl _ _).drew).alloc (Nat.le_refl _) o
            have HKP : Hid (∀ (o : Obj) (w' : World), (W3.drew.alloc o).grownBy w' (Value.slice a3 acc.length c3').ownBlock → w'.cell? ⟨br, orr, none⟩ = some (.int .i64 (f 0)) ∧ w'.cell? ⟨br, orr + 1, none⟩ = some (.int .i64 (f 1)) ∧ w'.cell? ⟨br, orr + 2, none⟩ = some (.int .i64 (f 2)) ∧ w'.cell? ⟨br, orr + 3, none⟩ = some (.int .i64 (f 3)) ∧ w'.cell? ⟨W1.heap.size, 0, none⟩ = some (.slice (some ⟨b, off, none⟩) D.length cap') ∧ w'.cell? ⟨b, off + j * 5 + 4, none⟩ = some (.bool X.plus)) := fun o w' hg => ⟨(hg.cell_far ⟨br, orr, none⟩ (by simp; omega) (hne (br) (by omega))).trans (bcell (hbd o) (by omega) k0), (hg.cell_far ⟨br, orr + 1, none⟩ (by simp; omega) (hne (br) (by omega))).trans (bcell (hbd o) (by omega) k1), (hg.cell_far ⟨br, orr + 2, none⟩ (by simp; omega) (hne (br) (by omega))).trans (bcell (hbd o) (by omega) k2), (hg.cell_far ⟨br, orr + 3, none⟩ (by simp; omega) (hne (br) (by omega))).trans (bcell (hbd o) (by omega) k3), (hg.cell_far ⟨W1.heap.size, 0, none⟩ (by simp; omega) (hne (W1.heap.size) (by omega))).trans (bcell (hbd o) (by omega) d0), (hg.cell_far ⟨b, off + j * 5 + 4, none⟩ (by simp; omega) (hne (b) (by omega))).trans (bcell (hbd o) (by omega) hp9)⟩
            have HKQ : Hid (∀ (o : Obj) (w' : World) (u : Value), (W3.drew.alloc o).grownBy w' (Value.slice a3 acc.length c3').ownBlock → (fun w' => w'.cell? ⟨br, orr, none⟩ = some (.int .i64 (f 0)) ∧ w'.cell? ⟨br, orr + 1, none⟩ = some (.int .i64 (f 1)) ∧ w'.cell? ⟨br, orr + 2, none⟩ = some (.int .i64 (f 2)) ∧ w'.cell? ⟨br, orr + 3, none⟩ = some (.int .i64 (f 3)) ∧ w'.cell? ⟨W1.heap.size, 0, none⟩ = some (.slice (some ⟨b, off, none⟩) D.length cap') ∧ w'.cell? ⟨b, off + j * 5 + 4, none⟩ = some (.bool X.plus)) (w'.setCell ⟨w1.heap.size, 0, none⟩ u)) := fun o w' u hg => by
              have g := HKP.out o w' hg
              have hz := hg.size
              simp only [World.size_alloc] at hz
              have hsg := set_grown w' (w1.heap.size) 0 u
              exact ⟨hsg.cell g.1 (by simp; omega), hsg.cell g.2.1 (by simp; omega), hsg.cell g.2.2.1 (by simp; omega), hsg.cell g.2.2.2.1 (by simp; omega), hsg.cell g.2.2.2.2.1 (by simp; omega), hsg.cell g.2.2.2.2.2 (by simp; omega)⟩
            clear hne hbd
            go_wp2
            refine wp_region_held_drew (S := fun w' => w'.cell? ⟨br, orr, none⟩ = some (.int .i64 (f 0)) ∧ w'.cell? ⟨br, orr + 1, none⟩ = some (.int .i64 (f 1)) ∧ w'.cell? ⟨br, orr + 2, none⟩ = some (.int .i64 (f 2)) ∧ w'.cell? ⟨br, orr + 3, none⟩ = some (.int .i64 (f 3)) ∧ w'.cell? ⟨W1.heap.size, 0, none⟩ = some (.slice (some ⟨b, off, none⟩) D.length cap') ∧ w'.cell? ⟨b, off + j * 5 + 4, none⟩ = some (.bool X.plus)) (by kernel_rfl) (by (try dsimp only); first | exact HKQ.out _ _ _ hg8 | exact HKP.out _ _ hg8 | go_keep) (fun hHeld => ?_)
            refine wpAnyH_take (i := 0) (v := ?vv0d) rfl (by kernel_rfl) (by kernel_rfl) (by kernel_rfl) (fun _ _ _ h => h) (Or.inl ⟨by rfl, ?yy0d⟩) (by assumption) ?rr0d
            case yy0d => (intro w hSw; (try dsimp only at hSw); go_simp; (try with_reducible rfl))
            try simp only [Act.put]
            refine wpAnyH_take (i := 2) (v := ?vv2d) rfl (by kernel_rfl) (by kernel_rfl) (by kernel_rfl) (fun _ _ _ h => h) (Or.inl ⟨by rfl, ?yy2d⟩) (by assumption) ?rr2d
            case yy2d => (intro w hSw; (try dsimp only at hSw); go_simp; (try with_reducible rfl))
            try simp only [Act.put]
            refine wpAnyH_take (i := 3) (v := ?vv3d) rfl (by kernel_rfl) (by kernel_rfl) (by kernel_rfl) (fun _ _ _ h => h) (Or.inl ⟨by rfl, ?yy3d⟩) (by assumption) ?rr3d
            case yy3d => (intro w hSw; (try dsimp only at hSw); go_simp; (try with_reducible rfl))
            try simp only [Act.put]
            refine wpAnyH_take (i := 4) (v := ?vv4d) rfl (by kernel_rfl) (by kernel_rfl) (by kernel_rfl) (fun _ _ _ h => h) (Or.inl ⟨by rfl, ?yy4d⟩) (by assumption) ?rr4d
            case yy4d => (intro w hSw; (try dsimp only at hSw); go_simp; (try with_reducible rfl))
            try simp only [Act.put]
            refine wpAnyH_take (i := 5) (v := ?vv5d) rfl (by kernel_rfl) (by kernel_rfl) (by kernel_rfl) (fun _ _ _ h => h) (Or.inl ⟨by rfl, ?yy5d⟩) (by assumption) ?rr5d
            case yy5d => (intro w hSw; (try dsimp only at hSw); go_simp; (try with_reducible rfl))
            try simp only [Act.put]
            refine wpAnyH_take (i := 6) (v := ?vv6d) rfl (by kernel_rfl) (by kernel_rfl) (by kernel_rfl) (fun _ _ _ h => h) (Or.inl ⟨by rfl, ?yy6d⟩) (by assumption) ?rr6d
            case yy6d => (intro w hSw; (try dsimp only at hSw); go_simp; (try with_reducible rfl))
            try simp only [Act.put]
            refine wpAnyH_take (i := 7) (v := ?vv7d) rfl (by kernel_rfl) (by kernel_rfl) (by kernel_rfl) (fun _ _ _ h => h) (Or.inl ⟨by rfl, ?yy7d⟩) (by assumption) ?rr7d
            case yy7d => (intro w hSw; (try dsimp only at hSw); go_simp; (try with_reducible rfl))
            try simp only [Act.put]
            refine wpAnyH_take (i := 8) (v := ?vv8d) rfl (by kernel_rfl) (by kernel_rfl) (by kernel_rfl) (fun _ _ _ h => h) (Or.inl ⟨by rfl, ?yy8d⟩) (by assumption) ?rr8d
            case yy8d => (intro w hSw; (try dsimp only at hSw); go_simp; (try with_reducible rfl))
            try simp only [Act.put]
            refine wpAnyH_take (i := 9) (v := ?vv9d) rfl (by kernel_rfl) (by kernel_rfl) (by kernel_rfl) (fun _ _ _ h => h) (Or.inl ⟨by rfl, ?yy9d⟩) (by assumption) ?rr9d
            case yy9d => (intro w hSw; (try dsimp only at hSw); go_simp; (try with_reducible rfl))
            try simp only [Act.put]
            refine wpAnyH_take (i := 10) (v := ?vv10d) rfl (by kernel_rfl) (by kernel_rfl) (by kernel_rfl) (fun _ _ _ h => h) (Or.inl ⟨by rfl, ?yy10d⟩) (by assumption) ?rr10d
            case yy10d => (intro w hSw; (try dsimp only at hSw); go_simp; (try with_reducible rfl))
            try simp only [Act.put]
            refine wpAnyH_take (i := 11) (v := ?vv11d) rfl (by kernel_rfl) (by kernel_rfl) (by kernel_rfl) (fun _ _ _ h => h) (Or.inl ⟨by rfl, ?yy11d⟩) (by assumption) ?rr11d
            case yy11d => (intro w hSw; (try dsimp only at hSw); go_simp; (try with_reducible rfl))
            try simp only [Act.put]
            refine wpAnyH_take (i := 12) (v := ?vv12d) rfl (by kernel_rfl) (by kernel_rfl) (by kernel_rfl) (fun _ _ _ h => h) (Or.inl ⟨by rfl, ?yy12d⟩) (by assumption) ?rr12d
            case yy12d => (intro w hSw; (try dsimp only at hSw); go_simp; (try with_reducible rfl))
            try simp only [Act.put]
            refine wpAnyH_take (i := 13) (v := ?vv13d) rfl (by kernel_rfl) (by kernel_rfl) (by kernel_rfl) (fun _ _ _ h => h) (Or.inl ⟨by rfl, ?yy13d⟩) (by assumption) ?rr13d
            case yy13d => (intro w hSw; (try dsimp only at hSw); go_simp; (try with_reducible rfl))
            try simp only [Act.put]
            refine wpAnyH_take (i := 14) (v := ?vv14d) rfl (by kernel_rfl) (by kernel_rfl) (by kernel_rfl) (fun _ _ _ h => h) (Or.inl ⟨by rfl, ?yy14d⟩) (by assumption) ?rr14d
            case yy14d => (intro w hSw; (try dsimp only at hSw); go_simp; (try with_reducible rfl))
            try simp only [Act.put]
            refine wpAnyH_take (i := 15) (v := ?vv15d) rfl (by kernel_rfl) (by kernel_rfl) (by kernel_rfl) (fun _ _ _ h => h) (Or.inl ⟨by rfl, ?yy15d⟩) (by assumption) ?rr15d
            case yy15d => (intro w hSw; (try dsimp only at hSw); go_simp; (try with_reducible rfl))
            try simp only [Act.put]
            refine wpAnyH_take (i := 16) (v := ?vv16d) rfl (by kernel_rfl) (by kernel_rfl) (by kernel_rfl) (fun _ _ _ h => h) (Or.inl ⟨by rfl, ?yy16d⟩) (by assumption) ?rr16d
            case yy16d => (intro w hSw; (try dsimp only at hSw); go_simp; (try with_reducible rfl))
            try simp only [Act.put]
            refine wpAnyH_take (i := 17) (v := ?vv17d) rfl (by kernel_rfl) (by kernel_rfl) (by kernel_rfl) (fun _ _ _ h => h) (Or.inl ⟨by rfl, ?yy17d⟩) (by assumption) ?rr17d
            case yy17d => (intro w hSw; (try dsimp only at hSw); go_simp; (try with_reducible rfl))
            try simp only [Act.put]
            refine wpAnyH_take (i := 18) (v := ?vv18d) rfl (by kernel_rfl) (by kernel_rfl) (by kernel_rfl) (fun _ _ _ h => h) (Or.inl ⟨by rfl, ?yy18d⟩) (by assumption) ?rr18d
            case yy18d => (intro w hSw; (try dsimp only at hSw); go_simp; (try with_reducible rfl))
            try simp only [Act.put]
            refine wpAnyH_take (i := 19) (v := ?vv19d) rfl (by kernel_rfl) (by kernel_rfl) (by kernel_rfl) (fun _ _ _ h => h) (Or.inl ⟨by rfl, ?yy19d⟩) (by assumption) ?rr19d
            case yy19d => (intro w hSw; (try dsimp only at hSw); go_simp; (try with_reducible rfl))
            try simp only [Act.put]
            refine wpAnyH_take (i := 20) (v := ?vv20d) rfl (by kernel_rfl) (by kernel_rfl) (by kernel_rfl) (fun _ _ _ h => h) (Or.inl ⟨by rfl, ?yy20d⟩) (by assumption) ?rr20d
            case yy20d => (intro w hSw; (try dsimp only at hSw); go_simp; (try with_reducible rfl))
            try simp only [Act.put]
            refine wpAnyH_ready (rs := [1, 21]) (by kernel_rfl) (by simp) ?_
            refine AllReadyH.cons rfl (fun K hK => ?_) (AllReadyH.cons rfl (fun K hK => ?_) AllReadyH.nil)
            · go_simp
              refine hK.out _ _ (by (try dsimp only); first | exact HKQ.out _ _ _ hg8 | exact HKP.out _ _ hg8 | go_keep) (fun hHeld => ?_)
              clear hK K
              refine wpAnyH_ready (rs := [21]) (by kernel_rfl) (by simp) ?_
              refine AllReadyH.cons rfl (fun K hK => ?_) AllReadyH.nil
              go_simp
              refine hK.out _ _ (by (try dsimp only); first | exact HKQ.out _ _ _ hg8 | exact HKP.out _ _ hg8 | go_keep) (fun hHeld => ?_)
              clear hK K
              refine wpAnyH_ready (rs := [22]) (by kernel_rfl) (by simp) ?_
              refine AllReadyH.cons rfl (fun K hK => ?_) AllReadyH.nil
              (refine step_append_own rfl (.tmp 127) (.tmp 147) 22 rfl (w1.heap.size + 1) 68 i0 (.agg #[.int .i64 0, .int .i64 0, .int .i64 0, .int .i64 0, .bool false]) 5 40 Try.underlying22 hi hz0 hz1 hz2 rfl (by decide) _ acc.length _ (by simp [Act.eval]) (HOD.out.row.alloc _) ⟨W3.drew.heap.size, 0, none⟩ 1 1 [.int .i64 (f 0), .int .i64 (f 1), .int .i64 (f 2), .int .i64 (f 3), .bool X.plus] (by simp [Act.eval]) rfl (new_cell5 _ _ _ _ _ _ _) (cells_one [(⟨f 0, f 1, f 2, f 3, X.plus⟩ : Cr)]) (by unfold maxLen; omega) (by omega) (by simp; omega) ?_; intro v8 w8 hown8 hg8; obtain ⟨a8, c8, ev8⟩ := own_capS hown8; subst ev8; have hb8 := HOD.out.box8 (by omega) hg8; have r0 : w8.cell? ⟨w1.heap.size, 0, none⟩ = some (.slice a3 acc.length c3') := block_cell hb8 rfl; have r1 : w8.frozen? ⟨w1.heap.size, 0, none⟩ = false := block_frozen hb8; have r2 : w1.heap.size < w8.heap.size := (Array.getElem?_eq_some_iff.1 hb8).1; clear hb8)
              refine hK.out _ _ (by (try dsimp only); first | exact HKQ.out _ _ _ hg8 | exact HKP.out _ _ hg8 | go_keep) (fun hHeld => ?_)
              clear hK K
              refine wpAnyH_take (i := 23) (v := ?vv23ad) rfl (by kernel_rfl) (by kernel_rfl) (by kernel_rfl) (fun _ _ _ h => h) (Or.inl ⟨by rfl, ?yy23ad⟩) (by assumption) ?rr23ad
              case yy23ad => (intro w hSw; (try dsimp only at hSw); go_simp; (try with_reducible rfl))
              try simp only [Act.put]
              refine wpAnyH_ready (rs := [24]) (by kernel_rfl) (by simp) ?_
              refine AllReadyH.cons rfl (fun K hK => ?_) AllReadyH.nil
              go_simp
              refine hK.out _ _ (by (try dsimp only); first | exact HKQ.out _ _ _ hg8 | exact HKP.out _ _ hg8 | go_keep) (fun hHeld => ?_)
              clear hK K
              refine wpAnyH_done (by kernel_rfl) ?_ _
              have hs8 : W3.heap.size + 1 ≤ w8.heap.size := by have := hg8.size; simpa using this
              clear k0 k1 k2 k3 d0 hp9 t0 r0 r1 hHeld
              go_wp2
              go_roundw
              all_goals first
                | (simp only [intOf]; omega)
                | exact ⟨i + 1, .slice a8 (acc.length + 1) c8, acc ++ [(⟨f 0, f 1, f 2, f 3, X.plus⟩ : Cr)], by omega, by go_num, (by have := hal.out; simp; omega : (acc ++ [(⟨f 0, f 1, f 2, f 3, X.plus⟩ : Cr)]).length = i + 1), (by rw [HYE.out, HNX.out, HGET.out, hacc.out] : acc ++ [(⟨f 0, f 1, f 2, f 3, X.plus⟩ : Cr)] = (tieC C D x y).take (i + 1)), HOD.out.app (by omega) rfl hown8 hg8, ⟨HOD.out.other HXD.out.1 (by omega) (by omega) hg8, HOD.out.other HXD.out.2.1 (by omega) (by omega) hg8, HOD.out.other HXD.out.2.2 (by omega) (by omega) hg8⟩, (by simp; omega), HOD.out.below HBD.out (by omega) (by omega) (by omega) hg8⟩
            · go_simp
              refine hK.out _ _ (by (try dsimp only); first | exact HKQ.out _ _ _ hg8 | exact HKP.out _ _ hg8 | go_keep) (fun hHeld => ?_)
              clear hK K
              refine wpAnyH_ready (rs := [1]) (by kernel_rfl) (by simp) ?_
              refine AllReadyH.cons rfl (fun K hK => ?_) AllReadyH.nil
              go_simp
              refine hK.out _ _ (by (try dsimp only); first | exact HKQ.out _ _ _ hg8 | exact HKP.out _ _ hg8 | go_keep) (fun hHeld => ?_)
              clear hK K
              refine wpAnyH_ready (rs := [22]) (by kernel_rfl) (by simp) ?_
              refine AllReadyH.cons rfl (fun K hK => ?_) AllReadyH.nil
              (refine step_append_own rfl (.tmp 127) (.tmp 147) 22 rfl (w1.heap.size + 1) 68 i0 (.agg #[.int .i64 0, .int .i64 0, .int .i64 0, .int .i64 0, .bool false]) 5 40 Try.underlying22 hi hz0 hz1 hz2 rfl (by decide) _ acc.length _ (by simp [Act.eval]) (HOD.out.row.alloc _) ⟨W3.drew.heap.size, 0, none⟩ 1 1 [.int .i64 (f 0), .int .i64 (f 1), .int .i64 (f 2), .int .i64 (f 3), .bool X.plus] (by simp [Act.eval]) rfl (new_cell5 _ _ _ _ _ _ _) (cells_one [(⟨f 0, f 1, f 2, f 3, X.plus⟩ : Cr)]) (by unfold maxLen; omega) (by omega) (by simp; omega) ?_; intro v8 w8 hown8 hg8; obtain ⟨a8, c8, ev8⟩ := own_capS hown8; subst ev8; have hb8 := HOD.out.box8 (by omega) hg8; have r0 : w8.cell? ⟨w1.heap.size, 0, none⟩ = some (.slice a3 acc.length c3') := block_cell hb8 rfl; have r1 : w8.frozen? ⟨w1.heap.size, 0, none⟩ = false := block_frozen hb8; have r2 : w1.heap.size < w8.heap.size := (Array.getElem?_eq_some_iff.1 hb8).1; clear hb8)
              refine hK.out _ _ (by (try dsimp only); first | exact HKQ.out _ _ _ hg8 | exact HKP.out _ _ hg8 | go_keep) (fun hHeld => ?_)
              clear hK K
              refine wpAnyH_take (i := 23) (v := ?vv23bd) rfl (by kernel_rfl) (by kernel_rfl) (by kernel_rfl) (fun _ _ _ h => h) (Or.inl ⟨by rfl, ?yy23bd⟩) (by assumption) ?rr23bd
              case yy23bd => (intro w hSw; (try dsimp only at hSw); go_simp; (try with_reducible rfl))
              try simp only [Act.put]
              refine wpAnyH_ready (rs := [24]) (by kernel_rfl) (by simp) ?_
              refine AllReadyH.cons rfl (fun K hK => ?_) AllReadyH.nil
              go_simp
              refine hK.out _ _ (by (try dsimp only); first | exact HKQ.out _ _ _ hg8 | exact HKP.out _ _ hg8 | go_keep) (fun hHeld => ?_)
              clear hK K
              refine wpAnyH_done (by kernel_rfl) ?_ _
              have hs8 : W3.heap.size + 1 ≤ w8.heap.size := by have := hg8.size; simpa using this
              clear k0 k1 k2 k3 d0 hp9 t0 r0 r1 hHeld
              go_wp2
              go_roundw
              all_goals first
                | (simp only [intOf]; omega)
                | exact ⟨i + 1, .slice a8 (acc.length + 1) c8, acc ++ [(⟨f 0, f 1, f 2, f 3, X.plus⟩ : Cr)], by omega, by go_num, (by have := hal.out; simp; omega : (acc ++ [(⟨f 0, f 1, f 2, f 3, X.plus⟩ : Cr)]).length = i + 1), (by rw [HYE.out, HNX.out, HGET.out, hacc.out] : acc ++ [(⟨f 0, f 1, f 2, f 3, X.plus⟩ : Cr)] = (tieC C D x y).take (i + 1)), HOD.out.app (by omega) rfl hown8 hg8, ⟨HOD.out.other HXD.out.1 (by omega) (by omega) hg8, HOD.out.other HXD.out.2.1 (by omega) (by omega) hg8, HOD.out.other HXD.out.2.2 (by omega) (by omega) hg8⟩, (by simp; omega), HOD.out.below HBD.out (by omega) (by omega) (by omega) hg8⟩
    · obtain rfl : i = C.length + D.length := by omega
      have hdi : decide (((C.length + D.length : Nat) : Int) < (C.length : Int) + (D.length : Int)) = false := by simp
      have hdi2 : decide ((C.length : Int) + (D.length : Int) < (C.length : Int) + (D.length : Int)) = false := by simp
      have e : acc = tieC C D x y := by rw [hacc.out, List.take_of_length_le (by simp [tieC])]
      have HO : Hid (OutAt W1 (w1.heap.size + 1) (w1.heap.size) v3 (l1 + l2) (tieC C D x y)) := (by rw [← e]; exact HOUT.out : OutAt W1 (w1.heap.size + 1) (w1.heap.size) v3 (l1 + l2) (tieC C D x y))
      have hlen : (tieC C D x y).length ≤ 100 := by simp [tieC]; omega
      clear hacc e HOUT hal hal32
      obtain ⟨a3, c3', ev3⟩ := own_capS HO.out.row
      subst ev3
      have q0 : W1.cell? ⟨w1.heap.size, 0, none⟩ = some (.slice a3 (tieC C D x y).length c3') := block_cell HO.out.box rfl
      have q1 : W1.cell? ⟨w1.heap.size, 1, none⟩ = some (.int .i64 (l1 + l2)) := block_cell HO.out.box rfl
      have r0 : W1.cell? ⟨w.heap.size + 1 + 1, 0, none⟩ = some (.slice none 0 0) := block_cell hbx.out.2.2 rfl
      have r1 : W1.cell? ⟨w.heap.size + 1 + 1, 1, none⟩ = some (.int .i64 0) := block_cell hbx.out.2.2 rfl
      have f0 : W1.frozen? ⟨w.heap.size + 1 + 1, 0, none⟩ = false := block_frozen hbx.out.2.2
      have f1 : W1.frozen? ⟨w.heap.size + 1 + 1, 1, none⟩ = false := block_frozen hbx.out.2.2
      have lr : w.heap.size + 1 + 1 < W1.heap.size := by omega
      have lg : w1.heap.size < W1.heap.size := by omega
      go_wp2
      have hX := set_block (i := 1) (u := .int .i64 (l1 + l2)) (set_block (i := 0) (u := .slice a3 (tieC C D x y).length c3') hbx.out.2.2)
      have z0 := block_cell (i := 0) (v := .slice a3 (tieC C D x y).length c3') hX rfl
      have z1 := block_cell (i := 1) (v := .int .i64 (l1 + l2)) hX rfl
      have hk := HO.out.kept (st2_grown W1 (w.heap.size + 1 + 1) 0 (.slice a3 (tieC C D x y).length c3') (.int .i64 (l1 + l2))) (by omega) (by omega)
      exact bodyPost_ret (v := .tuple #[.agg #[.slice a3 (tieC C D x y).length c3', .int .i64 (l1 + l2)], .int .i64 0]) (by simp [results, Try.results43, go_sem, z0, z1]) rfl ⟨_, rfl, crs_own hk.row (by unfold maxLen; omega), hb.grown (st2_grown W1 (w.heap.size + 1 + 1) 0 (.slice a3 (tieC C D x y).length c3') (.int .i64 (l1 + l2))) (by omega) (fun q hq => by have := Option.some.inj hq; omega)⟩
end Go.Proofs.Ytnmgeegmiijflaa
