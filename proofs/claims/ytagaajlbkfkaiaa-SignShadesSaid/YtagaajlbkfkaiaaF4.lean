/- The walk of ref.PiecesOf. -/
import Derived.Test.YtagaajlbkfkaiaaF3
namespace Go.Proofs.Ytagaajlbkfkaiaa
open Go.RowKit

theorem made_zeroN (n : Nat) : (madeCells (Value.int .i64 0).cells (n * 1)).toList = nats (List.replicate n 0) := by
  have e : (Value.int .i64 0).cells = #[Value.int .i64 0] := rfl
  rw [e, toList_madeCells_one, Nat.mul_one]
  simp [nats]
theorem nats_set (l : List Nat) (i z : Nat) : (nats l).set i (.int .i64 (z : Nat)) = nats (l.set i z) := by simp [nats, List.map_set]
theorem field_spot (a b : Int) (w : World) : (Instr.field 96 (.agg #[.int .i64 a, .int .i64 b]) 0).run Try.prog w = .ok (.int .i64 a) w := by
  simp [Instr.field, run_underlying Try.underlying96, go_sem, asAgg]
/-- The first i labels are laid. -/
def labTo (n i : Nat) : List Nat := (List.range n).map fun v => if v < i then v else 0
theorem labTo_zero (n : Nat) : List.replicate n 0 = labTo n 0 := by
  refine List.ext_getElem (by simp [labTo]) fun j h1 h2 => ?_
  simp [labTo]
theorem labTo_next (n i : Nat) : (labTo n i).set i i = labTo n (i + 1) := by
  refine List.ext_getElem (by simp [labTo]) fun j h1 h2 => ?_
  simp only [List.getElem_set, labTo, List.getElem_map, List.getElem_range]
  split
  · rename_i h; subst h; simp
  · rename_i h
    by_cases h3 : j < i
    · rw [if_pos h3, if_pos (by omega)]
    · rw [if_neg h3, if_neg (by omega)]
theorem labTo_all (n : Nat) : labTo n n = List.range n := by
  refine List.ext_getElem (by simp [labTo]) fun j h1 h2 => ?_
  simp only [labTo, List.getElem_map, List.getElem_range]
  rw [if_pos (by simpa [labTo] using h1)]
theorem arcE_next (C : List Cr) (i : Nat) (hi : i < 2 * C.length) : (arcE C).take (i + 1) = (arcE C).take i ++ [(enC C (i + 1) true, enC C (i + 1) false)] := by
  rw [List.take_add_one]
  congr 1
  simp [arcE, hi]
theorem levs_step (V : List Nat) (C : List Cr) (i : Nat) (hi : i < 2 * C.length) : levs V ((arcE C).take (i + 1)) = lev (levs V ((arcE C).take i)) (enC C (i + 1) true) (enC C (i + 1) false) := by
  rw [arcE_next C i hi, levs_app]
  rfl
theorem arcE_all (C : List Cr) : (arcE C).take (2 * C.length) = arcE C := List.take_of_length_le (by simp [arcE])

set_option maxHeartbeats 16000000 in
set_option maxRecDepth 100000 in
theorem piecesOf_any (a : Option Addr) (cap : Nat) (C : List Cr) (loops : Int) (w : World) (hm : mayD C loops = true) (hD : Crs w w.heap.size (.slice a C.length cap) C) :
    Calls Try.prog 62 #[.agg #[.slice a C.length cap, .int .i64 loops]] w fun e w' => ∃ v W, e = .returned v ∧ w'.ownsRow w.heap.size 3 1 v C.length (nats W) ∧ Least (arcE C) C.length W ∧ Below w.heap.size w w' := by
  obtain ⟨s1, -, -, -⟩ := sizeB_iff (may_size hm)
  obtain ⟨i2, hk, hx0, hx1, hx2⟩ := info_parts infoInt
  have HM : Hid (mayD C loops = true) := hm
  have HD : Hid (Crs w w.heap.size (.slice a C.length cap) C) := hD
  clear hm hD
  obtain ⟨w0, hw0⟩ : ∃ w0, w0 = w.alloc (.cells #[.slice a C.length cap, .int .i64 loops] 24) := ⟨_, rfl⟩
  have HW0 : Hid (w0 = w.alloc (.cells #[.slice a C.length cap, .int .i64 loops] 24)) := hw0
  have hs0 : w0.heap.size = w.heap.size + 1 := by rw [hw0]; simp
  have HB0 : Hid (Below w.heap.size w w0) := (by rw [hw0]; exact (Below.refl _ _).alloc (Nat.le_refl _) _ : Below w.heap.size w w0)
  have HT0 : Hid (w0.heap[w.heap.size]? = some (.cells #[.slice a C.length cap, .int .i64 loops] 24 (0, 0))) := (by rw [hw0]; exact alloc_at rfl : w0.heap[w.heap.size]? = some (.cells #[.slice a C.length cap, .int .i64 loops] 24 (0, 0)))
  clear hw0
  go_enter Try.func62, Try.ntmps62
  go_wp2_with (first | (at_make; refine wpList_make_full _ rfl _ _ 46 rfl (w.heap.size + 1) 3 i2 (.int .i64 0) 1 Try.underlying46 hk hx0 hx1 .i64 .i64 _ _ C.length rfl rfl rfl rfl (by rw [hx2]; omega) (by unfold maxLen; omega) (by simp) ?_; intro w1 hrow hg1; refine Hid.out ?_))
  refine Lib.hid ?_
  rw [← HW0.out] at hrow hg1
  rw [made_zeroN, hs0, labTo_zero] at hrow
  have HP0 : Hid (w1.heap[w.heap.size]? = some (.cells #[.slice a C.length cap, .int .i64 loops] 24 (0, 0)) ∧ w1.ownsRow (w.heap.size + 1) 3 1 (.slice (some ⟨w.heap.size + 1, 0, none⟩) C.length C.length) C.length (nats (labTo C.length 0)) ∧ Below w.heap.size w w1) := ⟨(hg1.block _ (by omega) (by simp)).trans HT0.out, hrow, HB0.out.grown hg1 (by omega) (fun k hk => by cases hk)⟩
  have q1 : IntKind.i64.wrap (2 * (C.length : Int)) = 2 * (C.length : Int) := IntWalk.i64_in _ (by omega)
  clear hrow hg1 HT0 HB0 hs0 HW0
  go_wp2
  go_loopw [5] (fun v5 wr => ∃ i : Nat, i ≤ C.length ∧ v5 = .int .i64 (i : Nat) ∧ Hid (wr.heap[w.heap.size]? = some (.cells #[.slice a C.length cap, .int .i64 loops] 24 (0, 0)) ∧ wr.ownsRow (w.heap.size + 1) 3 1 (.slice (some ⟨w.heap.size + 1, 0, none⟩) C.length C.length) C.length (nats (labTo C.length i)) ∧ Below w.heap.size w wr)) (fun v5 _ => C.length - (intOf v5).toNat)
  case atStart => exact ⟨0, Nat.zero_le _, rfl, HP0.out⟩
  case round =>
    clear HP0
    rename World => W1
    obtain ⟨i, hin, rfl, hp⟩ := hrel
    have hlt := hp.out.2.1.lt (w.heap.size + 1) rfl
    by_cases hil : i < C.length
    · have hst := hp.out.2.1.stored i (.int .i64 (i : Nat))
      rw [nats_set, labTo_next] at hst
      have HST : Hid ((W1.setCell ⟨w.heap.size + 1, i, none⟩ (.int .i64 (i : Nat))).heap[w.heap.size]? = some (.cells #[.slice a C.length cap, .int .i64 loops] 24 (0, 0)) ∧ (W1.setCell ⟨w.heap.size + 1, i, none⟩ (.int .i64 (i : Nat))).ownsRow (w.heap.size + 1) 3 1 (.slice (some ⟨w.heap.size + 1, 0, none⟩) C.length C.length) C.length (nats (labTo C.length (i + 1))) ∧ Below w.heap.size w (W1.setCell ⟨w.heap.size + 1, i, none⟩ (.int .i64 (i : Nat)))) := ⟨(hst.2.block _ (by omega) (fun e => by have : w.heap.size = w.heap.size + 1 := Option.some.inj e; omega)).trans hp.out.1, hst.1, hp.out.2.2.grown hst.2 hp.out.2.2.size (fun q hq => by have := Option.some.inj hq; omega)⟩
      have e0 : W1.cell? ⟨w.heap.size + 1, i, none⟩ = some (.int .i64 ((labTo C.length i).getD i 0 : Nat)) := by
        rw [hp.out.2.1.cellAt i (by omega)]; exact nats_get _ i (by simp [labTo]; omega)
      have z0 : W1.frozen? ⟨w.heap.size + 1, i, none⟩ = false := hp.out.2.1.frozenAt i
      clear hst
      go_wp2
      go_roundw
      case rel => exact ⟨i + 1, by omega, by go_num, HST.out⟩
      case measure => simp only [intOf]; omega
    · obtain rfl : i = C.length := by omega
      have HP1 : Hid (W1.heap[w.heap.size]? = some (.cells #[.slice a C.length cap, .int .i64 loops] 24 (0, 0)) ∧ W1.ownsRow (w.heap.size + 1) 3 1 (.slice (some ⟨w.heap.size + 1, 0, none⟩) C.length C.length) C.length (nats (levR (List.range C.length) (arcE C) 0)) ∧ Below w.heap.size w W1) := (by have h := hp.out; rw [labTo_all] at h; exact h : (W1.heap[w.heap.size]? = some (.cells #[.slice a C.length cap, .int .i64 loops] 24 (0, 0)) ∧ W1.ownsRow (w.heap.size + 1) 3 1 (.slice (some ⟨w.heap.size + 1, 0, none⟩) C.length C.length) C.length (nats (levR (List.range C.length) (arcE C) 0)) ∧ Below w.heap.size w W1))
      have HLN : Hid (∀ r, (levR (List.range C.length) (arcE C) r).length = C.length) := fun r => (levR_lab (arcE_lt HM.out) ⟨by simp, fun v hv => by simp [List.getD_eq_getElem?_getD, hv], fun v hv => by simp [List.getD_eq_getElem?_getD, hv, Con.refl]⟩ r).len
      clear hp
      go_wp2
      go_loopw [6] (fun v6 wr => ∃ r : Nat, r ≤ C.length ∧ v6 = .int .i64 (r : Nat) ∧ Hid (wr.heap[w.heap.size]? = some (.cells #[.slice a C.length cap, .int .i64 loops] 24 (0, 0)) ∧ wr.ownsRow (w.heap.size + 1) 3 1 (.slice (some ⟨w.heap.size + 1, 0, none⟩) C.length C.length) C.length (nats (levR (List.range C.length) (arcE C) r)) ∧ Below w.heap.size w wr)) (fun v6 _ => C.length - (intOf v6).toNat)
      case atStart => exact ⟨0, Nat.zero_le _, rfl, HP1.out⟩
      case round =>
        clear HP1
        rename World => W2
        obtain ⟨r, hrn, rfl, hp⟩ := hrel
        by_cases hrl : r < C.length
        · have hdr : decide ((r : Int) < (C.length : Int)) = true := by simp; omega
          have hdr2 : decide (r < C.length) = true := by simp; omega
          obtain ⟨V, hV⟩ : ∃ V, levR (List.range C.length) (arcE C) r = V := ⟨_, rfl⟩
          have HV : Hid (levR (List.range C.length) (arcE C) r = V) := hV
          have HVL : Hid (V.length = C.length) := (by rw [← hV]; exact HLN.out r : V.length = C.length)
          have HP2 : Hid (W2.heap[w.heap.size]? = some (.cells #[.slice a C.length cap, .int .i64 loops] 24 (0, 0)) ∧ W2.ownsRow (w.heap.size + 1) 3 1 (.slice (some ⟨w.heap.size + 1, 0, none⟩) C.length C.length) C.length (nats (levs V ((arcE C).take 0))) ∧ Below w.heap.size w W2) := (by have h := hp.out; rw [hV] at h; exact h : (W2.heap[w.heap.size]? = some (.cells #[.slice a C.length cap, .int .i64 loops] 24 (0, 0)) ∧ W2.ownsRow (w.heap.size + 1) 3 1 (.slice (some ⟨w.heap.size + 1, 0, none⟩) C.length C.length) C.length (nats (levs V ((arcE C).take 0))) ∧ Below w.heap.size w W2))
          clear hp hV
          go_wp2
          go_loopw [7] (fun v7 wr => ∃ i j : Nat, i ≤ 2 * C.length ∧ Hid (j = i + 1) ∧ v7 = .int .i64 (j : Nat) ∧ Hid (wr.heap[w.heap.size]? = some (.cells #[.slice a C.length cap, .int .i64 loops] 24 (0, 0)) ∧ wr.ownsRow (w.heap.size + 1) 3 1 (.slice (some ⟨w.heap.size + 1, 0, none⟩) C.length C.length) C.length (nats (levs V ((arcE C).take i))) ∧ Below w.heap.size w wr)) (fun v7 _ => 2 * C.length + 1 - (intOf v7).toNat)
          case atStart => exact ⟨0, 1, Nat.zero_le _, (rfl : 1 = 0 + 1), rfl, HP2.out⟩
          case round =>
            clear HP2
            rename World => W3
            obtain ⟨i, j, hin, hji, rfl, hp⟩ := hrel
            by_cases hil : i < 2 * C.length
            · have hj1 : 1 ≤ j := by have := hji.out; omega
              have hj2 : j ≤ 2 * C.length := by have := hji.out; omega
              have hdj : decide ((j : Int) ≤ 2 * (C.length : Int)) = true := by simp; omega
              have hdj2 : decide (j ≤ 2 * C.length) = true := by simp; omega
              obtain ⟨b, off, ea, hbw, hC⟩ := crs_some HD.out (by omega)
              have HEA : Hid (a = some ⟨b, off, none⟩) := ea
              have HCC : Hid (∀ w', Below W3.heap.size W3 w' → CrossAt w' b off C) := fun w' hb => (hC.on hp.out.2.2 hbw).on hb (Nat.lt_of_lt_of_le hbw hp.out.2.2.size)
              have hs3 := hp.out.2.2.size
              have hgl := hp.out.2.1.lt (w.heap.size + 1) rfl
              obtain ⟨L, hL⟩ : ∃ L, levs V ((arcE C).take i) = L := ⟨_, rfl⟩
              have HLL : Hid (levs V ((arcE C).take i) = L) := hL
              have HP3 : Hid (W3.heap[w.heap.size]? = some (.cells #[.slice a C.length cap, .int .i64 loops] 24 (0, 0)) ∧ W3.ownsRow (w.heap.size + 1) 3 1 (.slice (some ⟨w.heap.size + 1, 0, none⟩) C.length C.length) C.length (nats L) ∧ Below w.heap.size w W3) := (by rw [← hL]; exact hp.out : (W3.heap[w.heap.size]? = some (.cells #[.slice a C.length cap, .int .i64 loops] 24 (0, 0)) ∧ W3.ownsRow (w.heap.size + 1) 3 1 (.slice (some ⟨w.heap.size + 1, 0, none⟩) C.length C.length) C.length (nats L) ∧ Below w.heap.size w W3))
              have HLN2 : Hid (L.length = C.length) := (by have h := HP3.out.2.1.1; rw [nats_len] at h; omega : L.length = C.length)
              obtain ⟨x1, x2, x3, -, -⟩ := en_may HM.out j true hj1 hj2
              obtain ⟨y1, y2, y3, -, -⟩ := en_may HM.out j false hj1 hj2
              obtain ⟨x, hx⟩ : ∃ x, enC C j true = x := ⟨_, rfl⟩
              obtain ⟨y, hy⟩ : ∃ y, enC C j false = y := ⟨_, rfl⟩
              obtain ⟨xs, hxs⟩ : ∃ xs, enS C j true = xs := ⟨_, rfl⟩
              obtain ⟨ys, hys⟩ : ∃ ys, enS C j false = ys := ⟨_, rfl⟩
              have HE1 : Hid (∀ W, b < W.heap.size → CrossAt W b off C → Calls Try.prog 63 #[.agg #[.slice (some ⟨b, off, none⟩) C.length cap, .int .i64 loops], .int .i64 j, .bool false] W fun e w' => e = .returned (.agg #[.int .i64 (x : Nat), .int .i64 (xs : Nat)]) ∧ Below W.heap.size W w') := fun W hW hCW => by
                have h := endOf_any b off cap C loops j false W HM.out hj1 hj2 hW hCW
                rw [show (!false) = true from rfl, x1, hx, hxs] at h
                exact h
              have HE2 : Hid (∀ W, b < W.heap.size → CrossAt W b off C → Calls Try.prog 63 #[.agg #[.slice (some ⟨b, off, none⟩) C.length cap, .int .i64 loops], .int .i64 j, .bool true] W fun e w' => e = .returned (.agg #[.int .i64 (y : Nat), .int .i64 (ys : Nat)]) ∧ Below W.heap.size W w') := fun W hW hCW => by
                have h := endOf_any b off cap C loops j true W HM.out hj1 hj2 hW hCW
                rw [show (!true) = false from rfl, y1, hy, hys] at h
                exact h
              rw [hx] at x2
              rw [hy] at y2
              have HXX : Hid (enC C j true = x) := hx
              have HYY : Hid (enC C j false = y) := hy
              have HF : Hid (∀ w', Below W3.heap.size W3 w' → w'.cell? ⟨w.heap.size, 0, none⟩ = some (.slice (some ⟨b, off, none⟩) C.length cap) ∧ w'.cell? ⟨w.heap.size, 1, none⟩ = some (.int .i64 loops)) := fun w' hb => by
                have g := (hb.block _ (by omega)).trans HP3.out.1
                rw [HEA.out] at g
                exact ⟨block_cell g rfl, block_cell g rfl⟩
              have HD3 : Hid (Below W3.heap.size W3 W3.drew) := (Below.refl _ _).drew
              have hb3 : b < W3.heap.size := by omega
              have hfs := field_spot
              clear hC ea hp hL hx hy hxs hys x1 y1 x3 y3
              go_wp2
              obtain ⟨t0, t1⟩ := HF.out W3 (Below.refl _ _)
              go_region_held3 (fun w' => w'.cell? ⟨w.heap.size, 0, none⟩ = some (.slice (some ⟨b, off, none⟩) C.length cap) ∧ w'.cell? ⟨w.heap.size, 1, none⟩ = some (.int .i64 loops)) (first | exact HF.out _ H5.out | exact HF.out _ H4.out | exact HF.out _ HD3.out) (first
                | (go_at_call 63; have hAA := H4; clear hAA; refine (HE2.out _ hb4 (HCC.out _ H4.out)).mono ?_; rintro e9 w5 ⟨rfl, hb5⟩
                   have H5 : Hid (Below W3.heap.size W3 w5) := H4.out.trans (hb5.mono H4.out.size)
                   clear hb5)
                | (go_at_call 63; refine (HE1.out W3.drew hb3 (HCC.out _ HD3.out)).mono ?_; rintro e9 w4 ⟨rfl, hb4'⟩
                   have H4 : Hid (Below W3.heap.size W3 w4) := HD3.out.trans (hb4'.mono HD3.out.size)
                   have hb4 : b < w4.heap.size := by have := H4.out.size; omega
                   clear hb4'))
              all_goals
                clear hfs t0 t1
                have hs5 := H5.out.size
                have HR5 : Hid (w5.ownsRow (w.heap.size + 1) 3 1 (.slice (some ⟨w.heap.size + 1, 0, none⟩) C.length C.length) C.length (nats L)) := own_any HP3.out.2.1 (grown_below H5.out none)
                have HB5 : Hid (Below w.heap.size w w5) := HP3.out.2.2.trans (H5.out.mono hs3)
                have HT5 : Hid (w5.heap[w.heap.size]? = some (.cells #[.slice a C.length cap, .int .i64 loops] 24 (0, 0))) := (H5.out.block _ (by omega)).trans HP3.out.1
                have e0 : w5.cell? ⟨w.heap.size + 1, x, none⟩ = some (.int .i64 (L.getD x 0 : Nat)) := by
                  rw [HR5.out.cellAt x (by omega)]; exact nats_get _ x (by rw [HLN2.out]; exact x2)
                have e1 : w5.cell? ⟨w.heap.size + 1, y, none⟩ = some (.int .i64 (L.getD y 0 : Nat)) := by
                  rw [HR5.out.cellAt y (by omega)]; exact nats_get _ y (by rw [HLN2.out]; exact y2)
                have l5 : w.heap.size + 1 < w5.heap.size := by omega
                by_cases hlt : L.getD x 0 < L.getD y 0
                · have hdx : decide (((L.getD x 0 : Nat) : Int) < ((L.getD y 0 : Nat) : Int)) = true := by simp only [decide_eq_true_eq]; omega
                  have hdx2 : decide (L.getD x 0 < L.getD y 0) = true := by simp only [decide_eq_true_eq]; omega
                  have hst := HR5.out.stored y (.int .i64 (L.getD x 0 : Nat))
                  rw [nats_set] at hst
                  have HLV : Hid (levs V ((arcE C).take (i + 1)) = L.set y (L.getD x 0)) := (by rw [levs_step V C i hil, HLL.out, ← hji.out, HXX.out, HYY.out]; unfold lev; rw [if_pos hlt] : levs V ((arcE C).take (i + 1)) = L.set y (L.getD x 0))
                  have HST : Hid ((w5.setCell ⟨w.heap.size + 1, y, none⟩ (.int .i64 (L.getD x 0 : Nat))).drew.heap[w.heap.size]? = some (.cells #[.slice a C.length cap, .int .i64 loops] 24 (0, 0)) ∧ (w5.setCell ⟨w.heap.size + 1, y, none⟩ (.int .i64 (L.getD x 0 : Nat))).drew.ownsRow (w.heap.size + 1) 3 1 (.slice (some ⟨w.heap.size + 1, 0, none⟩) C.length C.length) C.length (nats (levs V ((arcE C).take (i + 1)))) ∧ Below w.heap.size w (w5.setCell ⟨w.heap.size + 1, y, none⟩ (.int .i64 (L.getD x 0 : Nat))).drew) := (by rw [HLV.out]; exact ⟨(hst.2.block _ (by omega) (fun e => by have : w.heap.size = w.heap.size + 1 := Option.some.inj e; omega)).trans HT5.out, hst.1, (HB5.out.grown hst.2 HB5.out.size (fun q hq => by have := Option.some.inj hq; omega)).drew⟩ : ((w5.setCell ⟨w.heap.size + 1, y, none⟩ (.int .i64 (L.getD x 0 : Nat))).drew.heap[w.heap.size]? = some (.cells #[.slice a C.length cap, .int .i64 loops] 24 (0, 0)) ∧ (w5.setCell ⟨w.heap.size + 1, y, none⟩ (.int .i64 (L.getD x 0 : Nat))).drew.ownsRow (w.heap.size + 1) 3 1 (.slice (some ⟨w.heap.size + 1, 0, none⟩) C.length C.length) C.length (nats (levs V ((arcE C).take (i + 1)))) ∧ Below w.heap.size w (w5.setCell ⟨w.heap.size + 1, y, none⟩ (.int .i64 (L.getD x 0 : Nat))).drew))
                  have z0 : w5.frozen? ⟨w.heap.size + 1, y, none⟩ = false := HR5.out.frozenAt y
                  clear hst
                  go_wp2
                  go_region_held3 (fun w' => w'.cell? ⟨w.heap.size + 1, x, none⟩ = some (.int .i64 (L.getD x 0 : Nat)) ∧ w'.cell? ⟨w.heap.size + 1, y, none⟩ = some (.int .i64 (L.getD y 0 : Nat))) (exact ⟨e0, e1⟩) (fail)
                  go_wp2
                  go_roundw
                  case rel => exact ⟨i + 1, j + 1, by omega, (by have := hji.out; omega : j + 1 = i + 1 + 1), by go_num, HST.out⟩
                  case measure => simp only [intOf]; omega
                · have hdx : decide (((L.getD x 0 : Nat) : Int) < ((L.getD y 0 : Nat) : Int)) = false := by simp only [decide_eq_false_iff_not]; omega
                  have hdx2 : decide (L.getD x 0 < L.getD y 0) = false := by simp only [decide_eq_false_iff_not]; omega
                  have hst := HR5.out.stored x (.int .i64 (L.getD y 0 : Nat))
                  rw [nats_set] at hst
                  have HLV : Hid (levs V ((arcE C).take (i + 1)) = L.set x (L.getD y 0)) := (by rw [levs_step V C i hil, HLL.out, ← hji.out, HXX.out, HYY.out]; unfold lev; rw [if_neg hlt] : levs V ((arcE C).take (i + 1)) = L.set x (L.getD y 0))
                  have HST : Hid ((w5.setCell ⟨w.heap.size + 1, x, none⟩ (.int .i64 (L.getD y 0 : Nat))).drew.heap[w.heap.size]? = some (.cells #[.slice a C.length cap, .int .i64 loops] 24 (0, 0)) ∧ (w5.setCell ⟨w.heap.size + 1, x, none⟩ (.int .i64 (L.getD y 0 : Nat))).drew.ownsRow (w.heap.size + 1) 3 1 (.slice (some ⟨w.heap.size + 1, 0, none⟩) C.length C.length) C.length (nats (levs V ((arcE C).take (i + 1)))) ∧ Below w.heap.size w (w5.setCell ⟨w.heap.size + 1, x, none⟩ (.int .i64 (L.getD y 0 : Nat))).drew) := (by rw [HLV.out]; exact ⟨(hst.2.block _ (by omega) (fun e => by have : w.heap.size = w.heap.size + 1 := Option.some.inj e; omega)).trans HT5.out, hst.1, (HB5.out.grown hst.2 HB5.out.size (fun q hq => by have := Option.some.inj hq; omega)).drew⟩ : ((w5.setCell ⟨w.heap.size + 1, x, none⟩ (.int .i64 (L.getD y 0 : Nat))).drew.heap[w.heap.size]? = some (.cells #[.slice a C.length cap, .int .i64 loops] 24 (0, 0)) ∧ (w5.setCell ⟨w.heap.size + 1, x, none⟩ (.int .i64 (L.getD y 0 : Nat))).drew.ownsRow (w.heap.size + 1) 3 1 (.slice (some ⟨w.heap.size + 1, 0, none⟩) C.length C.length) C.length (nats (levs V ((arcE C).take (i + 1)))) ∧ Below w.heap.size w (w5.setCell ⟨w.heap.size + 1, x, none⟩ (.int .i64 (L.getD y 0 : Nat))).drew))
                  have z0 : w5.frozen? ⟨w.heap.size + 1, x, none⟩ = false := HR5.out.frozenAt x
                  clear hst
                  go_wp2
                  go_region_held3 (fun w' => w'.cell? ⟨w.heap.size + 1, x, none⟩ = some (.int .i64 (L.getD x 0 : Nat)) ∧ w'.cell? ⟨w.heap.size + 1, y, none⟩ = some (.int .i64 (L.getD y 0 : Nat))) (exact ⟨e0, e1⟩) (fail)
                  go_wp2
                  go_roundw
                  case rel => exact ⟨i + 1, j + 1, by omega, (by have := hji.out; omega : j + 1 = i + 1 + 1), by go_num, HST.out⟩
                  case measure => simp only [intOf]; omega
            · obtain rfl : i = 2 * C.length := by omega
              obtain rfl : j = 2 * C.length + 1 := hji.out
              go_wp2
              go_roundw
              case rel => exact ⟨r + 1, by omega, by go_num, (by have h := hp.out; rw [arcE_all, ← HV.out] at h; exact h : (W3.heap[w.heap.size]? = some (.cells #[.slice a C.length cap, .int .i64 loops] 24 (0, 0)) ∧ W3.ownsRow (w.heap.size + 1) 3 1 (.slice (some ⟨w.heap.size + 1, 0, none⟩) C.length C.length) C.length (nats (levR (List.range C.length) (arcE C) (r + 1))) ∧ Below w.heap.size w W3))⟩
              case measure => simp only [intOf]; omega
        · obtain rfl : r = C.length := by omega
          go_wp2
          go_ret
          exact ⟨_, _, rfl, own_low hp.out.2.1 (by omega), levR_least (arcE_lt HM.out) C.length (Nat.le_refl _), hp.out.2.2⟩
end Go.Proofs.Ytagaajlbkfkaiaa
