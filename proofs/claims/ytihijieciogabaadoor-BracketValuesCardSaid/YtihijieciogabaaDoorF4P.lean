/- Several texts of the proof, one behind the other. -/
import Derived.Test.YtihijieciogabaaDoorF2P
import Derived.Test.YtihijieciogabaaDoorBK4
import Derived.BigQuiet
/- The walk of ref.PiecesOf. -/
namespace Go.Proofs.YtihijieciogabaaDoor
open Go.RowKit

theorem made_zeroN (n : Nat) : (madeCells (Value.int .i64 0).cells (n * 1)).toList = nats (List.replicate n 0) := by
  have e : (Value.int .i64 0).cells = #[Value.int .i64 0] := rfl
  rw [e, toList_madeCells_one, Nat.mul_one]
  simp [nats]
theorem nats_set (l : List Nat) (i z : Nat) : (nats l).set i (.int .i64 (z : Nat)) = nats (l.set i z) := by simp [nats, List.map_set]
theorem field_spot (a b : Int) (w : World) : (Instr.field 92 (.agg #[.int .i64 a, .int .i64 b]) 0).run Tryd.prog w = .ok (.int .i64 a) w := by
  simp [Instr.field, run_underlying Tryd.underlying92, go_sem, asAgg]
/-- The first i labels are laid. -/
def labTo (n i : Nat) : List Nat := (List.range n).map fun v => if v < i then v else 0
theorem labTo_zero (n : Nat) : List.replicate n 0 = labTo n 0 := by
  refine List.ext_getElem (by simp [labTo]) fun j h1 h2 => ?_
  simp [labTo]
theorem labTo_next (n i : Nat) : (labTo n i).set i i = labTo n (i + 1) := by
  refine List.ext_getElem (by simp [labTo]) fun j h1 h2 => ?_
  simp only [List.getElem_set, labTo, List.getElem_map, List.getElem_range]
  split
  · rename_i h; subst h; simp
  · rename_i h
    by_cases h3 : j < i
    · rw [if_pos h3, if_pos (by omega)]
    · rw [if_neg h3, if_neg (by omega)]
theorem labTo_all (n : Nat) : labTo n n = List.range n := by
  refine List.ext_getElem (by simp [labTo]) fun j h1 h2 => ?_
  simp only [labTo, List.getElem_map, List.getElem_range]
  rw [if_pos (by simpa [labTo] using h1)]
theorem arcE_next (C : List Cr) (i : Nat) (hi : i < 2 * C.length) : (arcE C).take (i + 1) = (arcE C).take i ++ [(enC C (i + 1) true, enC C (i + 1) false)] := by
  rw [List.take_add_one]
  congr 1
  simp [arcE, hi]
theorem levs_step (V : List Nat) (C : List Cr) (i : Nat) (hi : i < 2 * C.length) : levs V ((arcE C).take (i + 1)) = lev (levs V ((arcE C).take i)) (enC C (i + 1) true) (enC C (i + 1) false) := by
  rw [arcE_next C i hi, levs_app]
  rfl
theorem arcE_all (C : List Cr) : (arcE C).take (2 * C.length) = arcE C := List.take_of_length_le (by simp [arcE])

set_option maxHeartbeats 16000000 in
set_option maxRecDepth 100000 in
theorem piecesOf_any (a : Option Addr) (cap : Nat) (C : List Cr) (loops : Int) (w : World) (hm : mayD C loops = true) (hD : Crs w w.heap.size (.slice a C.length cap) C) :
    Calls Tryd.prog 52 #[.agg #[.slice a C.length cap, .int .i64 loops]] w fun e w' => ∃ v W, e = .returned v ∧ w'.ownsRow w.heap.size 3 1 v C.length (nats W) ∧ Least (arcE C) C.length W ∧ Below w.heap.size w w' := by
  obtain ⟨s1, -, -, -⟩ := sizeB_iff (may_size hm)
  obtain ⟨i2, hk, hx0, hx1, hx2⟩ := info_parts infoInt
  have HM : Hid (mayD C loops = true) := hm
  have HD : Hid (Crs w w.heap.size (.slice a C.length cap) C) := hD
  clear hm hD
  obtain ⟨w0, hw0⟩ : ∃ w0, w0 = w.alloc (.cells #[.slice a C.length cap, .int .i64 loops] 24) := ⟨_, rfl⟩
  have HW0 : Hid (w0 = w.alloc (.cells #[.slice a C.length cap, .int .i64 loops] 24)) := hw0
  have hs0 : w0.heap.size = w.heap.size + 1 := by rw [hw0]; simp
  have HB0 : Hid (Below w.heap.size w w0) := (by rw [hw0]; exact (Below.refl _ _).alloc (Nat.le_refl _) _ : Below w.heap.size w w0)
  have HT0 : Hid (w0.heap[w.heap.size]? = some (.cells #[.slice a C.length cap, .int .i64 loops] 24 (0, 0))) := (by rw [hw0]; exact alloc_at rfl : w0.heap[w.heap.size]? = some (.cells #[.slice a C.length cap, .int .i64 loops] 24 (0, 0)))
  clear hw0
  go_enter Tryd.func52, Tryd.ntmps52
  go_wp2_with (first | (at_make; refine wpList_make_full _ rfl _ _ 57 rfl (w.heap.size + 1) 3 i2 (.int .i64 0) 1 Tryd.underlying57 hk hx0 hx1 .i64 .i64 _ _ C.length rfl rfl rfl rfl (by rw [hx2]; omega) (by unfold maxLen; omega) (by simp) ?_; intro w1 hrow hg1; refine Hid.out ?_))
  refine Lib.hid ?_
  rw [← HW0.out] at hrow hg1
  rw [made_zeroN, hs0, labTo_zero] at hrow
  have HP0 : Hid (w1.heap[w.heap.size]? = some (.cells #[.slice a C.length cap, .int .i64 loops] 24 (0, 0)) ∧ w1.ownsRow (w.heap.size + 1) 3 1 (.slice (some ⟨w.heap.size + 1, 0, none⟩) C.length C.length) C.length (nats (labTo C.length 0)) ∧ Below w.heap.size w w1) := ⟨(hg1.block _ (by omega) (by simp)).trans HT0.out, hrow, HB0.out.grown hg1 (by omega) (fun k hk => by cases hk)⟩
  have q1 : IntKind.i64.wrap (2 * (C.length : Int)) = 2 * (C.length : Int) := IntWalk.i64_in _ (by omega)
  clear hrow hg1 HT0 HB0 hs0 HW0
  go_wp2
  go_loopw [5] (fun v5 wr => ∃ i : Nat, i ≤ C.length ∧ v5 = .int .i64 (i : Nat) ∧ Hid (wr.heap[w.heap.size]? = some (.cells #[.slice a C.length cap, .int .i64 loops] 24 (0, 0)) ∧ wr.ownsRow (w.heap.size + 1) 3 1 (.slice (some ⟨w.heap.size + 1, 0, none⟩) C.length C.length) C.length (nats (labTo C.length i)) ∧ Below w.heap.size w wr)) (fun v5 _ => C.length - (intOf v5).toNat)
  case atStart => exact ⟨0, Nat.zero_le _, rfl, HP0.out⟩
  case round =>
    clear HP0
    rename World => W1
    obtain ⟨i, hin, rfl, hp⟩ := hrel
    have hlt := hp.out.2.1.lt (w.heap.size + 1) rfl
    by_cases hil : i < C.length
    · have hst := hp.out.2.1.stored i (.int .i64 (i : Nat))
      rw [nats_set, labTo_next] at hst
      have HST : Hid ((W1.setCell ⟨w.heap.size + 1, i, none⟩ (.int .i64 (i : Nat))).heap[w.heap.size]? = some (.cells #[.slice a C.length cap, .int .i64 loops] 24 (0, 0)) ∧ (W1.setCell ⟨w.heap.size + 1, i, none⟩ (.int .i64 (i : Nat))).ownsRow (w.heap.size + 1) 3 1 (.slice (some ⟨w.heap.size + 1, 0, none⟩) C.length C.length) C.length (nats (labTo C.length (i + 1))) ∧ Below w.heap.size w (W1.setCell ⟨w.heap.size + 1, i, none⟩ (.int .i64 (i : Nat)))) := ⟨(hst.2.block _ (by omega) (fun e => by have : w.heap.size = w.heap.size + 1 := Option.some.inj e; omega)).trans hp.out.1, hst.1, hp.out.2.2.grown hst.2 hp.out.2.2.size (fun q hq => by have := Option.some.inj hq; omega)⟩
      have e0 : W1.cell? ⟨w.heap.size + 1, i, none⟩ = some (.int .i64 ((labTo C.length i).getD i 0 : Nat)) := by
        rw [hp.out.2.1.cellAt i (by omega)]; exact nats_get _ i (by simp [labTo]; omega)
      have z0 : W1.frozen? ⟨w.heap.size + 1, i, none⟩ = false := hp.out.2.1.frozenAt i
      clear hst
      go_wp2
      go_roundw
      case rel => exact ⟨i + 1, by omega, by go_num, HST.out⟩
      case measure => simp only [intOf]; omega
    · obtain rfl : i = C.length := by omega
      have HP1 : Hid (W1.heap[w.heap.size]? = some (.cells #[.slice a C.length cap, .int .i64 loops] 24 (0, 0)) ∧ W1.ownsRow (w.heap.size + 1) 3 1 (.slice (some ⟨w.heap.size + 1, 0, none⟩) C.length C.length) C.length (nats (levR (List.range C.length) (arcE C) 0)) ∧ Below w.heap.size w W1) := (by have h := hp.out; rw [labTo_all] at h; exact h : (W1.heap[w.heap.size]? = some (.cells #[.slice a C.length cap, .int .i64 loops] 24 (0, 0)) ∧ W1.ownsRow (w.heap.size + 1) 3 1 (.slice (some ⟨w.heap.size + 1, 0, none⟩) C.length C.length) C.length (nats (levR (List.range C.length) (arcE C) 0)) ∧ Below w.heap.size w W1))
      have HLN : Hid (∀ r, (levR (List.range C.length) (arcE C) r).length = C.length) := fun r => (levR_lab (arcE_lt HM.out) ⟨by simp, fun v hv => by simp [List.getD_eq_getElem?_getD, hv], fun v hv => by simp [List.getD_eq_getElem?_getD, hv, Con.refl]⟩ r).len
      clear hp
      go_wp2
      go_loopw [6] (fun v6 wr => ∃ r : Nat, r ≤ C.length ∧ v6 = .int .i64 (r : Nat) ∧ Hid (wr.heap[w.heap.size]? = some (.cells #[.slice a C.length cap, .int .i64 loops] 24 (0, 0)) ∧ wr.ownsRow (w.heap.size + 1) 3 1 (.slice (some ⟨w.heap.size + 1, 0, none⟩) C.length C.length) C.length (nats (levR (List.range C.length) (arcE C) r)) ∧ Below w.heap.size w wr)) (fun v6 _ => C.length - (intOf v6).toNat)
      case atStart => exact ⟨0, Nat.zero_le _, rfl, HP1.out⟩
      case round =>
        clear HP1
        rename World => W2
        obtain ⟨r, hrn, rfl, hp⟩ := hrel
        by_cases hrl : r < C.length
        · have hdr : decide ((r : Int) < (C.length : Int)) = true := by simp; omega
          have hdr2 : decide (r < C.length) = true := by simp; omega
          obtain ⟨V, hV⟩ : ∃ V, levR (List.range C.length) (arcE C) r = V := ⟨_, rfl⟩
          have HV : Hid (levR (List.range C.length) (arcE C) r = V) := hV
          have HVL : Hid (V.length = C.length) := (by rw [← hV]; exact HLN.out r : V.length = C.length)
          have HP2 : Hid (W2.heap[w.heap.size]? = some (.cells #[.slice a C.length cap, .int .i64 loops] 24 (0, 0)) ∧ W2.ownsRow (w.heap.size + 1) 3 1 (.slice (some ⟨w.heap.size + 1, 0, none⟩) C.length C.length) C.length (nats (levs V ((arcE C).take 0))) ∧ Below w.heap.size w W2) := (by have h := hp.out; rw [hV] at h; exact h : (W2.heap[w.heap.size]? = some (.cells #[.slice a C.length cap, .int .i64 loops] 24 (0, 0)) ∧ W2.ownsRow (w.heap.size + 1) 3 1 (.slice (some ⟨w.heap.size + 1, 0, none⟩) C.length C.length) C.length (nats (levs V ((arcE C).take 0))) ∧ Below w.heap.size w W2))
          clear hp hV
          go_wp2
          go_loopw [7] (fun v7 wr => ∃ i j : Nat, i ≤ 2 * C.length ∧ Hid (j = i + 1) ∧ v7 = .int .i64 (j : Nat) ∧ Hid (wr.heap[w.heap.size]? = some (.cells #[.slice a C.length cap, .int .i64 loops] 24 (0, 0)) ∧ wr.ownsRow (w.heap.size + 1) 3 1 (.slice (some ⟨w.heap.size + 1, 0, none⟩) C.length C.length) C.length (nats (levs V ((arcE C).take i))) ∧ Below w.heap.size w wr)) (fun v7 _ => 2 * C.length + 1 - (intOf v7).toNat)
          case atStart => exact ⟨0, 1, Nat.zero_le _, (rfl : 1 = 0 + 1), rfl, HP2.out⟩
          case round =>
            clear HP2
            rename World => W3
            obtain ⟨i, j, hin, hji, rfl, hp⟩ := hrel
            by_cases hil : i < 2 * C.length
            · have hj1 : 1 ≤ j := by have := hji.out; omega
              have hj2 : j ≤ 2 * C.length := by have := hji.out; omega
              have hdj : decide ((j : Int) ≤ 2 * (C.length : Int)) = true := by simp; omega
              have hdj2 : decide (j ≤ 2 * C.length) = true := by simp; omega
              obtain ⟨b, off, ea, hbw, hC⟩ := crs_some HD.out (by omega)
              have HEA : Hid (a = some ⟨b, off, none⟩) := ea
              have HCC : Hid (∀ w', Below W3.heap.size W3 w' → CrossAt w' b off C) := fun w' hb => (hC.on hp.out.2.2 hbw).on hb (Nat.lt_of_lt_of_le hbw hp.out.2.2.size)
              have hs3 := hp.out.2.2.size
              have hgl := hp.out.2.1.lt (w.heap.size + 1) rfl
              obtain ⟨L, hL⟩ : ∃ L, levs V ((arcE C).take i) = L := ⟨_, rfl⟩
              have HLL : Hid (levs V ((arcE C).take i) = L) := hL
              have HP3 : Hid (W3.heap[w.heap.size]? = some (.cells #[.slice a C.length cap, .int .i64 loops] 24 (0, 0)) ∧ W3.ownsRow (w.heap.size + 1) 3 1 (.slice (some ⟨w.heap.size + 1, 0, none⟩) C.length C.length) C.length (nats L) ∧ Below w.heap.size w W3) := (by rw [← hL]; exact hp.out : (W3.heap[w.heap.size]? = some (.cells #[.slice a C.length cap, .int .i64 loops] 24 (0, 0)) ∧ W3.ownsRow (w.heap.size + 1) 3 1 (.slice (some ⟨w.heap.size + 1, 0, none⟩) C.length C.length) C.length (nats L) ∧ Below w.heap.size w W3))
              have HLN2 : Hid (L.length = C.length) := (by have h := HP3.out.2.1.1; rw [nats_len] at h; omega : L.length = C.length)
              obtain ⟨x1, x2, x3, -, -⟩ := en_may HM.out j true hj1 hj2
              obtain ⟨y1, y2, y3, -, -⟩ := en_may HM.out j false hj1 hj2
              obtain ⟨x, hx⟩ : ∃ x, enC C j true = x := ⟨_, rfl⟩
              obtain ⟨y, hy⟩ : ∃ y, enC C j false = y := ⟨_, rfl⟩
              obtain ⟨xs, hxs⟩ : ∃ xs, enS C j true = xs := ⟨_, rfl⟩
              obtain ⟨ys, hys⟩ : ∃ ys, enS C j false = ys := ⟨_, rfl⟩
              have HE1 : Hid (∀ W, b < W.heap.size → CrossAt W b off C → Calls Tryd.prog 54 #[.agg #[.slice (some ⟨b, off, none⟩) C.length cap, .int .i64 loops], .int .i64 j, .bool false] W fun e w' => e = .returned (.agg #[.int .i64 (x : Nat), .int .i64 (xs : Nat)]) ∧ Below W.heap.size W w') := fun W hW hCW => by
                have h := endOf_any b off cap C loops j false W HM.out hj1 hj2 hW hCW
                rw [show (!false) = true from rfl, x1, hx, hxs] at h
                exact h
              have HE2 : Hid (∀ W, b < W.heap.size → CrossAt W b off C → Calls Tryd.prog 54 #[.agg #[.slice (some ⟨b, off, none⟩) C.length cap, .int .i64 loops], .int .i64 j, .bool true] W fun e w' => e = .returned (.agg #[.int .i64 (y : Nat), .int .i64 (ys : Nat)]) ∧ Below W.heap.size W w') := fun W hW hCW => by
                have h := endOf_any b off cap C loops j true W HM.out hj1 hj2 hW hCW
                rw [show (!true) = false from rfl, y1, hy, hys] at h
                exact h
              rw [hx] at x2
              rw [hy] at y2
              have HXX : Hid (enC C j true = x) := hx
              have HYY : Hid (enC C j false = y) := hy
              have HF : Hid (∀ w', Below W3.heap.size W3 w' → w'.cell? ⟨w.heap.size, 0, none⟩ = some (.slice (some ⟨b, off, none⟩) C.length cap) ∧ w'.cell? ⟨w.heap.size, 1, none⟩ = some (.int .i64 loops)) := fun w' hb => by
                have g := (hb.block _ (by omega)).trans HP3.out.1
                rw [HEA.out] at g
                exact ⟨block_cell g rfl, block_cell g rfl⟩
              have HD3 : Hid (Below W3.heap.size W3 W3.drew) := (Below.refl _ _).drew
              have hb3 : b < W3.heap.size := by omega
              have hfs := field_spot
              clear hC ea hp hL hx hy hxs hys x1 y1 x3 y3
              go_wp2
              obtain ⟨t0, t1⟩ := HF.out W3 (Below.refl _ _)
              go_region_held3 (fun w' => w'.cell? ⟨w.heap.size, 0, none⟩ = some (.slice (some ⟨b, off, none⟩) C.length cap) ∧ w'.cell? ⟨w.heap.size, 1, none⟩ = some (.int .i64 loops)) (first | exact HF.out _ H5.out | exact HF.out _ H4.out | exact HF.out _ HD3.out) (first
                | (go_at_call 54; have hAA := H4; clear hAA; refine (HE2.out _ hb4 (HCC.out _ H4.out)).mono ?_; rintro e9 w5 ⟨rfl, hb5⟩
                   have H5 : Hid (Below W3.heap.size W3 w5) := H4.out.trans (hb5.mono H4.out.size)
                   clear hb5)
                | (go_at_call 54; refine (HE1.out W3.drew hb3 (HCC.out _ HD3.out)).mono ?_; rintro e9 w4 ⟨rfl, hb4'⟩
                   have H4 : Hid (Below W3.heap.size W3 w4) := HD3.out.trans (hb4'.mono HD3.out.size)
                   have hb4 : b < w4.heap.size := by have := H4.out.size; omega
                   clear hb4'))
              all_goals
                clear hfs t0 t1
                have hs5 := H5.out.size
                have HR5 : Hid (w5.ownsRow (w.heap.size + 1) 3 1 (.slice (some ⟨w.heap.size + 1, 0, none⟩) C.length C.length) C.length (nats L)) := own_any HP3.out.2.1 (grown_below H5.out none)
                have HB5 : Hid (Below w.heap.size w w5) := HP3.out.2.2.trans (H5.out.mono hs3)
                have HT5 : Hid (w5.heap[w.heap.size]? = some (.cells #[.slice a C.length cap, .int .i64 loops] 24 (0, 0))) := (H5.out.block _ (by omega)).trans HP3.out.1
                have e0 : w5.cell? ⟨w.heap.size + 1, x, none⟩ = some (.int .i64 (L.getD x 0 : Nat)) := by
                  rw [HR5.out.cellAt x (by omega)]; exact nats_get _ x (by rw [HLN2.out]; exact x2)
                have e1 : w5.cell? ⟨w.heap.size + 1, y, none⟩ = some (.int .i64 (L.getD y 0 : Nat)) := by
                  rw [HR5.out.cellAt y (by omega)]; exact nats_get _ y (by rw [HLN2.out]; exact y2)
                have l5 : w.heap.size + 1 < w5.heap.size := by omega
                by_cases hlt : L.getD x 0 < L.getD y 0
                · have hdx : decide (((L.getD x 0 : Nat) : Int) < ((L.getD y 0 : Nat) : Int)) = true := by simp only [decide_eq_true_eq]; omega
                  have hdx2 : decide (L.getD x 0 < L.getD y 0) = true := by simp only [decide_eq_true_eq]; omega
                  have hst := HR5.out.stored y (.int .i64 (L.getD x 0 : Nat))
                  rw [nats_set] at hst
                  have HLV : Hid (levs V ((arcE C).take (i + 1)) = L.set y (L.getD x 0)) := (by rw [levs_step V C i hil, HLL.out, ← hji.out, HXX.out, HYY.out]; unfold lev; rw [if_pos hlt] : levs V ((arcE C).take (i + 1)) = L.set y (L.getD x 0))
                  have HST : Hid ((w5.setCell ⟨w.heap.size + 1, y, none⟩ (.int .i64 (L.getD x 0 : Nat))).drew.heap[w.heap.size]? = some (.cells #[.slice a C.length cap, .int .i64 loops] 24 (0, 0)) ∧ (w5.setCell ⟨w.heap.size + 1, y, none⟩ (.int .i64 (L.getD x 0 : Nat))).drew.ownsRow (w.heap.size + 1) 3 1 (.slice (some ⟨w.heap.size + 1, 0, none⟩) C.length C.length) C.length (nats (levs V ((arcE C).take (i + 1)))) ∧ Below w.heap.size w (w5.setCell ⟨w.heap.size + 1, y, none⟩ (.int .i64 (L.getD x 0 : Nat))).drew) := (by rw [HLV.out]; exact ⟨(hst.2.block _ (by omega) (fun e => by have : w.heap.size = w.heap.size + 1 := Option.some.inj e; omega)).trans HT5.out, hst.1, (HB5.out.grown hst.2 HB5.out.size (fun q hq => by have := Option.some.inj hq; omega)).drew⟩ : ((w5.setCell ⟨w.heap.size + 1, y, none⟩ (.int .i64 (L.getD x 0 : Nat))).drew.heap[w.heap.size]? = some (.cells #[.slice a C.length cap, .int .i64 loops] 24 (0, 0)) ∧ (w5.setCell ⟨w.heap.size + 1, y, none⟩ (.int .i64 (L.getD x 0 : Nat))).drew.ownsRow (w.heap.size + 1) 3 1 (.slice (some ⟨w.heap.size + 1, 0, none⟩) C.length C.length) C.length (nats (levs V ((arcE C).take (i + 1)))) ∧ Below w.heap.size w (w5.setCell ⟨w.heap.size + 1, y, none⟩ (.int .i64 (L.getD x 0 : Nat))).drew))
                  have z0 : w5.frozen? ⟨w.heap.size + 1, y, none⟩ = false := HR5.out.frozenAt y
                  clear hst
                  go_wp2
                  go_region_held3 (fun w' => w'.cell? ⟨w.heap.size + 1, x, none⟩ = some (.int .i64 (L.getD x 0 : Nat)) ∧ w'.cell? ⟨w.heap.size + 1, y, none⟩ = some (.int .i64 (L.getD y 0 : Nat))) (exact ⟨e0, e1⟩) (fail)
                  go_wp2
                  go_roundw
                  case rel => exact ⟨i + 1, j + 1, by omega, (by have := hji.out; omega : j + 1 = i + 1 + 1), by go_num, HST.out⟩
                  case measure => simp only [intOf]; omega
                · have hdx : decide (((L.getD x 0 : Nat) : Int) < ((L.getD y 0 : Nat) : Int)) = false := by simp only [decide_eq_false_iff_not]; omega
                  have hdx2 : decide (L.getD x 0 < L.getD y 0) = false := by simp only [decide_eq_false_iff_not]; omega
                  have hst := HR5.out.stored x (.int .i64 (L.getD y 0 : Nat))
                  rw [nats_set] at hst
                  have HLV : Hid (levs V ((arcE C).take (i + 1)) = L.set x (L.getD y 0)) := (by rw [levs_step V C i hil, HLL.out, ← hji.out, HXX.out, HYY.out]; unfold lev; rw [if_neg hlt] : levs V ((arcE C).take (i + 1)) = L.set x (L.getD y 0))
                  have HST : Hid ((w5.setCell ⟨w.heap.size + 1, x, none⟩ (.int .i64 (L.getD y 0 : Nat))).drew.heap[w.heap.size]? = some (.cells #[.slice a C.length cap, .int .i64 loops] 24 (0, 0)) ∧ (w5.setCell ⟨w.heap.size + 1, x, none⟩ (.int .i64 (L.getD y 0 : Nat))).drew.ownsRow (w.heap.size + 1) 3 1 (.slice (some ⟨w.heap.size + 1, 0, none⟩) C.length C.length) C.length (nats (levs V ((arcE C).take (i + 1)))) ∧ Below w.heap.size w (w5.setCell ⟨w.heap.size + 1, x, none⟩ (.int .i64 (L.getD y 0 : Nat))).drew) := (by rw [HLV.out]; exact ⟨(hst.2.block _ (by omega) (fun e => by have : w.heap.size = w.heap.size + 1 := Option.some.inj e; omega)).trans HT5.out, hst.1, (HB5.out.grown hst.2 HB5.out.size (fun q hq => by have := Option.some.inj hq; omega)).drew⟩ : ((w5.setCell ⟨w.heap.size + 1, x, none⟩ (.int .i64 (L.getD y 0 : Nat))).drew.heap[w.heap.size]? = some (.cells #[.slice a C.length cap, .int .i64 loops] 24 (0, 0)) ∧ (w5.setCell ⟨w.heap.size + 1, x, none⟩ (.int .i64 (L.getD y 0 : Nat))).drew.ownsRow (w.heap.size + 1) 3 1 (.slice (some ⟨w.heap.size + 1, 0, none⟩) C.length C.length) C.length (nats (levs V ((arcE C).take (i + 1)))) ∧ Below w.heap.size w (w5.setCell ⟨w.heap.size + 1, x, none⟩ (.int .i64 (L.getD y 0 : Nat))).drew))
                  have z0 : w5.frozen? ⟨w.heap.size + 1, x, none⟩ = false := HR5.out.frozenAt x
                  clear hst
                  go_wp2
                  go_region_held3 (fun w' => w'.cell? ⟨w.heap.size + 1, x, none⟩ = some (.int .i64 (L.getD x 0 : Nat)) ∧ w'.cell? ⟨w.heap.size + 1, y, none⟩ = some (.int .i64 (L.getD y 0 : Nat))) (exact ⟨e0, e1⟩) (fail)
                  go_wp2
                  go_roundw
                  case rel => exact ⟨i + 1, j + 1, by omega, (by have := hji.out; omega : j + 1 = i + 1 + 1), by go_num, HST.out⟩
                  case measure => simp only [intOf]; omega
            · obtain rfl : i = 2 * C.length := by omega
              obtain rfl : j = 2 * C.length + 1 := hji.out
              go_wp2
              go_roundw
              case rel => exact ⟨r + 1, by omega, by go_num, (by have h := hp.out; rw [arcE_all, ← HV.out] at h; exact h : (W3.heap[w.heap.size]? = some (.cells #[.slice a C.length cap, .int .i64 loops] 24 (0, 0)) ∧ W3.ownsRow (w.heap.size + 1) 3 1 (.slice (some ⟨w.heap.size + 1, 0, none⟩) C.length C.length) C.length (nats (levR (List.range C.length) (arcE C) (r + 1))) ∧ Below w.heap.size w W3))⟩
              case measure => simp only [intOf]; omega
        · obtain rfl : r = C.length := by omega
          go_wp2
          go_ret
          exact ⟨_, _, rfl, own_low hp.out.2.1 (by omega), levR_least (arcE_lt HM.out) C.length (Nat.le_refl _), hp.out.2.2⟩
end Go.Proofs.YtihijieciogabaaDoor
/- The walk of ref.merge. -/
namespace Go.Proofs.YtihijieciogabaaDoor
open Go.RowKit

theorem hid_bk {P : Prop} (h : P) : Hid P := h
/-- The first i labels joined. -/
def mrg (L : List Nat) (a b i : Nat) : List Nat := (L.take i).map (fun v => if v = b then a else v) ++ L.drop i
theorem mrg_len (L : List Nat) (a b i : Nat) : (mrg L a b i).length = L.length := by unfold mrg; simp; omega
theorem mrg_at (L : List Nat) (a b i : Nat) (hi : i < L.length) : (mrg L a b i).getD i 0 = L.getD i 0 := by
  unfold mrg
  rw [List.getD_eq_getElem?_getD, List.getElem?_append_right (by simp; omega)]
  simp [List.getD, hi, show i - min i L.length = 0 by omega]
theorem mrg_hit (L : List Nat) (a b i : Nat) (hi : i < L.length) (h : L.getD i 0 = b) : (mrg L a b i).set i a = mrg L a b (i + 1) := by
  have hl : ((L.take i).map (fun v => if v = b then a else v)).length = i := by simp; omega
  unfold mrg
  rw [List.set_append_right _ _ (by rw [hl]; exact Nat.le_refl _), hl, Nat.sub_self, List.drop_eq_getElem_cons hi, List.set_cons_zero, List.take_succ_eq_append_getElem hi, List.map_append, List.append_assoc]
  have : L[i] = b := by simpa [List.getD, hi] using h
  simp [this]
theorem mrg_miss (L : List Nat) (a b i : Nat) (hi : i < L.length) (h : ¬ L.getD i 0 = b) : mrg L a b i = mrg L a b (i + 1) := by
  unfold mrg
  rw [List.drop_eq_getElem_cons hi, List.take_succ_eq_append_getElem hi, List.map_append, List.append_assoc]
  have : ¬ L[i] = b := by simpa [List.getD, hi] using h
  simp [this]
theorem mrg_all (L : List Nat) (a b : Nat) : mrg L a b L.length = L.map (fun v => if v = b then a else v) := by unfold mrg; simp
theorem mrg_same (L : List Nat) (a b : Nat) (h : a = b) : L.map (fun v => if v = b then a else v) = L := by
  subst h
  have : (fun v => if v = a then a else v) = (id : Nat → Nat) := by funext v; by_cases e : v = a <;> simp [e]
  rw [this]; simp

set_option maxHeartbeats 4000000 in
set_option maxRecDepth 100000 in
theorem merge_any (base g m : Nat) (L : List Nat) (x y : Nat) (w : World) (hL : L.length = m) (hm : m ≤ 100) (hx : x < m) (hy : y < m) (ho : w.ownsRow base 3 1 (.slice (some ⟨g, 0, none⟩) m m) m (nats L)) :
    Calls Tryd.prog 38 #[.slice (some ⟨g, 0, none⟩) m m, .int .i64 (x : Nat), .int .i64 (y : Nat)] w fun e w' => e = .returned (.bool (!decide (L.getD x 0 = L.getD y 0))) ∧ w'.ownsRow base 3 1 (.slice (some ⟨g, 0, none⟩) m m) m (nats (L.map fun v => if v = L.getD y 0 then L.getD x 0 else v)) ∧ w.grownBy w' (some g) := by
  have c0 : w.cell? ⟨g, x, none⟩ = some (.int .i64 (L.getD x 0 : Nat)) := by
    have := ho.cellAt x (by omega); rw [this]; exact nats_get _ _ (by omega)
  have c1 : w.cell? ⟨g, y, none⟩ = some (.int .i64 (L.getD y 0 : Nat)) := by
    have := ho.cellAt y (by omega); rw [this]; exact nats_get _ _ (by omega)
  have HO := hid_bk ho
  have hgl := (ho.lt g rfl).2
  obtain ⟨p, hp⟩ : ∃ p, L.getD x 0 = p := ⟨_, rfl⟩
  obtain ⟨q, hq⟩ : ∃ p, L.getD y 0 = p := ⟨_, rfl⟩
  rw [hp] at c0
  rw [hq] at c1
  rw [hp, hq]
  obtain ⟨rb, hrb⟩ : ∃ rb, (!decide (p = q)) = rb := ⟨_, rfl⟩
  rw [hrb]
  have HRB := hid_bk hrb
  clear hp hq ho hrb
  have HL := hid_bk hL
  clear hL
  go_enter Tryd.func38, Tryd.ntmps38
  go_upto_region 1 with (fail)
  go_quiet (fail)
  obtain ⟨V, hV⟩ : ∃ V, V = w.drewN nq := ⟨_, rfl⟩
  rw [← hV]
  have hbV : Below w.heap.size w V := by rw [hV]; exact below_drewN (Below.refl _ _) _
  have HBV := hid_bk hbV
  have HOV := hid_bk (own_any HO.out (grown_below hbV none))
  clear hV hbV c0 c1 HO
  by_cases he : p = q
  · have hd : ((p : Int) == (q : Int)) = true := by rw [beq_iff_eq]; omega
    have HE := hid_bk he
    obtain rfl : rb = false := by rw [← HRB.out]; simp [he]
    clear he HRB
    go_wp2
    go_ret
    refine ⟨rfl, ?_, grown_below HBV.out _⟩
    rw [mrg_same L p q HE.out]
    exact HOV.out
  · have hd : ((p : Int) == (q : Int)) = false := by rw [beq_eq_false_iff_ne]; omega
    obtain rfl : rb = true := by rw [← HRB.out]; simp [he]
    clear he HRB
    go_wp2
    go_loopw [9] (fun v9 wr => ∃ i : Nat, i ≤ m ∧ v9 = .int .i64 (i : Nat) ∧ Hid (wr.ownsRow base 3 1 (.slice (some ⟨g, 0, none⟩) m m) m (nats (mrg L p q i)) ∧ w.grownBy wr (some g))) (fun v9 _ => m - (intOf v9).toNat)
    case atStart => exact ⟨0, Nat.zero_le _, rfl, HOV.out, grown_below HBV.out _⟩
    case round =>
      rename World => W1
      obtain ⟨i, hin, rfl, hr⟩ := hrel
      clear HOV HBV
      by_cases hil : i < m
      · have e0 : W1.cell? ⟨g, i, none⟩ = some (.int .i64 (L.getD i 0 : Nat)) := by
          rw [hr.out.1.cellAt i (by omega)]
          rw [← mrg_at L p q i (by rw [HL.out]; exact hil)]
          exact nats_get _ _ (by rw [mrg_len, HL.out]; exact hil)
        have z0 : W1.frozen? ⟨g, i, none⟩ = false := hr.out.1.frozenAt i
        have hst := hr.out.1.stored i (.int .i64 (p : Nat))
        rw [nats_set] at hst
        have HST := hid_bk hst
        have hgW := (hr.out.1.lt g rfl).2
        obtain ⟨z, hz⟩ : ∃ z, L.getD i 0 = z := ⟨_, rfl⟩
        rw [hz] at e0
        have HZ := hid_bk hz
        clear hst hz
        have hii : (i : Int) < (m : Int) := by omega
        by_cases hzq : z = q
        · have hd2 : ((z : Int) == (q : Int)) = true := by rw [beq_iff_eq]; omega
          have HQ := hid_bk hzq
          clear hzq
          go_wp2
          go_roundw
          case rel =>
            refine ⟨i + 1, by omega, by go_num, ?_, grown_trans hr.out.2 HST.out.2⟩
            rw [← mrg_hit L p q i (by rw [HL.out]; exact hil) (HZ.out.trans HQ.out)]
            exact HST.out.1
          case measure => simp only [intOf]; omega
        · have hd2 : ((z : Int) == (q : Int)) = false := by rw [beq_eq_false_iff_ne]; omega
          have HQ := hid_bk hzq
          clear hzq
          go_wp2
          go_roundw
          case rel =>
            refine ⟨i + 1, by omega, by go_num, ?_, hr.out.2⟩
            rw [← mrg_miss L p q i (by rw [HL.out]; exact hil) (fun e => HQ.out (HZ.out.symm.trans e))]
            exact hr.out.1
          case measure => simp only [intOf]; omega
      · obtain rfl : i = m := by omega
        go_wp2
        go_ret
        refine ⟨rfl, ?_, hr.out.2⟩
        rw [← mrg_all, HL.out]
        exact hr.out.1
end Go.Proofs.YtihijieciogabaaDoor
/- Rings of darts in a world; the walk of ref.PlanarIs. -/
namespace Go.Proofs.YtihijieciogabaaDoor
open Go.RowKit

/-- Rings of darts, to be read; their blocks lie from B on. -/
def RingsAt (w : World) (B : Nat) (v : Value) (L : List (List Nat)) : Prop := ∃ a cap, v = .slice a L.length cap ∧ (0 < L.length → ∃ b off, a = some ⟨b, off, none⟩ ∧ b < w.heap.size ∧ B ≤ b ∧ ∀ j, j < L.length → ∃ g c, w.cell? ⟨b, off + j, none⟩ = some (.slice (some ⟨g, 0, none⟩) (L.getD j []).length c) ∧ g < w.heap.size ∧ B ≤ g ∧ ∀ k, k < (L.getD j []).length → w.cell? ⟨g, k * 2, none⟩ = some (.int .i64 (dA ((L.getD j []).getD k 0) : Nat)) ∧ w.cell? ⟨g, k * 2 + 1, none⟩ = some (.bool (dB ((L.getD j []).getD k 0))))
theorem RingsAt.on {w w' : World} {B : Nat} {v : Value} {L : List (List Nat)} (h : RingsAt w B v L) (hb : Below w.heap.size w w') : RingsAt w' B v L := by
  obtain ⟨a, cap, rfl, f⟩ := h
  refine ⟨a, cap, rfl, fun h0 => ?_⟩
  obtain ⟨b, off, rfl, hlt, hB, hc⟩ := f h0
  refine ⟨b, off, rfl, Nat.lt_of_lt_of_le hlt hb.size, hB, fun j hj => ?_⟩
  obtain ⟨g, c, h1, h2, hG, h3⟩ := hc j hj
  exact ⟨g, c, bcell hb hlt h1, Nat.lt_of_lt_of_le h2 hb.size, hG, fun k hk => ⟨bcell hb h2 (h3 k hk).1, bcell hb h2 (h3 k hk).2⟩⟩
theorem dd_get (l : List Nat) (k : Nat) (hk : k < l.length) : (dd l).getD k (0, false) = (dA (l.getD k 0), dB (l.getD k 0)) := by
  simp [dd, List.getD_eq_getElem?_getD, hk]
theorem DartsOwn.rings {w : World} {B : Nat} {v : Value} {L : List (List Nat)} (h : DartsOwn w B v L) (hn : ∀ j, j < L.length → 0 < (L.getD j []).length) : RingsAt w B v L := by
  obtain ⟨ys, h1, h2, h3⟩ := h
  obtain ⟨a, cap, ev, f⟩ := slots_of_own h2
  refine ⟨a, cap, by rw [ev, h1], fun h0 => ?_⟩
  obtain ⟨b, off, ea, hlt, hc⟩ := f (by omega)
  refine ⟨b, off, ea, hlt, (h2.lt b (by rw [ev, ea]; rfl)).1, fun j hj => ?_⟩
  have hr := h3 j hj
  have hpos := hn j hj
  have hcell := hc j (by omega)
  rcases hr.2 with ⟨_, hz⟩ | ⟨g, c, cur, e1, hBg, hg, _, _, _, htk⟩
  · omega
  · rw [e1] at hcell
    refine ⟨g, c, hcell, (Array.getElem?_eq_some_iff.1 hg).1, hBg, fun k hk => ?_⟩
    have hv := vflat_get (dd (L.getD j [])) k (by rw [dd_len]; exact hk)
    rw [dd_get _ k hk] at hv
    have hcl := fun (o : Nat) (u : Value) (hu : (vflat (dd (L.getD j [])))[o]? = some u) => hr.cells (g := g) (by rw [e1]; rfl) o u hu
    have hadd : ∀ o, (⟨g, 0, none⟩ : Addr).add o = ⟨g, o, none⟩ := fun o => by unfold Addr.add; split <;> simp_all
    have a1 := hcl _ _ hv.1
    have a2 := hcl _ _ hv.2
    rw [hadd] at a1 a2
    exact ⟨a1, a2⟩
theorem facesM_facts {C : List Cr} {loops : Int} (hm : mayD C loops = true) : (facesM C).length ≤ 4 * C.length ∧ ∀ j, j < (facesM C).length → 0 < ((facesM C).getD j []).length ∧ ((facesM C).getD j []).length ≤ 4 * C.length + 1 ∧ ∀ k, k < ((facesM C).getD j []).length → 1 ≤ ((facesM C).getD j []).getD k 0 ∧ ((facesM C).getD j []).getD k 0 ≤ 4 * C.length := by
  refine ⟨walksTo_count _ _ _, fun j hj => ?_⟩
  have hmem : (facesM C).getD j [] ∈ facesM C := by rw [List.getD_eq_getElem?_getD, List.getElem?_eq_getElem hj]; exact List.getElem_mem hj
  obtain ⟨h1, h2, h3⟩ := walksTo_mem (fd_closed hm) (4 * C.length) (Nat.le_refl _) _ hmem
  refine ⟨List.length_pos_iff.2 h1, h2, fun k hk => h3 _ ?_⟩
  generalize (facesM C).getD j [] = l at hk ⊢
  rw [List.getD_eq_getElem?_getD, List.getElem?_eq_getElem hk]
  exact List.getElem_mem hk
theorem facesM_pos {C : List Cr} (h : 0 < C.length) : 0 < (facesM C).length := by
  have h1 := walks_once (fd C) (4 * C.length) 1 (Nat.le_refl _) (by omega)
  unfold facesM
  cases hl : (walksTo (fd C) (4 * C.length) (4 * C.length)).1 with
  | nil => rw [hl] at h1; simp at h1
  | cons x l => simp
/-- The crossings at which the faces' first darts end. -/
def headsM (C : List Cr) : List Nat := (facesM C).map fun l => dC C (l.getD 0 0)
theorem headsM_len (C : List Cr) : (headsM C).length = (facesM C).length := by simp [headsM]
theorem headsM_at (C : List Cr) (i : Nat) (hi : i < (facesM C).length) : (headsM C).getD i 0 = dC C (((facesM C).getD i []).getD 0 0) := by
  simp [headsM, List.getD_eq_getElem?_getD, hi]
theorem headsM_lt {C : List Cr} {loops : Int} (hm : mayD C loops = true) : ∀ g, g ∈ headsM C → g < C.length := fun g hg => by
  obtain ⟨l, hl, rfl⟩ := List.mem_map.1 hg
  obtain ⟨j, hj, rfl⟩ := List.getElem_of_mem hl
  obtain ⟨h1, _, h3⟩ := (facesM_facts hm).2 j hj
  have e : (facesM C).getD j [] = (facesM C)[j] := by rw [List.getD_eq_getElem?_getD, List.getElem?_eq_getElem hj]; rfl
  rw [e] at h1 h3
  exact (d_may hm _ (h3 0 h1).1 (h3 0 h1).2).2.1
/-- The diagram lies on a sphere. -/
def whoM (C : List Cr) : List Nat := levR (List.range C.length) (arcE C) C.length
def planarB (C : List Cr) : Bool := (List.range C.length).all fun p => !decide ((whoM C).getD p 0 = p) || decide (exN C.length (headsM C) (whoM C) p = 2)
theorem planarB_iff (C : List Cr) : planarB C = true ↔ ∀ p, p < C.length → (whoM C).getD p 0 = p → exN C.length (headsM C) (whoM C) p = 2 := by
  unfold planarB
  rw [List.all_eq_true]
  constructor
  · intro h p hp e
    have := h p (List.mem_range.2 hp)
    rw [e] at this
    simpa only [decide_true, Bool.not_true, Bool.false_or, decide_eq_true_eq] using this
  · intro h p hp
    by_cases e : (whoM C).getD p 0 = p
    · simp only [e, decide_true, Bool.not_true, Bool.false_or, decide_eq_true_eq]; exact h p (List.mem_range.1 hp) e
    · simp only [e, decide_false, Bool.not_false, Bool.true_or]
theorem whoM_least {C : List Cr} {loops : Int} (hm : mayD C loops = true) : Least (arcE C) C.length (whoM C) := levR_least (arcE_lt hm) C.length (Nat.le_refl _)
/-- The counts under way. -/
def cntN (W : List Nat) (p : Nat) (i : Nat) : Nat := (List.range i).countP fun v => decide (W.getD v 0 = p)
theorem cntN_next (W : List Nat) (p i : Nat) : cntN W p (i + 1) = cntN W p i + if W.getD i 0 = p then 1 else 0 := by
  unfold cntN
  rw [List.range_succ, List.countP_append]
  congr 1
  by_cases h : W.getD i 0 = p
  · rw [if_pos h]; simp only [List.countP_cons, List.countP_nil, h, decide_true, if_true]
  · rw [if_neg h]; simp only [List.countP_cons, List.countP_nil, h, decide_false]; rfl
theorem cntN_le (W : List Nat) (p i : Nat) : cntN W p i ≤ i := by
  have := List.countP_le_length (p := fun v => decide (W.getD v 0 = p)) (l := List.range i)
  simpa [cntN] using this
def cntG (G : List Nat) (W : List Nat) (p : Nat) (i : Nat) : Nat := (G.take i).countP fun g => decide (W.getD g 0 = p)
theorem cntG_next (G W : List Nat) (p i : Nat) (hi : i < G.length) : cntG G W p (i + 1) = cntG G W p i + if W.getD (G.getD i 0) 0 = p then 1 else 0 := by
  unfold cntG
  rw [List.take_add_one, List.countP_append]
  congr 1
  have e : G[i]? = some (G.getD i 0) := by rw [List.getD_eq_getElem?_getD, List.getElem?_eq_getElem hi]; rfl
  rw [e]
  by_cases h : W.getD (G.getD i 0) 0 = p
  · rw [if_pos h]; simp only [Option.toList_some, List.countP_cons, List.countP_nil, h, decide_true, if_true]
  · rw [if_neg h]; simp only [Option.toList_some, List.countP_cons, List.countP_nil, h, decide_false]; rfl
theorem cntG_le (G W : List Nat) (p i : Nat) : cntG G W p i ≤ G.length := by
  have := List.countP_le_length (p := fun g => decide (W.getD g 0 = p)) (l := G.take i)
  unfold cntG
  have h2 := List.length_take_le i G
  have h3 : (G.take i).length ≤ G.length := by rw [List.length_take]; omega
  omega
theorem ex_cnt (n : Nat) (G W : List Nat) (p : Nat) : exN n G W p = (cntG G W p G.length : Int) - (cntN W p n : Int) := by
  unfold exN cntG cntN
  rw [List.take_length]
end Go.Proofs.YtihijieciogabaaDoor
