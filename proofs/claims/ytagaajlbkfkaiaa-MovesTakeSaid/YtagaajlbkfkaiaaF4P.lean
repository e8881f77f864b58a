/- Several texts of the proof, one behind the other. -/
import Derived.Test.YtagaajlbkfkaiaaF2P
import Derived.Test.YtagaajlbkfkaiaaW3P
import Derived.Test.YtagaajlbkfkaiaaW11P
import Derived.Deep.RegionHeld3
import Derived.Deep.Cut
/- The walk of ref.PiecesOf. -/
namespace Go.Proofs.Ytagaajlbkfkaiaa
open Go.RowKit

theorem made_zeroN (n : Nat) : (madeCells (Value.int .i64 0).cells (n * 1)).toList = nats (List.replicate n 0) := by
  have e : (Value.int .i64 0).cells = #[Value.int .i64 0] := rfl
  rw [e, toList_madeCells_one, Nat.mul_one]
  simp [nats]
theorem nats_set (l : List Nat) (i z : Nat) : (nats l).set i (.int .i64 (z : Nat)) = nats (l.set i z) := by simp [nats, List.map_set]
theorem field_spot (a b : Int) (w : World) : (Instr.field 96 (.agg #[.int .i64 a, .int .i64 b]) 0).run Try.prog w = .ok (.int .i64 a) w := by
  simp [Instr.field, run_underlying Try.underlying96, go_sem, asAgg]
/-- The first i labels are laid. -/
def labTo (n i : Nat) : List Nat := (List.range n).map fun v => if v < i then v else 0
theorem labTo_zero (n : Nat) : List.replicate n 0 = labTo n 0 := by
  refine List.ext_getElem (by simp [labTo]) fun j h1 h2 => ?_
  simp [labTo]
theorem labTo_next (n i : Nat) : (labTo n i).set i i = labTo n (i + 1) := by
  refine List.ext_getElem (by simp [labTo]) fun j h1 h2 => ?_
  simp only [List.getElem_set, labTo, List.getElem_map, List.getElem_range]
  split
  · rename_i h; subst h; simp
  · rename_i h
    by_cases h3 : j < i
    · rw [if_pos h3, if_pos (by omega)]
    · rw [if_neg h3, if_neg (by omega)]
theorem labTo_all (n : Nat) : labTo n n = List.range n := by
  refine List.ext_getElem (by simp [labTo]) fun j h1 h2 => ?_
  simp only [labTo, List.getElem_map, List.getElem_range]
  rw [if_pos (by simpa [labTo] using h1)]
theorem arcE_next (C : List Cr) (i : Nat) (hi : i < 2 * C.length) : (arcE C).take (i + 1) = (arcE C).take i ++ [(enC C (i + 1) true, enC C (i + 1) false)] := by
  rw [List.take_add_one]
  congr 1
  simp [arcE, hi]
theorem levs_step (V : List Nat) (C : List Cr) (i : Nat) (hi : i < 2 * C.length) : levs V ((arcE C).take (i + 1)) = lev (levs V ((arcE C).take i)) (enC C (i + 1) true) (enC C (i + 1) false) := by
  rw [arcE_next C i hi, levs_app]
  rfl
theorem arcE_all (C : List Cr) : (arcE C).take (2 * C.length) = arcE C := List.take_of_length_le (by simp [arcE])

set_option maxHeartbeats 16000000 in
set_option maxRecDepth 100000 in
theorem piecesOf_any (a : Option Addr) (cap : Nat) (C : List Cr) (loops : Int) (w : World) (hm : mayD C loops = true) (hD : Crs w w.heap.size (.slice a C.length cap) C) :
    Calls Try.prog 62 #[.agg #[.slice a C.length cap, .int .i64 loops]] w fun e w' => ∃ v W, e = .returned v ∧ w'.ownsRow w.heap.size 3 1 v C.length (nats W) ∧ Least (arcE C) C.length W ∧ Below w.heap.size w w' := by
  obtain ⟨s1, -, -, -⟩ := sizeB_iff (may_size hm)
  obtain ⟨i2, hk, hx0, hx1, hx2⟩ := info_parts infoInt
  have HM : Hid (mayD C loops = true) := hm
  have HD : Hid (Crs w w.heap.size (.slice a C.length cap) C) := hD
  clear hm hD
  obtain ⟨w0, hw0⟩ : ∃ w0, w0 = w.alloc (.cells #[.slice a C.length cap, .int .i64 loops] 24) := ⟨_, rfl⟩
  have HW0 : Hid (w0 = w.alloc (.cells #[.slice a C.length cap, .int .i64 loops] 24)) := hw0
  have hs0 : w0.heap.size = w.heap.size + 1 := by rw [hw0]; simp
  have HB0 : Hid (Below w.heap.size w w0) := (by rw [hw0]; exact (Below.refl _ _).alloc (Nat.le_refl _) _ : Below w.heap.size w w0)
  have HT0 : Hid (w0.heap[w.heap.size]? = some (.cells #[.slice a C.length cap, .int .i64 loops] 24 (0, 0))) := (by rw [hw0]; exact alloc_at rfl : w0.heap[w.heap.size]? = some (.cells #[.slice a C.length cap, .int .i64 loops] 24 (0, 0)))
  clear hw0
  go_enter Try.func62, Try.ntmps62
  go_wp2_with (first | (at_make; refine wpList_make_full _ rfl _ _ 46 rfl (w.heap.size + 1) 3 i2 (.int .i64 0) 1 Try.underlying46 hk hx0 hx1 .i64 .i64 _ _ C.length rfl rfl rfl rfl (by rw [hx2]; omega) (by unfold maxLen; omega) (by simp) ?_; intro w1 hrow hg1; refine Hid.out ?_))
  refine Lib.hid ?_
  rw [← HW0.out] at hrow hg1
  rw [made_zeroN, hs0, labTo_zero] at hrow
  have HP0 : Hid (w1.heap[w.heap.size]? = some (.cells #[.slice a C.length cap, .int .i64 loops] 24 (0, 0)) ∧ w1.ownsRow (w.heap.size + 1) 3 1 (.slice (some ⟨w.heap.size + 1, 0, none⟩) C.length C.length) C.length (nats (labTo C.length 0)) ∧ Below w.heap.size w w1) := ⟨(hg1.block _ (by omega) (by simp)).trans HT0.out, hrow, HB0.out.grown hg1 (by omega) (fun k hk => by cases hk)⟩
  have q1 : IntKind.i64.wrap (2 * (C.length : Int)) = 2 * (C.length : Int) := IntWalk.i64_in _ (by omega)
  clear hrow hg1 HT0 HB0 hs0 HW0
  go_wp2
  go_loopw [5] (fun v5 wr => ∃ i : Nat, i ≤ C.length ∧ v5 = .int .i64 (i : Nat) ∧ Hid (wr.heap[w.heap.size]? = some (.cells #[.slice a C.length cap, .int .i64 loops] 24 (0, 0)) ∧ wr.ownsRow (w.heap.size + 1) 3 1 (.slice (some ⟨w.heap.size + 1, 0, none⟩) C.length C.length) C.length (nats (labTo C.length i)) ∧ Below w.heap.size w wr)) (fun v5 _ => C.length - (intOf v5).toNat)
  case atStart => exact ⟨0, Nat.zero_le _, rfl, HP0.out⟩
  case round =>
    clear HP0
    rename World => W1
    obtain ⟨i, hin, rfl, hp⟩ := hrel
    have hlt := hp.out.2.1.lt (w.heap.size + 1) rfl
    by_cases hil : i < C.length
    · have hst := hp.out.2.1.stored i (.int .i64 (i : Nat))
      rw [nats_set, labTo_next] at hst
      have HST : Hid ((W1.setCell ⟨w.heap.size + 1, i, none⟩ (.int .i64 (i : Nat))).heap[w.heap.size]? = some (.cells #[.slice a C.length cap, .int .i64 loops] 24 (0, 0)) ∧ (W1.setCell ⟨w.heap.size + 1, i, none⟩ (.int .i64 (i : Nat))).ownsRow (w.heap.size + 1) 3 1 (.slice (some ⟨w.heap.size + 1, 0, none⟩) C.length C.length) C.length (nats (labTo C.length (i + 1))) ∧ Below w.heap.size w (W1.setCell ⟨w.heap.size + 1, i, none⟩ (.int .i64 (i : Nat)))) := ⟨(hst.2.block _ (by omega) (fun e => by have : w.heap.size = w.heap.size + 1 := Option.some.inj e; omega)).trans hp.out.1, hst.1, hp.out.2.2.grown hst.2 hp.out.2.2.size (fun q hq => by have := Option.some.inj hq; omega)⟩
      have e0 : W1.cell? ⟨w.heap.size + 1, i, none⟩ = some (.int .i64 ((labTo C.length i).getD i 0 : Nat)) := by
        rw [hp.out.2.1.cellAt i (by omega)]; exact nats_get _ i (by simp [labTo]; omega)
      have z0 : W1.frozen? ⟨w.heap.size + 1, i, none⟩ = false := hp.out.2.1.frozenAt i
      clear hst
      go_wp2
      go_roundw
      case rel => exact ⟨i + 1, by omega, by go_num, HST.out⟩
      case measure => simp only [intOf]; omega
    · obtain rfl : i = C.length := by omega
      have HP1 : Hid (W1.heap[w.heap.size]? = some (.cells #[.slice a C.length cap, .int .i64 loops] 24 (0, 0)) ∧ W1.ownsRow (w.heap.size + 1) 3 1 (.slice (some ⟨w.heap.size + 1, 0, none⟩) C.length C.length) C.length (nats (levR (List.range C.length) (arcE C) 0)) ∧ Below w.heap.size w W1) := (by have h := hp.out; rw [labTo_all] at h; exact h : (W1.heap[w.heap.size]? = some (.cells #[.slice a C.length cap, .int .i64 loops] 24 (0, 0)) ∧ W1.ownsRow (w.heap.size + 1) 3 1 (.slice (some ⟨w.heap.size + 1, 0, none⟩) C.length C.length) C.length (nats (levR (List.range C.length) (arcE C) 0)) ∧ Below w.heap.size w W1))
      have HLN : Hid (∀ r, (levR (List.range C.length) (arcE C) r).length = C.length) := fun r => (levR_lab (arcE_lt HM.out) ⟨by simp, fun v hv => by simp [List.getD_eq_getElem?_getD, hv], fun v hv => by simp [List.getD_eq_getElem?_getD, hv, Con.refl]⟩ r).len
      clear hp
      go_wp2
      go_loopw [6] (fun v6 wr => ∃ r : Nat, r ≤ C.length ∧ v6 = .int .i64 (r : Nat) ∧ Hid (wr.heap[w.heap.size]? = some (.cells #[.slice a C.length cap, .int .i64 loops] 24 (0, 0)) ∧ wr.ownsRow (w.heap.size + 1) 3 1 (.slice (some ⟨w.heap.size + 1, 0, none⟩) C.length C.length) C.length (nats (levR (List.range C.length) (arcE C) r)) ∧ Below w.heap.size w wr)) (fun v6 _ => C.length - (intOf v6).toNat)
      case atStart => exact ⟨0, Nat.zero_le _, rfl, HP1.out⟩
      case round =>
        clear HP1
        rename World => W2
        obtain ⟨r, hrn, rfl, hp⟩ := hrel
        by_cases hrl : r < C.length
        · have hdr : decide ((r : Int) < (C.length : Int)) = true := by simp; omega
          have hdr2 : decide (r < C.length) = true := by simp; omega
          obtain ⟨V, hV⟩ : ∃ V, levR (List.range C.length) (arcE C) r = V := ⟨_, rfl⟩
          have HV : Hid (levR (List.range C.length) (arcE C) r = V) := hV
          have HVL : Hid (V.length = C.length) := (by rw [← hV]; exact HLN.out r : V.length = C.length)
          have HP2 : Hid (W2.heap[w.heap.size]? = some (.cells #[.slice a C.length cap, .int .i64 loops] 24 (0, 0)) ∧ W2.ownsRow (w.heap.size + 1) 3 1 (.slice (some ⟨w.heap.size + 1, 0, none⟩) C.length C.length) C.length (nats (levs V ((arcE C).take 0))) ∧ Below w.heap.size w W2) := (by have h := hp.out; rw [hV] at h; exact h : (W2.heap[w.heap.size]? = some (.cells #[.slice a C.length cap, .int .i64 loops] 24 (0, 0)) ∧ W2.ownsRow (w.heap.size + 1) 3 1 (.slice (some ⟨w.heap.size + 1, 0, none⟩) C.length C.length) C.length (nats (levs V ((arcE C).take 0))) ∧ Below w.heap.size w W2))
          clear hp hV
          go_wp2
          go_loopw [7] (fun v7 wr => ∃ i j : Nat, i ≤ 2 * C.length ∧ Hid (j = i + 1) ∧ v7 = .int .i64 (j : Nat) ∧ Hid (wr.heap[w.heap.size]? = some (.cells #[.slice a C.length cap, .int .i64 loops] 24 (0, 0)) ∧ wr.ownsRow (w.heap.size + 1) 3 1 (.slice (some ⟨w.heap.size + 1, 0, none⟩) C.length C.length) C.length (nats (levs V ((arcE C).take i))) ∧ Below w.heap.size w wr)) (fun v7 _ => 2 * C.length + 1 - (intOf v7).toNat)
          case atStart => exact ⟨0, 1, Nat.zero_le _, (rfl : 1 = 0 + 1), rfl, HP2.out⟩
          case round =>
            clear HP2
            rename World => W3
            obtain ⟨i, j, hin, hji, rfl, hp⟩ := hrel
            by_cases hil : i < 2 * C.length
            · have hj1 : 1 ≤ j := by have := hji.out; omega
              have hj2 : j ≤ 2 * C.length := by have := hji.out; omega
              have hdj : decide ((j : Int) ≤ 2 * (C.length : Int)) = true := by simp; omega
              have hdj2 : decide (j ≤ 2 * C.length) = true := by simp; omega
              obtain ⟨b, off, ea, hbw, hC⟩ := crs_some HD.out (by omega)
              have HEA : Hid (a = some ⟨b, off, none⟩) := ea
              have HCC : Hid (∀ w', Below W3.heap.size W3 w' → CrossAt w' b off C) := fun w' hb => (hC.on hp.out.2.2 hbw).on hb (Nat.lt_of_lt_of_le hbw hp.out.2.2.size)
              have hs3 := hp.out.2.2.size
              have hgl := hp.out.2.1.lt (w.heap.size + 1) rfl
              obtain ⟨L, hL⟩ : ∃ L, levs V ((arcE C).take i) = L := ⟨_, rfl⟩
              have HLL : Hid (levs V ((arcE C).take i) = L) := hL
              have HP3 : Hid (W3.heap[w.heap.size]? = some (.cells #[.slice a C.length cap, .int .i64 loops] 24 (0, 0)) ∧ W3.ownsRow (w.heap.size + 1) 3 1 (.slice (some ⟨w.heap.size + 1, 0, none⟩) C.length C.length) C.length (nats L) ∧ Below w.heap.size w W3) := (by rw [← hL]; exact hp.out : (W3.heap[w.heap.size]? = some (.cells #[.slice a C.length cap, .int .i64 loops] 24 (0, 0)) ∧ W3.ownsRow (w.heap.size + 1) 3 1 (.slice (some ⟨w.heap.size + 1, 0, none⟩) C.length C.length) C.length (nats L) ∧ Below w.heap.size w W3))
              have HLN2 : Hid (L.length = C.length) := (by have h := HP3.out.2.1.1; rw [nats_len] at h; omega : L.length = C.length)
              obtain ⟨x1, x2, x3, -, -⟩ := en_may HM.out j true hj1 hj2
              obtain ⟨y1, y2, y3, -, -⟩ := en_may HM.out j false hj1 hj2
              obtain ⟨x, hx⟩ : ∃ x, enC C j true = x := ⟨_, rfl⟩
              obtain ⟨y, hy⟩ : ∃ y, enC C j false = y := ⟨_, rfl⟩
              obtain ⟨xs, hxs⟩ : ∃ xs, enS C j true = xs := ⟨_, rfl⟩
              obtain ⟨ys, hys⟩ : ∃ ys, enS C j false = ys := ⟨_, rfl⟩
              have HE1 : Hid (∀ W, b < W.heap.size → CrossAt W b off C → Calls Try.prog 63 #[.agg #[.slice (some ⟨b, off, none⟩) C.length cap, .int .i64 loops], .int .i64 j, .bool false] W fun e w' => e = .returned (.agg #[.int .i64 (x : Nat), .int .i64 (xs : Nat)]) ∧ Below W.heap.size W w') := fun W hW hCW => by
                have h := endOf_any b off cap C loops j false W HM.out hj1 hj2 hW hCW
                rw [show (!false) = true from rfl, x1, hx, hxs] at h
                exact h
              have HE2 : Hid (∀ W, b < W.heap.size → CrossAt W b off C → Calls Try.prog 63 #[.agg #[.slice (some ⟨b, off, none⟩) C.length cap, .int .i64 loops], .int .i64 j, .bool true] W fun e w' => e = .returned (.agg #[.int .i64 (y : Nat), .int .i64 (ys : Nat)]) ∧ Below W.heap.size W w') := fun W hW hCW => by
                have h := endOf_any b off cap C loops j true W HM.out hj1 hj2 hW hCW
                rw [show (!true) = false from rfl, y1, hy, hys] at h
                exact h
              rw [hx] at x2
              rw [hy] at y2
              have HXX : Hid (enC C j true = x) := hx
              have HYY : Hid (enC C j false = y) := hy
              have HF : Hid (∀ w', Below W3.heap.size W3 w' → w'.cell? ⟨w.heap.size, 0, none⟩ = some (.slice (some ⟨b, off, none⟩) C.length cap) ∧ w'.cell? ⟨w.heap.size, 1, none⟩ = some (.int .i64 loops)) := fun w' hb => by
                have g := (hb.block _ (by omega)).trans HP3.out.1
                rw [HEA.out] at g
                exact ⟨block_cell g rfl, block_cell g rfl⟩
              have HD3 : Hid (Below W3.heap.size W3 W3.drew) := (Below.refl _ _).drew
              have hb3 : b < W3.heap.size := by omega
              have hfs := field_spot
              clear hC ea hp hL hx hy hxs hys x1 y1 x3 y3
              go_wp2
              obtain ⟨t0, t1⟩ := HF.out W3 (Below.refl _ _)
              go_region_held3 (fun w' => w'.cell? ⟨w.heap.size, 0, none⟩ = some (.slice (some ⟨b, off, none⟩) C.length cap) ∧ w'.cell? ⟨w.heap.size, 1, none⟩ = some (.int .i64 loops)) (first | exact HF.out _ H5.out | exact HF.out _ H4.out | exact HF.out _ HD3.out) (first
                | (go_at_call 63; have hAA := H4; clear hAA; refine (HE2.out _ hb4 (HCC.out _ H4.out)).mono ?_; rintro e9 w5 ⟨rfl, hb5⟩
                   have H5 : Hid (Below W3.heap.size W3 w5) := H4.out.trans (hb5.mono H4.out.size)
                   clear hb5)
                | (go_at_call 63; refine (HE1.out W3.drew hb3 (HCC.out _ HD3.out)).mono ?_; rintro e9 w4 ⟨rfl, hb4'⟩
                   have H4 : Hid (Below W3.heap.size W3 w4) := HD3.out.trans (hb4'.mono HD3.out.size)
                   have hb4 : b < w4.heap.size := by have := H4.out.size; omega
                   clear hb4'))
              all_goals
                clear hfs t0 t1
                have hs5 := H5.out.size
                have HR5 : Hid (w5.ownsRow (w.heap.size + 1) 3 1 (.slice (some ⟨w.heap.size + 1, 0, none⟩) C.length C.length) C.length (nats L)) := own_any HP3.out.2.1 (grown_below H5.out none)
                have HB5 : Hid (Below w.heap.size w w5) := HP3.out.2.2.trans (H5.out.mono hs3)
                have HT5 : Hid (w5.heap[w.heap.size]? = some (.cells #[.slice a C.length cap, .int .i64 loops] 24 (0, 0))) := (H5.out.block _ (by omega)).trans HP3.out.1
                have e0 : w5.cell? ⟨w.heap.size + 1, x, none⟩ = some (.int .i64 (L.getD x 0 : Nat)) := by
                  rw [HR5.out.cellAt x (by omega)]; exact nats_get _ x (by rw [HLN2.out]; exact x2)
                have e1 : w5.cell? ⟨w.heap.size + 1, y, none⟩ = some (.int .i64 (L.getD y 0 : Nat)) := by
                  rw [HR5.out.cellAt y (by omega)]; exact nats_get _ y (by rw [HLN2.out]; exact y2)
                have l5 : w.heap.size + 1 < w5.heap.size := by omega
                by_cases hlt : L.getD x 0 < L.getD y 0
                · have hdx : decide (((L.getD x 0 : Nat) : Int) < ((L.getD y 0 : Nat) : Int)) = true := by simp only [decide_eq_true_eq]; omega
                  have hdx2 : decide (L.getD x 0 < L.getD y 0) = true := by simp only [decide_eq_true_eq]; omega
                  have hst := HR5.out.stored y (.int .i64 (L.getD x 0 : Nat))
                  rw [nats_set] at hst
                  have HLV : Hid (levs V ((arcE C).take (i + 1)) = L.set y (L.getD x 0)) := (by rw [levs_step V C i hil, HLL.out, ← hji.out, HXX.out, HYY.out]; unfold lev; rw [if_pos hlt] : levs V ((arcE C).take (i + 1)) = L.set y (L.getD x 0))
                  have HST : Hid ((w5.setCell ⟨w.heap.size + 1, y, none⟩ (.int .i64 (L.getD x 0 : Nat))).drew.heap[w.heap.size]? = some (.cells #[.slice a C.length cap, .int .i64 loops] 24 (0, 0)) ∧ (w5.setCell ⟨w.heap.size + 1, y, none⟩ (.int .i64 (L.getD x 0 : Nat))).drew.ownsRow (w.heap.size + 1) 3 1 (.slice (some ⟨w.heap.size + 1, 0, none⟩) C.length C.length) C.length (nats (levs V ((arcE C).take (i + 1)))) ∧ Below w.heap.size w (w5.setCell ⟨w.heap.size + 1, y, none⟩ (.int .i64 (L.getD x 0 : Nat))).drew) := (by rw [HLV.out]; exact ⟨(hst.2.block _ (by omega) (fun e => by have : w.heap.size = w.heap.size + 1 := Option.some.inj e; omega)).trans HT5.out, hst.1, (HB5.out.grown hst.2 HB5.out.size (fun q hq => by have := Option.some.inj hq; omega)).drew⟩ : ((w5.setCell ⟨w.heap.size + 1, y, none⟩ (.int .i64 (L.getD x 0 : Nat))).drew.heap[w.heap.size]? = some (.cells #[.slice a C.length cap, .int .i64 loops] 24 (0, 0)) ∧ (w5.setCell ⟨w.heap.size + 1, y, none⟩ (.int .i64 (L.getD x 0 : Nat))).drew.ownsRow (w.heap.size + 1) 3 1 (.slice (some ⟨w.heap.size + 1, 0, none⟩) C.length C.length) C.length (nats (levs V ((arcE C).take (i + 1)))) ∧ Below w.heap.size w (w5.setCell ⟨w.heap.size + 1, y, none⟩ (.int .i64 (L.getD x 0 : Nat))).drew))
                  have z0 : w5.frozen? ⟨w.heap.size + 1, y, none⟩ = false := HR5.out.frozenAt y
                  clear hst
                  go_wp2
                  go_region_held3 (fun w' => w'.cell? ⟨w.heap.size + 1, x, none⟩ = some (.int .i64 (L.getD x 0 : Nat)) ∧ w'.cell? ⟨w.heap.size + 1, y, none⟩ = some (.int .i64 (L.getD y 0 : Nat))) (exact ⟨e0, e1⟩) (fail)
                  go_wp2
                  go_roundw
                  case rel => exact ⟨i + 1, j + 1, by omega, (by have := hji.out; omega : j + 1 = i + 1 + 1), by go_num, HST.out⟩
                  case measure => simp only [intOf]; omega
                · have hdx : decide (((L.getD x 0 : Nat) : Int) < ((L.getD y 0 : Nat) : Int)) = false := by simp only [decide_eq_false_iff_not]; omega
                  have hdx2 : decide (L.getD x 0 < L.getD y 0) = false := by simp only [decide_eq_false_iff_not]; omega
                  have hst := HR5.out.stored x (.int .i64 (L.getD y 0 : Nat))
                  rw [nats_set] at hst
                  have HLV : Hid (levs V ((arcE C).take (i + 1)) = L.set x (L.getD y 0)) := (by rw [levs_step V C i hil, HLL.out, ← hji.out, HXX.out, HYY.out]; unfold lev; rw [if_neg hlt] : levs V ((arcE C).take (i + 1)) = L.set x (L.getD y 0))
                  have HST : Hid ((w5.setCell ⟨w.heap.size + 1, x, none⟩ (.int .i64 (L.getD y 0 : Nat))).drew.heap[w.heap.size]? = some (.cells #[.slice a C.length cap, .int .i64 loops] 24 (0, 0)) ∧ (w5.setCell ⟨w.heap.size + 1, x, none⟩ (.int .i64 (L.getD y 0 : Nat))).drew.ownsRow (w.heap.size + 1) 3 1 (.slice (some ⟨w.heap.size + 1, 0, none⟩) C.length C.length) C.length (nats (levs V ((arcE C).take (i + 1)))) ∧ Below w.heap.size w (w5.setCell ⟨w.heap.size + 1, x, none⟩ (.int .i64 (L.getD y 0 : Nat))).drew) := (by rw [HLV.out]; exact ⟨(hst.2.block _ (by omega) (fun e => by have : w.heap.size = w.heap.size + 1 := Option.some.inj e; omega)).trans HT5.out, hst.1, (HB5.out.grown hst.2 HB5.out.size (fun q hq => by have := Option.some.inj hq; omega)).drew⟩ : ((w5.setCell ⟨w.heap.size + 1, x, none⟩ (.int .i64 (L.getD y 0 : Nat))).drew.heap[w.heap.size]? = some (.cells #[.slice a C.length cap, .int .i64 loops] 24 (0, 0)) ∧ (w5.setCell ⟨w.heap.size + 1, x, none⟩ (.int .i64 (L.getD y 0 : Nat))).drew.ownsRow (w.heap.size + 1) 3 1 (.slice (some ⟨w.heap.size + 1, 0, none⟩) C.length C.length) C.length (nats (levs V ((arcE C).take (i + 1)))) ∧ Below w.heap.size w (w5.setCell ⟨w.heap.size + 1, x, none⟩ (.int .i64 (L.getD y 0 : Nat))).drew))
                  have z0 : w5.frozen? ⟨w.heap.size + 1, x, none⟩ = false := HR5.out.frozenAt x
                  clear hst
                  go_wp2
                  go_region_held3 (fun w' => w'.cell? ⟨w.heap.size + 1, x, none⟩ = some (.int .i64 (L.getD x 0 : Nat)) ∧ w'.cell? ⟨w.heap.size + 1, y, none⟩ = some (.int .i64 (L.getD y 0 : Nat))) (exact ⟨e0, e1⟩) (fail)
                  go_wp2
                  go_roundw
                  case rel => exact ⟨i + 1, j + 1, by omega, (by have := hji.out; omega : j + 1 = i + 1 + 1), by go_num, HST.out⟩
                  case measure => simp only [intOf]; omega
            · obtain rfl : i = 2 * C.length := by omega
              obtain rfl : j = 2 * C.length + 1 := hji.out
              go_wp2
              go_roundw
              case rel => exact ⟨r + 1, by omega, by go_num, (by have h := hp.out; rw [arcE_all, ← HV.out] at h; exact h : (W3.heap[w.heap.size]? = some (.cells #[.slice a C.length cap, .int .i64 loops] 24 (0, 0)) ∧ W3.ownsRow (w.heap.size + 1) 3 1 (.slice (some ⟨w.heap.size + 1, 0, none⟩) C.length C.length) C.length (nats (levR (List.range C.length) (arcE C) (r + 1))) ∧ Below w.heap.size w W3))⟩
              case measure => simp only [intOf]; omega
        · obtain rfl : r = C.length := by omega
          go_wp2
          go_ret
          exact ⟨_, _, rfl, own_low hp.out.2.1 (by omega), levR_least (arcE_lt HM.out) C.length (Nat.le_refl _), hp.out.2.2⟩
end Go.Proofs.Ytagaajlbkfkaiaa
/- Rings of darts in a world; the walk of ref.PlanarIs. -/
namespace Go.Proofs.Ytagaajlbkfkaiaa
open Go.RowKit

/-- Rings of darts, to be read; their blocks lie from B on. -/
def RingsAt (w : World) (B : Nat) (v : Value) (L : List (List Nat)) : Prop := ∃ a cap, v = .slice a L.length cap ∧ (0 < L.length → ∃ b off, a = some ⟨b, off, none⟩ ∧ b < w.heap.size ∧ B ≤ b ∧ ∀ j, j < L.length → ∃ g c, w.cell? ⟨b, off + j, none⟩ = some (.slice (some ⟨g, 0, none⟩) (L.getD j []).length c) ∧ g < w.heap.size ∧ B ≤ g ∧ ∀ k, k < (L.getD j []).length → w.cell? ⟨g, k * 2, none⟩ = some (.int .i64 (dA ((L.getD j []).getD k 0) : Nat)) ∧ w.cell? ⟨g, k * 2 + 1, none⟩ = some (.bool (dB ((L.getD j []).getD k 0))))
theorem RingsAt.on {w w' : World} {B : Nat} {v : Value} {L : List (List Nat)} (h : RingsAt w B v L) (hb : Below w.heap.size w w') : RingsAt w' B v L := by
  obtain ⟨a, cap, rfl, f⟩ := h
  refine ⟨a, cap, rfl, fun h0 => ?_⟩
  obtain ⟨b, off, rfl, hlt, hB, hc⟩ := f h0
  refine ⟨b, off, rfl, Nat.lt_of_lt_of_le hlt hb.size, hB, fun j hj => ?_⟩
  obtain ⟨g, c, h1, h2, hG, h3⟩ := hc j hj
  exact ⟨g, c, bcell hb hlt h1, Nat.lt_of_lt_of_le h2 hb.size, hG, fun k hk => ⟨bcell hb h2 (h3 k hk).1, bcell hb h2 (h3 k hk).2⟩⟩
theorem dd_get (l : List Nat) (k : Nat) (hk : k < l.length) : (dd l).getD k (0, false) = (dA (l.getD k 0), dB (l.getD k 0)) := by
  simp [dd, List.getD_eq_getElem?_getD, hk]
theorem DartsOwn.rings {w : World} {B : Nat} {v : Value} {L : List (List Nat)} (h : DartsOwn w B v L) (hn : ∀ j, j < L.length → 0 < (L.getD j []).length) : RingsAt w B v L := by
  obtain ⟨ys, h1, h2, h3⟩ := h
  obtain ⟨a, cap, ev, f⟩ := slots_of_own h2
  refine ⟨a, cap, by rw [ev, h1], fun h0 => ?_⟩
  obtain ⟨b, off, ea, hlt, hc⟩ := f (by omega)
  refine ⟨b, off, ea, hlt, (h2.lt b (by rw [ev, ea]; rfl)).1, fun j hj => ?_⟩
  have hr := h3 j hj
  have hpos := hn j hj
  have hcell := hc j (by omega)
  rcases hr.2 with ⟨_, hz⟩ | ⟨g, c, cur, e1, hBg, hg, _, _, _, htk⟩
  · omega
  · rw [e1] at hcell
    refine ⟨g, c, hcell, (Array.getElem?_eq_some_iff.1 hg).1, hBg, fun k hk => ?_⟩
    have hv := vflat_get (dd (L.getD j [])) k (by rw [dd_len]; exact hk)
    rw [dd_get _ k hk] at hv
    have hcl := fun (o : Nat) (u : Value) (hu : (vflat (dd (L.getD j [])))[o]? = some u) => hr.cells (g := g) (by rw [e1]; rfl) o u hu
    have hadd : ∀ o, (⟨g, 0, none⟩ : Addr).add o = ⟨g, o, none⟩ := fun o => by unfold Addr.add; split <;> simp_all
    have a1 := hcl _ _ hv.1
    have a2 := hcl _ _ hv.2
    rw [hadd] at a1 a2
    exact ⟨a1, a2⟩
theorem facesM_facts {C : List Cr} {loops : Int} (hm : mayD C loops = true) : (facesM C).length ≤ 4 * C.length ∧ ∀ j, j < (facesM C).length → 0 < ((facesM C).getD j []).length ∧ ((facesM C).getD j []).length ≤ 4 * C.length + 1 ∧ ∀ k, k < ((facesM C).getD j []).length → 1 ≤ ((facesM C).getD j []).getD k 0 ∧ ((facesM C).getD j []).getD k 0 ≤ 4 * C.length := by
  refine ⟨walksTo_count _ _ _, fun j hj => ?_⟩
  have hmem : (facesM C).getD j [] ∈ facesM C := by rw [List.getD_eq_getElem?_getD, List.getElem?_eq_getElem hj]; exact List.getElem_mem hj
  obtain ⟨h1, h2, h3⟩ := walksTo_mem (fd_closed hm) (4 * C.length) (Nat.le_refl _) _ hmem
  refine ⟨List.length_pos_iff.2 h1, h2, fun k hk => h3 _ ?_⟩
  generalize (facesM C).getD j [] = l at hk ⊢
  rw [List.getD_eq_getElem?_getD, List.getElem?_eq_getElem hk]
  exact List.getElem_mem hk
theorem facesM_pos {C : List Cr} (h : 0 < C.length) : 0 < (facesM C).length := by
  have h1 := walks_once (fd C) (4 * C.length) 1 (Nat.le_refl _) (by omega)
  unfold facesM
  cases hl : (walksTo (fd C) (4 * C.length) (4 * C.length)).1 with
  | nil => rw [hl] at h1; simp at h1
  | cons x l => simp
/-- The crossings at which the faces' first darts end. -/
def headsM (C : List Cr) : List Nat := (facesM C).map fun l => dC C (l.getD 0 0)
theorem headsM_len (C : List Cr) : (headsM C).length = (facesM C).length := by simp [headsM]
theorem headsM_at (C : List Cr) (i : Nat) (hi : i < (facesM C).length) : (headsM C).getD i 0 = dC C (((facesM C).getD i []).getD 0 0) := by
  simp [headsM, List.getD_eq_getElem?_getD, hi]
theorem headsM_lt {C : List Cr} {loops : Int} (hm : mayD C loops = true) : ∀ g, g ∈ headsM C → g < C.length := fun g hg => by
  obtain ⟨l, hl, rfl⟩ := List.mem_map.1 hg
  obtain ⟨j, hj, rfl⟩ := List.getElem_of_mem hl
  obtain ⟨h1, _, h3⟩ := (facesM_facts hm).2 j hj
  have e : (facesM C).getD j [] = (facesM C)[j] := by rw [List.getD_eq_getElem?_getD, List.getElem?_eq_getElem hj]; rfl
  rw [e] at h1 h3
  exact (d_may hm _ (h3 0 h1).1 (h3 0 h1).2).2.1
/-- The diagram lies on a sphere. -/
def whoM (C : List Cr) : List Nat := levR (List.range C.length) (arcE C) C.length
def planarB (C : List Cr) : Bool := (List.range C.length).all fun p => !decide ((whoM C).getD p 0 = p) || decide (exN C.length (headsM C) (whoM C) p = 2)
theorem planarB_iff (C : List Cr) : planarB C = true ↔ ∀ p, p < C.length → (whoM C).getD p 0 = p → exN C.length (headsM C) (whoM C) p = 2 := by
  unfold planarB
  rw [List.all_eq_true]
  constructor
  · intro h p hp e
    have := h p (List.mem_range.2 hp)
    rw [e] at this
    simpa only [decide_true, Bool.not_true, Bool.false_or, decide_eq_true_eq] using this
  · intro h p hp
    by_cases e : (whoM C).getD p 0 = p
    · simp only [e, decide_true, Bool.not_true, Bool.false_or, decide_eq_true_eq]; exact h p (List.mem_range.1 hp) e
    · simp only [e, decide_false, Bool.not_false, Bool.true_or]
theorem whoM_least {C : List Cr} {loops : Int} (hm : mayD C loops = true) : Least (arcE C) C.length (whoM C) := levR_least (arcE_lt hm) C.length (Nat.le_refl _)
/-- The counts under way. -/
def cntN (W : List Nat) (p : Nat) (i : Nat) : Nat := (List.range i).countP fun v => decide (W.getD v 0 = p)
theorem cntN_next (W : List Nat) (p i : Nat) : cntN W p (i + 1) = cntN W p i + if W.getD i 0 = p then 1 else 0 := by
  unfold cntN
  rw [List.range_succ, List.countP_append]
  congr 1
  by_cases h : W.getD i 0 = p
  · rw [if_pos h]; simp only [List.countP_cons, List.countP_nil, h, decide_true, if_true]
  · rw [if_neg h]; simp only [List.countP_cons, List.countP_nil, h, decide_false]; rfl
theorem cntN_le (W : List Nat) (p i : Nat) : cntN W p i ≤ i := by
  have := List.countP_le_length (p := fun v => decide (W.getD v 0 = p)) (l := List.range i)
  simpa [cntN] using this
def cntG (G : List Nat) (W : List Nat) (p : Nat) (i : Nat) : Nat := (G.take i).countP fun g => decide (W.getD g 0 = p)
theorem cntG_next (G W : List Nat) (p i : Nat) (hi : i < G.length) : cntG G W p (i + 1) = cntG G W p i + if W.getD (G.getD i 0) 0 = p then 1 else 0 := by
  unfold cntG
  rw [List.take_add_one, List.countP_append]
  congr 1
  have e : G[i]? = some (G.getD i 0) := by rw [List.getD_eq_getElem?_getD, List.getElem?_eq_getElem hi]; rfl
  rw [e]
  by_cases h : W.getD (G.getD i 0) 0 = p
  · rw [if_pos h]; simp only [Option.toList_some, List.countP_cons, List.countP_nil, h, decide_true, if_true]
  · rw [if_neg h]; simp only [Option.toList_some, List.countP_cons, List.countP_nil, h, decide_false]; rfl
theorem cntG_le (G W : List Nat) (p i : Nat) : cntG G W p i ≤ G.length := by
  have := List.countP_le_length (p := fun g => decide (W.getD g 0 = p)) (l := G.take i)
  unfold cntG
  have h2 := List.length_take_le i G
  have h3 : (G.take i).length ≤ G.length := by rw [List.length_take]; omega
  omega
theorem ex_cnt (n : Nat) (G W : List Nat) (p : Nat) : exN n G W p = (cntG G W p G.length : Int) - (cntN W p n : Int) := by
  unfold exN cntG cntN
  rw [List.take_length]
end Go.Proofs.Ytagaajlbkfkaiaa
/- Two rows of rings are held against one another. -/
namespace Go.Proofs.Ytagaajlbkfkaiaa
open Go.RowKit

theorem DartsOwn.vs {w : World} {B : Nat} {v : Value} {L : List (List Nat)} (h : DartsOwn w B v L) : VsAt w v (L.map dd) := by
  obtain ⟨ys, h1, h2, h3⟩ := h
  refine ⟨ys, by simp [h1], slots_of_own h2, fun j hj => ?_⟩
  have hj' : j < L.length := by simpa using hj
  have e : (L.map dd).getD j [] = dd (L.getD j []) := by simp [List.getD_eq_getElem?_getD, hj']
  rw [e]
  have := h3 j hj'
  rw [← dd_len (L.getD j [])] at this
  exact vs_own this
end Go.Proofs.Ytagaajlbkfkaiaa
/- The walk of ref.DiagramOf, with what it owns (J7 without ref.ChangeOf). -/
namespace Go.Proofs.Ytagaajlbkfkaiaa
open Go.RowKit

end Go.Proofs.Ytagaajlbkfkaiaa
/- Plain mathematics: in a planar diagram of one piece a set of arcs that comes to each crossing an even number of times parts two sets of faces. -/
namespace Go.Proofs.Ytagaajlbkfkaiaa

/-- The arc at a side. -/
def aAt (C : List Cr) (k s : Nat) : Nat := ((C.getD k Cr.none).arc s).toNat
theorem en_side {C : List Cr} {loops : Int} (hm : mayD C loops = true) (k s : Nat) (hk : k < C.length) (hs : s < 4) : enC C (aAt C k s) ((C.getD k Cr.none).comes s) = k ∧ enS C (aAt C k s) ((C.getD k Cr.none).comes s) = s ∧ 1 ≤ aAt C k s ∧ aAt C k s ≤ 2 * C.length := by
  have hf := may_fit hm k s hk hs
  have g1 := hf.1
  have g2 := hf.2.1
  have ha : 1 ≤ aAt C k s ∧ aAt C k s ≤ 2 * C.length := by unfold aAt; omega
  have e := end_one hm (aAt C k s) ha.1 ha.2 ((C.getD k Cr.none).comes s) k s hk hs (by unfold aAt; omega) rfl
  refine ⟨?_, ?_, ha.1, ha.2⟩
  · unfold enC; rw [e]; rfl
  · unfold enS; rw [e]; rfl
def arE (C : List Cr) (i : Nat) : Nat × Nat := (enC C (i + 1) true, enC C (i + 1) false)
def sides (C : List Cr) (g : Nat → Bool) (a : Nat) : Bool := xor (g (fo C (mkD a true))) (g (fo C (mkD a false)))
theorem incl_all {E : Nat → Nat × Nat} {m : Nat} : incl E (fun _ => true) m = (List.range m).map E := by
  induction m with
  | zero => rfl
  | succ m ih => simp only [incl, if_true]; rw [ih, List.range_succ, List.map_append]; rfl
end Go.Proofs.Ytagaajlbkfkaiaa
/- Plain mathematics: a planar diagram of one piece: an even set of arcs parts two sets of faces. -/
namespace Go.Proofs.Ytagaajlbkfkaiaa

end Go.Proofs.Ytagaajlbkfkaiaa
/- Plain mathematics: a walk of one strand; how often it comes by, modulo two. -/
namespace Go.Proofs.Ytagaajlbkfkaiaa

theorem comes_over (x : Cr) (s : Nat) (hs : s < 4) : x.comes ((s + 2) % 4) = !x.comes s := by
  have : s = 0 ∨ s = 1 ∨ s = 2 ∨ s = 3 := by omega
  unfold Cr.comes
  rcases this with rfl | rfl | rfl | rfl <;> cases x.plus <;> rfl
theorem nx_inj {C : List Cr} {loops : Int} (hm : mayD C loops = true) (a b : Nat) (h1 : 1 ≤ a) (h2 : a ≤ 2 * C.length) (h3 : 1 ≤ b) (h4 : b ≤ 2 * C.length) (e : nx C a = nx C b) : a = b := by
  obtain ⟨-, p2, p3, p4, p5⟩ := to_may hm a h1 h2
  obtain ⟨-, q2, q3, q4, q5⟩ := to_may hm b h3 h4
  obtain ⟨a1, a2, a3⟩ := nx_may hm a h1 h2
  obtain ⟨b1, b2, b3⟩ := nx_may hm b h3 h4
  have ca := comes_over (C.getD (toC C a) Cr.none) (toS C a) p3
  have cb := comes_over (C.getD (toC C b) Cr.none) (toS C b) q3
  rw [p5] at ca
  rw [q5] at cb
  have e1 := end_one hm _ a2 a3 _ _ _ p2 (Nat.mod_lt _ (by decide)) a1 ca
  have e2 := end_one hm _ b2 b3 _ _ _ q2 (Nat.mod_lt _ (by decide)) b1 cb
  rw [e] at e1
  rw [e1] at e2
  have hcc : toC C a = toC C b := by have := congrArg Prod.fst e2; simp only at this; omega
  have hss : toS C a = toS C b := by have := congrArg Prod.snd e2; simp only at this; omega
  rw [hcc, hss] at p4
  omega
end Go.Proofs.Ytagaajlbkfkaiaa
/- Crossings that are taken out, their strands going on: what the reference's rounds and tests come to is what the code's merging comes to. Plain mathematics: no program is named here. -/
namespace Go.Proofs.Ytagaajlbkfkaiaa

theorem com_two (x : Cr) (s : Nat) (hs : s < 4) (h : x.comes s = true) : x.comes ((s + 2) % 4) = false := by
  match s, hs, h with
  | 0, _, _ => rfl
  | 1, _, h => simp [Cr.comes] at h ⊢; simp [h]
  | 2, _, h => simp [Cr.comes] at h
  | 3, _, h => simp [Cr.comes] at h ⊢; simp [h]
theorem com_three {x : Cr} (h : x.plus = true) : x.comes 3 = true := by simp [Cr.comes, h]
theorem com_one {x : Cr} (h : x.plus = false) : x.comes 1 = true := by simp [Cr.comes, h]
theorem nx_goes {C : List Cr} {loops : Int} (hm : mayD C loops = true) : Goes C (nx C) where
  closed := nx_closed hm
  inj := fun a b a1 a2 b1 b2 e => nx_inj hm a b a1 a2 b1 b2 e
  out := fun a a1 a2 => by
    have ha := nx_may hm a a1 a2
    obtain ⟨-, i1, s1, r1, q1⟩ := to_may hm a a1 a2
    have ea := end_one hm (nx C a) ha.2.1 ha.2.2 false (toC C a) ((toS C a + 2) % 4) i1 (by omega) ha.1 (com_two _ _ s1 q1)
    unfold enC
    rw [ea]
    rfl
/-- The joins at crossings that are taken out. -/
def tkE (C : List Cr) (G : List Nat) : List (Nat × Nat) := G.flatMap fun g => [(((C.getD g Cr.none).arc 0).toNat, ((C.getD g Cr.none).arc 2).toNat), (((C.getD g Cr.none).arc 1).toNat, ((C.getD g Cr.none).arc 3).toNat)]
theorem mem_tkE {C : List Cr} {G : List Nat} {e : Nat × Nat} : e ∈ tkE C G ↔ ∃ g, g ∈ G ∧ ∃ k, k < 2 ∧ e = (((C.getD g Cr.none).arc k).toNat, ((C.getD g Cr.none).arc (k + 2)).toNat) := by
  unfold tkE
  rw [List.mem_flatMap]
  constructor
  · rintro ⟨g, hg, he⟩
    rcases List.mem_cons.1 he with h | h
    · exact ⟨g, hg, 0, by omega, h⟩
    · rcases List.mem_cons.1 h with h | h
      · exact ⟨g, hg, 1, by omega, h⟩
      · cases h
  · rintro ⟨g, hg, k, hk, rfl⟩
    refine ⟨g, hg, ?_⟩
    match k, hk with
    | 0, _ => exact List.mem_cons_self
    | 1, _ => exact List.mem_cons_of_mem _ List.mem_cons_self
theorem con_sub {E F : List (Nat × Nat)} (h : ∀ e, e ∈ E → Con F e.1 e.2) {u v : Nat} (c : Con E u v) : Con F u v := fun S hS hu =>
  c S (fun e he => ⟨h e he S hS, (h e he).symm S hS⟩) hu
theorem nx_at {C : List Cr} {loops : Int} (hm : mayD C loops = true) (g s : Nat) (hg : g < C.length) (hs : s < 4) (hc : (C.getD g Cr.none).comes s = true) :
    1 ≤ ((C.getD g Cr.none).arc s).toNat ∧ ((C.getD g Cr.none).arc s).toNat ≤ 2 * C.length ∧ toC C ((C.getD g Cr.none).arc s).toNat = g ∧ nx C ((C.getD g Cr.none).arc s).toNat = ((C.getD g Cr.none).arc ((s + 2) % 4)).toNat := by
  obtain ⟨t1, t2, t3, t4⟩ := to_side hm g s hg hs hc
  have h := (nx_may hm _ t1 t2).1
  rw [t3, t4] at h
  refine ⟨t1, t2, t3, ?_⟩
  omega
theorem con_tk {C : List Cr} {loops : Int} (hm : mayD C loops = true) (G : List Nat) (hG : ∀ g, g ∈ G → g < C.length) (u v : Nat) : Con (uTo C (nx C) G (2 * C.length)) u v ↔ Con (tkE C G) u v := by
  constructor
  · refine con_sub fun e he => ?_
    obtain ⟨a, a1, a2, a3, rfl⟩ := mem_uTo.1 he
    obtain ⟨-, i1, s1, r1, q1⟩ := to_may hm a a1 a2
    have h := (nx_may hm a a1 a2).1
    have ea : a = ((C.getD (toC C a) Cr.none).arc (toS C a)).toNat := by omega
    have en : nx C a = ((C.getD (toC C a) Cr.none).arc ((toS C a + 2) % 4)).toNat := by omega
    show Con (tkE C G) a (nx C a)
    rw [en]
    have key : ∀ k, k < 2 → Con (tkE C G) ((C.getD (toC C a) Cr.none).arc k).toNat ((C.getD (toC C a) Cr.none).arc (k + 2)).toNat := fun k hk => Con.edge (mem_tkE.2 ⟨_, a3, k, hk, rfl⟩)
    conv => lhs; rw [ea]
    generalize toS C a = s at s1 q1
    match s, s1, q1 with
    | 0, _, _ => exact key 0 (by omega)
    | 1, _, _ => exact key 1 (by omega)
    | 2, _, q => simp [Cr.comes] at q
    | 3, _, _ => exact (key 1 (by omega)).symm
  · refine con_sub fun e he => ?_
    obtain ⟨g, hg, k, hk, rfl⟩ := mem_tkE.1 he
    have hgl := hG g hg
    have key : ∀ s, s < 4 → (C.getD g Cr.none).comes s = true → Con (uTo C (nx C) G (2 * C.length)) ((C.getD g Cr.none).arc s).toNat ((C.getD g Cr.none).arc ((s + 2) % 4)).toNat := fun s hs hc => by
      obtain ⟨t1, t2, t3, t4⟩ := nx_at hm g s hgl hs hc
      rw [← t4]
      exact Con.edge (mem_uTo.2 ⟨_, t1, t2, by rw [t3]; exact hg, rfl⟩)
    match k, hk with
    | 0, _ => exact key 0 (by omega) rfl
    | 1, _ =>
      cases hp : (C.getD g Cr.none).plus with
      | true => exact (key 3 (by omega) (com_three hp)).symm
      | false => exact key 1 (by omega) (com_one hp)
theorem tk_lt {C : List Cr} {loops : Int} (hm : mayD C loops = true) (G : List Nat) (hG : ∀ g, g ∈ G → g < C.length) : ∀ e, e ∈ tkE C G → e.1 < 2 * C.length + 1 ∧ e.2 < 2 * C.length + 1 := fun e he => by
  obtain ⟨g, hg, k, hk, rfl⟩ := mem_tkE.1 he
  have h1 := en_one hm g k (hG g hg) (by omega)
  have h2 := en_one hm g (k + 2) (hG g hg) (by omega)
  exact ⟨by have := h1.2.1; simp only; omega, by have := h2.2.1; simp only; omega⟩
/-- What the reference's rounds come to is what the code's merging comes to. -/
theorem take_levels {C : List Cr} {loops : Int} (hm : mayD C loops = true) (G : List Nat) (hG : ∀ g, g ∈ G → g < C.length) : levR (List.range (2 * C.length + 1)) (tkE C G) (2 * C.length + 1) = uniM C (nx C) G := by
  have h1 := uni_least (G := G) (nx_goes hm).closed
  have h2 : Least (tkE C G) (2 * C.length + 1) (uniM C (nx C) G) := ⟨h1.1, fun v hv => ⟨(con_tk hm G hG _ _).1 (h1.2 v hv).1, fun u hu => (h1.2 v hv).2 u ((con_tk hm G hG _ _).2 hu)⟩⟩
  exact Least.eq (levR_least (tk_lt hm G hG) _ (Nat.le_refl _)) h2
/-- Has a crossing among the first i (those of G left out), or of crossing i a side below s, an arc that is one with v? -/
def thG (C : List Cr) (G : List Nat) (L : List Nat) (i s v : Nat) : Bool := ((List.range i).any fun j => decide (j ∉ G) && rowB C L j 4 v) || (decide (i ∉ G) && rowB C L i s v)
theorem thG_row (C : List Cr) (G : List Nat) (L : List Nat) (i v : Nat) : thG C G L i 4 v = thG C G L (i + 1) 0 v := by
  unfold thG
  rw [List.range_succ, List.any_append]
  have e : rowB C L (i + 1) 0 v = false := by simp [rowB]
  rw [e]
  simp
theorem thG_skip (C : List Cr) (G : List Nat) (L : List Nat) (i v : Nat) (h : i ∈ G) : thG C G L i 0 v = thG C G L (i + 1) 0 v := by
  rw [← thG_row]
  unfold thG
  simp [h]
def tgTo (C : List Cr) (G : List Nat) (L : List Nat) (N i s : Nat) : List Bool := (List.range N).map (thG C G L i s)
theorem tgTo_len (C : List Cr) (G : List Nat) (L : List Nat) (N i s : Nat) : (tgTo C G L N i s).length = N := by simp [tgTo]
theorem tgTo_at (C : List Cr) (G : List Nat) (L : List Nat) (N i s v : Nat) (hv : v < N) : (tgTo C G L N i s).getD v true = thG C G L i s v := by simp [tgTo, List.getD_eq_getElem?_getD, hv]
theorem tgTo_zero (C : List Cr) (G : List Nat) (L : List Nat) (N : Nat) : List.replicate N false = tgTo C G L N 0 0 := by
  refine List.ext_getElem (by simp [tgTo]) fun j h1 h2 => ?_
  simp [tgTo, thG, rowB]
theorem tgTo_row (C : List Cr) (G : List Nat) (L : List Nat) (N i : Nat) : tgTo C G L N i 4 = tgTo C G L N (i + 1) 0 := List.map_congr_left fun v _ => thG_row C G L i v
theorem tgTo_skip (C : List Cr) (G : List Nat) (L : List Nat) (N i : Nat) (h : i ∈ G) : tgTo C G L N i 0 = tgTo C G L N (i + 1) 0 := List.map_congr_left fun v _ => thG_skip C G L i v h
theorem tgTo_next (C : List Cr) (G : List Nat) (L : List Nat) (N i s q : Nat) (hik : i ∉ G) (hq : L.getD ((C.getD i Cr.none).arc s).toNat 0 = q) : (tgTo C G L N i s).set q true = tgTo C G L N i (s + 1) := by
  refine List.ext_getElem (by simp [tgTo]) fun j h1 h2 => ?_
  simp only [List.getElem_set, tgTo, List.getElem_map, List.getElem_range]
  unfold thG
  rw [rowB_next, hq]
  by_cases e : q = j
  · subst e; rw [if_pos rfl]; simp [hik]
  · rw [if_neg e]; simp [e]
theorem thG_iff (C : List Cr) (G : List Nat) (L : List Nat) (v : Nat) : thG C G L C.length 0 v = true ↔ thP C G L v := by
  unfold thG thP
  have e : rowB C L C.length 0 v = false := by simp [rowB]
  rw [e]
  simp only [Bool.and_false, Bool.or_false, List.any_eq_true, List.mem_range, Bool.and_eq_true, decide_eq_true_eq]
  unfold rowB
  simp only [List.any_eq_true, List.mem_range, decide_eq_true_eq]
  constructor
  · rintro ⟨i, hi, hk, s, hs, h⟩
    exact ⟨i, s, hi, hk, hs, h⟩
  · rintro ⟨i, s, hi, hk, hs, h⟩
    exact ⟨i, hi, hk, s, hs, h⟩
/-- Both come to the same. -/
theorem take_same {C : List Cr} {loops : Int} (hm : mayD C loops = true) {f : Nat → Nat} (hf : Goes C f) (G : List Nat) (L : List Nat) (hL : uniM C f G = L) :
    reTo C G (numM L (thG C G L C.length 0)) C.length = reTo C G (numM L (ltB L (stB C G L (2 * C.length + 1)))) C.length ∧ cntB (nfB L (thG C G L C.length 0)) (2 * C.length + 1) = cntB (lfB L (stB C G L (2 * C.length + 1))) (2 * C.length + 1) := by
  have hls := uni_least (G := G) hf.closed
  rw [hL] at hls
  have hpos : ∀ v, 1 ≤ v → v < 2 * C.length + 1 → 1 ≤ L.getD v 0 := fun v h1 h2 => hls.pos (fun e he => ⟨(uTo_lt hf.closed e he).1.1, (uTo_lt hf.closed e he).2.1⟩) h2 h1
  have hst : ∀ v, 1 ≤ v → (thG C G L C.length 0 v = true ↔ (L.getD v 0 = v ∧ stB C G L (2 * C.length + 1) v = true)) := fun v h1 => by
    rw [thG_iff, stB_iff, ← hL]
    exact st_th hm hf G v h1
  have hP : ∀ v, 1 ≤ v → thG C G L C.length 0 v = ltB L (stB C G L (2 * C.length + 1)) v := fun v h1 => by
    rw [Bool.eq_iff_iff, hst v h1]
    unfold ltB
    simp
  have hQ : ∀ v, 1 ≤ v → nfB L (thG C G L C.length 0) v = lfB L (stB C G L (2 * C.length + 1)) v := fun v h1 => by
    unfold nfB lfB
    rw [hP v h1]
    unfold ltB
    generalize stB C G L (2 * C.length + 1) v = t
    generalize decide (L.getD v 0 = v) = d
    cases d <;> cases t <;> rfl
  have hN : ∀ a, 1 ≤ a → a < 2 * C.length + 1 → numM L (thG C G L C.length 0) a = numM L (ltB L (stB C G L (2 * C.length + 1))) a := fun a h1 h2 => by
    have h3 := hpos a h1 h2
    unfold numM
    rw [hP _ h3, cntB_eq (fun u u1 _ => hP u u1)]
  refine ⟨reTo_eq fun j hj _ => ?_, cntB_eq fun u u1 _ => hQ u u1⟩
  have hg := fun s (hs : s < 4) => en_one hm j s hj hs
  have h0 := hg 0 (by omega)
  have h1 := hg 1 (by omega)
  have h2 := hg 2 (by omega)
  have h3 := hg 3 (by omega)
  have a0 : (C.getD j Cr.none).arc 0 = (C.getD j Cr.none).a := rfl
  have a1 : (C.getD j Cr.none).arc 1 = (C.getD j Cr.none).b := rfl
  have a2 : (C.getD j Cr.none).arc 2 = (C.getD j Cr.none).c := rfl
  have a3 : (C.getD j Cr.none).arc 3 = (C.getD j Cr.none).d := rfl
  rw [a0] at h0
  rw [a1] at h1
  rw [a2] at h2
  rw [a3] at h3
  unfold reX
  rw [hN _ h0.1 (by omega), hN _ h1.1 (by omega), hN _ h2.1 (by omega), hN _ h3.1 (by omega)]
end Go.Proofs.Ytagaajlbkfkaiaa
/- The walk of Drawing.united, with the arc on which the other strand goes on. -/
namespace Go.Proofs.Ytagaajlbkfkaiaa
open Go.RowKit

/-- The drawing's box, the labels under way. -/
structure UnAt (w : World) (N : Nat) (box : Array Value) (L : List Nat) (wr : World) : Prop where
  box : wr.heap[w.heap.size]? = some (.cells box 61 (0, 0))
  row : wr.ownsRow (w.heap.size + 1) 3 1 (.slice (some ⟨w.heap.size + 1, 0, none⟩) N N) N (nats L)
  bel : Below w.heap.size w wr
theorem UnAt.on {w wr w' : World} {N : Nat} {box : Array Value} {L : List Nat} (h : UnAt w N box L wr) (hb : Below wr.heap.size wr w') : UnAt w N box L w' :=
  ⟨(hb.block _ (Array.getElem?_eq_some_iff.1 h.box).1).trans h.box, own_any h.row (grown_below hb none), h.bel.trans (hb.mono h.bel.size)⟩
theorem UnAt.set {w wr : World} {N : Nat} {box : Array Value} {L M : List Nat} {i z : Nat} (h : UnAt w N box L wr) (e : L.set i z = M) : UnAt w N box M (wr.setCell ⟨w.heap.size + 1, i, none⟩ (.int .i64 (z : Nat))) := by
  have hst := h.row.stored i (.int .i64 (z : Nat))
  rw [nats_set, e] at hst
  have hlt := h.row.lt (w.heap.size + 1) rfl
  exact ⟨(hst.2.block _ (by omega) (fun e => by have : w.heap.size = w.heap.size + 1 := Option.some.inj e; omega)).trans h.box, hst.1, h.bel.grown hst.2 h.bel.size (fun q hq => by have := Option.some.inj hq; omega)⟩
theorem UnAt.at_ {w wr : World} {N : Nat} {box : Array Value} {L : List Nat} (h : UnAt w N box L wr) (hl : L.length = N) (i : Nat) (hi : i < N) : wr.cell? ⟨w.heap.size + 1, i, none⟩ = some (.int .i64 (L.getD i 0 : Nat)) := by
  rw [h.row.cellAt i (by omega)]; exact nats_get _ i (by omega)
theorem UnAt.fz {w wr : World} {N : Nat} {box : Array Value} {L : List Nat} (h : UnAt w N box L wr) (i : Nat) : wr.frozen? ⟨w.heap.size + 1, i, none⟩ = false := h.row.frozenAt i
theorem UnAt.lt {w wr : World} {N : Nat} {box : Array Value} {L : List Nat} (h : UnAt w N box L wr) : w.heap.size + 1 < wr.heap.size := (h.row.lt (w.heap.size + 1) rfl).2
/-- The numbers of the crossings that are gone. -/
def GonAt (w : World) (b : Nat) (G : List Nat) : Prop := b < w.heap.size ∧ ∀ i, i < G.length → w.cell? ⟨b, 0 + i, none⟩ = some (.int .i64 (G.getD i 0 : Nat))
theorem GonAt.on {w w' : World} {b : Nat} {G : List Nat} (h : GonAt w b G) (hb : Below w.heap.size w w') : GonAt w' b G := ⟨Nat.lt_of_lt_of_le h.1 hb.size, fun i hi => bcell hb h.1 (h.2 i hi)⟩
theorem mers_uTo (C : List Cr) (f : Nat → Nat) (G : List Nat) (V : List Nat) (a : Nat) : mers V (uTo C f G (a + 1)) = if toC C (a + 1) ∈ G then mer (mers V (uTo C f G a)) (a + 1) (f (a + 1)) else mers V (uTo C f G a) := by
  rw [uTo, mers_app]
  split <;> rfl

set_option maxHeartbeats 16000000 in
set_option maxRecDepth 100000 in
theorem united_ahead (a : Option Addr) (cap : Nat) (C : List Cr) (loops : Int) (gF cF gT cT : Nat) (bG cG : Nat) (G : List Nat) (w : World) (hm : mayD C loops = true) (hD : Dr w a cap C gF gT) (hG1 : G.length ≤ 16) (hG : GonAt w bG G) :
    Calls Try.prog 132 #[drV a cap C loops gF cF gT cT, .func (.func 97) #[drV a cap C loops gF cF gT cT] #[], .slice (some ⟨bG, 0, none⟩) G.length cG] w fun e w' => ∃ g, e = .returned (.slice (some ⟨g, 0, none⟩) (2 * C.length + 1) (2 * C.length + 1)) ∧ w'.ownsRow w.heap.size 3 1 (.slice (some ⟨g, 0, none⟩) (2 * C.length + 1) (2 * C.length + 1)) (2 * C.length + 1) (nats (uniM C (nx C) G)) ∧ Below w.heap.size w w' := by
  obtain ⟨s1, -, -, -⟩ := sizeB_iff (may_size hm)
  obtain ⟨i2, hk, hx0, hx1, hx2⟩ := info_parts infoInt
  have HM : Hid (mayD C loops = true) := hm
  have HD : Hid (Dr w a cap C gF gT) := hD
  have HG : Hid (GonAt w bG G) := hG
  have hbG := hG.1
  have HAS : Hid (∀ x W, 1 ≤ x → x ≤ 2 * C.length → Dr W a cap C gF gT → Calls Try.prog 97 #[drV a cap C loops gF cF gT cT, .int .i64 x] W fun e w' => e = .returned (.int .i64 (nx C x : Nat)) ∧ Below W.heap.size W w') := fun x W h1 h2 hW => ahead_any a cap C loops gF cF gT cT x W HM.out h1 h2 hW
  have HHS : Hid (∀ (x : Nat) W, Calls Try.prog 104 #[drV a cap C loops gF cF gT cT, .int .i64 (x : Nat)] W fun e w' => e = .returned (.bool (hasB C x)) ∧ Below W.heap.size W w') := fun x W => has_any a cap C loops gF cF gT cT x W s1
  unfold drV at HAS HHS ⊢
  obtain ⟨N, hN⟩ : ∃ N, N = 2 * C.length + 1 := ⟨_, rfl⟩
  have HN : Hid (N = 2 * C.length + 1) := hN
  have hN1 : 1 ≤ N := by omega
  have hN2 : N ≤ 33 := by omega
  rw [← hN] at HAS HHS ⊢
  clear hN hm hD hG
  obtain ⟨w0, hw0⟩ : ∃ w0, w0 = w.alloc (.cells #[.slice a C.length cap, .int .i64 loops, .slice (some ⟨gF, 0, none⟩) N cF, .slice (some ⟨gT, 0, none⟩) N cT] 61) := ⟨_, rfl⟩
  have HW0 : Hid (w0 = w.alloc (.cells #[.slice a C.length cap, .int .i64 loops, .slice (some ⟨gF, 0, none⟩) N cF, .slice (some ⟨gT, 0, none⟩) N cT] 61)) := hw0
  have hs0 : w0.heap.size = w.heap.size + 1 := by rw [hw0]; simp
  have HB0 : Hid (Below w.heap.size w w0) := (by rw [hw0]; exact (Below.refl _ _).alloc (Nat.le_refl _) _ : Below w.heap.size w w0)
  have HT0 : Hid (w0.heap[w.heap.size]? = some (.cells #[.slice a C.length cap, .int .i64 loops, .slice (some ⟨gF, 0, none⟩) N cF, .slice (some ⟨gT, 0, none⟩) N cT] 61 (0, 0))) := (by rw [hw0]; exact alloc_at rfl : w0.heap[w.heap.size]? = some (.cells #[.slice a C.length cap, .int .i64 loops, .slice (some ⟨gF, 0, none⟩) N cF, .slice (some ⟨gT, 0, none⟩) N cT] 61 (0, 0)))
  clear hw0
  go_enter Try.func132, Try.ntmps132
  go_wp2_with (first | (at_make; refine wpList_make_full _ rfl _ _ 46 rfl (w.heap.size + 1) 3 i2 (.int .i64 0) 1 Try.underlying46 hk hx0 hx1 .i64 .i64 _ _ N rfl rfl rfl rfl (by rw [hx2]; omega) (by unfold maxLen; omega) (by simp) ?_; intro w1 hrow hg1; refine Hid.out ?_))
  refine Lib.hid ?_
  rw [← HW0.out] at hrow hg1
  rw [made_zeroN, hs0, labTo_zero] at hrow
  have HP0 : Hid (UnAt w N #[.slice a C.length cap, .int .i64 loops, .slice (some ⟨gF, 0, none⟩) N cF, .slice (some ⟨gT, 0, none⟩) N cT] (labTo N 0) w1) := ⟨(hg1.block _ (by omega) (by simp)).trans HT0.out, hrow, HB0.out.grown hg1 (by omega) (fun k hk => by cases hk)⟩
  clear hrow hg1 HT0 HB0 hs0 HW0
  go_wp2
  go_loopw [19] (fun v5 wr => ∃ i : Nat, i ≤ N ∧ v5 = .int .i64 (i : Nat) ∧ Hid (UnAt w N #[.slice a C.length cap, .int .i64 loops, .slice (some ⟨gF, 0, none⟩) N cF, .slice (some ⟨gT, 0, none⟩) N cT] (labTo N i) wr)) (fun v5 _ => N - (intOf v5).toNat)
  case atStart => exact ⟨0, Nat.zero_le _, rfl, HP0.out⟩
  case round =>
    clear HP0
    rename World => W1
    obtain ⟨i, hin, rfl, hp⟩ := hrel
    have hlt := hp.out.lt
    by_cases hil : i < N
    · have HST : Hid (UnAt w N #[.slice a C.length cap, .int .i64 loops, .slice (some ⟨gF, 0, none⟩) N cF, .slice (some ⟨gT, 0, none⟩) N cT] (labTo N (i + 1)) (W1.setCell ⟨w.heap.size + 1, i, none⟩ (.int .i64 (i : Nat)))) := hp.out.set (labTo_next N i)
      have e0 := hp.out.at_ (by simp [labTo]) i hil
      have z0 := hp.out.fz i
      generalize (labTo N i).getD i 0 = u at e0
      go_wp2
      go_roundw
      case rel => exact ⟨i + 1, by omega, by go_num, HST.out⟩
      case measure => simp only [intOf]; omega
    · obtain rfl : N = i := by omega
      have HP1 : Hid (UnAt w N #[.slice a C.length cap, .int .i64 loops, .slice (some ⟨gF, 0, none⟩) N cF, .slice (some ⟨gT, 0, none⟩) N cT] (mers (List.range N) (uTo C (nx C) G 0)) W1) := (by have h := hp.out; rw [labTo_all] at h; exact h : UnAt w N #[.slice a C.length cap, .int .i64 loops, .slice (some ⟨gF, 0, none⟩) N cF, .slice (some ⟨gT, 0, none⟩) N cT] (mers (List.range N) (uTo C (nx C) G 0)) W1)
      have hdn : decide ((N : Int) < (N : Int)) = false := by simp
      have hdn2 : decide (N < N) = false := by simp
      clear hp
      go_wp2
      go_loopw [9] (fun v9 wr => ∃ k : Nat, k < N ∧ v9 = .int .i64 ((k + 1 : Nat) : Int) ∧ Hid (UnAt w N #[.slice a C.length cap, .int .i64 loops, .slice (some ⟨gF, 0, none⟩) N cF, .slice (some ⟨gT, 0, none⟩) N cT] (mers (List.range N) (uTo C (nx C) G k)) wr)) (fun v9 _ => N + 1 - (intOf v9).toNat)
      case atStart => exact ⟨0, by omega, rfl, HP1.out⟩
      case round =>
        clear HP1
        rename World => W2
        obtain ⟨k, hkN, rfl, hp⟩ := hrel
        obtain ⟨x, hxk⟩ : ∃ x, x = k + 1 := ⟨_, rfl⟩
        have HXK : Hid (x = k + 1) := hxk
        rw [← hxk]
        have hx1' : 1 ≤ x := by omega
        have hxN1 : x ≤ N := by omega
        have HLL : Hid ((mers (List.range N) (uTo C (nx C) G k)).length = N) := (by rw [mers_len]; simp : (mers (List.range N) (uTo C (nx C) G k)).length = N)
        have HLV : Hid (mers (List.range N) (uTo C (nx C) G x) = if toC C x ∈ G then mer (mers (List.range N) (uTo C (nx C) G k)) x (nx C x) else mers (List.range N) (uTo C (nx C) G k)) := (by rw [hxk]; exact mers_uTo C (nx C) G _ k : mers (List.range N) (uTo C (nx C) G x) = if toC C x ∈ G then mer (mers (List.range N) (uTo C (nx C) G k)) x (nx C x) else mers (List.range N) (uTo C (nx C) G k))
        have HDN : Hid (x = N → mers (List.range N) (uTo C (nx C) G k) = uniM C (nx C) G) := (fun e => by unfold uniM; rw [← HN.out]; have : k = 2 * C.length := by have := HN.out; omega
                                                                                                          rw [this] : x = N → mers (List.range N) (uTo C (nx C) G k) = uniM C (nx C) G)
        clear hxk
        obtain ⟨L, hL⟩ : ∃ L, mers (List.range N) (uTo C (nx C) G k) = L := ⟨_, rfl⟩
        rw [hL] at HLL HLV HDN hp
        clear hL hkN
        have HP : Hid (UnAt w N #[.slice a C.length cap, .int .i64 loops, .slice (some ⟨gF, 0, none⟩) N cF, .slice (some ⟨gT, 0, none⟩) N cT] L W2) := hp.out
        have hs2 := hp.out.bel.size
        have hbx := hp.out.box
        have t0 : W2.cell? ⟨w.heap.size, 0, none⟩ = some (.slice a C.length cap) := block_cell hbx rfl
        have t1 : W2.cell? ⟨w.heap.size, 1, none⟩ = some (.int .i64 loops) := block_cell hbx rfl
        have t2 : W2.cell? ⟨w.heap.size, 2, none⟩ = some (.slice (some ⟨gF, 0, none⟩) N cF) := block_cell hbx rfl
        have t3 : W2.cell? ⟨w.heap.size, 3, none⟩ = some (.slice (some ⟨gT, 0, none⟩) N cT) := block_cell hbx rfl
        have lt2 : w.heap.size < W2.heap.size := (Array.getElem?_eq_some_iff.1 hbx).1
        clear hbx hp
        by_cases hxl : x < N
        · have HHB : Hid (hasB C (x : Int) = true) := (by have := HN.out; simp [hasB]; omega : hasB C (x : Int) = true)
          have hx2' : x ≤ 2 * C.length := by have := HN.out; omega
          go_wp2_with (go_at_call 104; refine (HHS.out x _).mono ?_; rw [HHB.out]; rintro e9 w3 ⟨rfl, hb3⟩; refine Hid.out ?_)
          refine Lib.hid ?_
          have HP3 : Hid (UnAt w N #[.slice a C.length cap, .int .i64 loops, .slice (some ⟨gF, 0, none⟩) N cF, .slice (some ⟨gT, 0, none⟩) N cT] L w3) := HP.out.on hb3
          have hs3 := HP3.out.bel.size
          have HTO := (HD.out.on HP3.out.bel).toAt HM.out x hx1' hx2'
          have c3 : w3.cell? ⟨w.heap.size, 3, none⟩ = some (.slice (some ⟨gT, 0, none⟩) N cT) := block_cell HP3.out.box rfl
          have c4 := HTO.1
          have HG3 : Hid (GonAt w3 bG G) := HG.out.on HP3.out.bel
          have lt3 : w.heap.size < w3.heap.size := (Array.getElem?_eq_some_iff.1 HP3.out.box).1
          have hgT : gT < w3.heap.size := (HD.out.on HP3.out.bel).ltT
          clear hb3 HTO t0 t1 t2 t3
          by_cases hg : toC C x ∈ G
          · have HH : Hid (hasG G (toC C x : Nat) = true) := (by rw [hasG_nat]; simpa using hg : hasG G (toC C x : Nat) = true)
            rw [if_pos hg] at HLV
            clear hg
            go_wp2_with (go_at_call 133; refine (containsG_any bG 0 cG G _ _ (by omega) HG3.out.1 HG3.out.2).mono ?_; rw [HH.out]; rintro e9 w4 ⟨rfl, hb4⟩; refine Hid.out ?_)
            refine Lib.hid ?_
            have HP4 : Hid (UnAt w N #[.slice a C.length cap, .int .i64 loops, .slice (some ⟨gF, 0, none⟩) N cF, .slice (some ⟨gT, 0, none⟩) N cT] L w4) := HP3.out.on hb4
            clear hb4 c3 c4
            have HD4 : Hid (∀ W, Below w4.heap.size w4 W → Dr W a cap C gF gT) := fun W hW => HD.out.on (HP4.out.on hW).bel
            have HD1 : Hid (Below w4.heap.size w4 w4.drew) := (Below.refl _ _).drew
            have hsxc := nx_closed HM.out x hx1' hx2'
            obtain ⟨y, hy⟩ : ∃ y, nx C x = y := ⟨_, rfl⟩
            have HY : Hid (nx C x = y) := hy
            rw [hy] at hsxc HLV
            have hyN : y < N := by have := HN.out; omega
            clear hy
            obtain ⟨p, hpx⟩ : ∃ p, L.getD x 0 = p := ⟨_, rfl⟩
            obtain ⟨q, hqx⟩ : ∃ q, L.getD y 0 = q := ⟨_, rfl⟩
            have HPQ : Hid (L.getD x 0 = p ∧ L.getD y 0 = q) := ⟨hpx, hqx⟩
            have HQ : Hid (∀ W, Below w4.heap.size w4 W → W.cell? ⟨w.heap.size + 1, x, none⟩ = some (.int .i64 (p : Nat)) ∧ W.cell? ⟨w.heap.size + 1, y, none⟩ = some (.int .i64 (q : Nat))) := fun W hW => by
              have h := HP4.out.on hW
              exact ⟨by rw [h.at_ HLL.out x hxl, HPQ.out.1], by rw [h.at_ HLL.out y hyN, HPQ.out.2]⟩
            clear hpx hqx
            have ix0 : (0 : Int) ≤ (x : Int) := by omega
            have ix1 : (x : Int) < (N : Int) := by omega
            have iy0 : (0 : Int) ≤ (y : Int) := by omega
            have iy1 : (y : Int) < (N : Int) := by omega
            go_wp2
            go_region_held3 (fun w' => w'.cell? ⟨w.heap.size + 1, x, none⟩ = some (.int .i64 (p : Nat)) ∧ w'.cell? ⟨w.heap.size + 1, y, none⟩ = some (.int .i64 (q : Nat))) (first | exact HQ.out _ HZ.out | exact HQ.out _ HD1.out | exact HQ.out _ (Below.refl _ _)) (first | (go_at_call 97; refine (HAS.out x _ hx1' hx2' (HD4.out _ HD1.out)).mono ?_; rw [HY.out]; rintro e9 w5 ⟨rfl, hb5⟩; have HZ : Hid (Below w4.heap.size w4 w5) := HD1.out.trans (hb5.mono HD1.out.size); clear hb5))
            have HP5 : Hid (UnAt w N #[.slice a C.length cap, .int .i64 loops, .slice (some ⟨gF, 0, none⟩) N cF, .slice (some ⟨gT, 0, none⟩) N cT] (merTo L x y 0) w5) := (by rw [merTo_zero]; exact HP4.out.on HZ.out : UnAt w N #[.slice a C.length cap, .int .i64 loops, .slice (some ⟨gF, 0, none⟩) N cF, .slice (some ⟨gT, 0, none⟩) N cT] (merTo L x y 0) w5)
            obtain ⟨lo, hlo⟩ : ∃ lo, min p q = lo := ⟨_, rfl⟩
            obtain ⟨hi, hhi⟩ : ∃ hi, max p q = hi := ⟨_, rfl⟩
            have E1 : (if q < p then (q : Int) else (p : Int)) = (lo : Int) := by rw [← hlo]; split <;> omega
            have E2 : (if p < q then (q : Int) else (p : Int)) = (hi : Int) := by rw [← hhi]; split <;> omega
            have HLH : Hid (min p q = lo ∧ max p q = hi) := ⟨hlo, hhi⟩
            clear hlo hhi
            have HME : Hid (∀ v, v < N → (mer L x y).getD v 0 = if L.getD v 0 = hi then lo else L.getD v 0) := fun v hv => by rw [mer_at L x y v (by rw [HLL.out]; exact hv), HPQ.out.1, HPQ.out.2, HLH.out.1, HLH.out.2]
            have hdx : decide ((x : Int) < (N : Int)) = true := by simp; omega
            clear HP HP3 HP4 HQ HD4 HD1 HZ HPQ HLH HG3
            go_wp2
            go_loopw [53] (fun v53 wr => ∃ j : Nat, j ≤ N ∧ v53 = .int .i64 (j : Nat) ∧ Hid (UnAt w N #[.slice a C.length cap, .int .i64 loops, .slice (some ⟨gF, 0, none⟩) N cF, .slice (some ⟨gT, 0, none⟩) N cT] (merTo L x y j) wr)) (fun v53 _ => N - (intOf v53).toNat)
            case atStart => exact ⟨0, Nat.zero_le _, rfl, HP5.out⟩
            case round =>
              clear HP5
              rename World => W3
              obtain ⟨j, hjn, rfl, hq⟩ := hrel
              have hg3 := hq.out.lt
              by_cases hjl : j < N
              · have f0 : W3.cell? ⟨w.heap.size + 1, j, none⟩ = some (.int .i64 (L.getD j 0 : Nat)) := by
                  rw [hq.out.at_ (by rw [merTo_len, HLL.out]) j hjl, merTo_at _ _ _ _ _ (by rw [HLL.out]; exact hjl), if_neg (by omega)]
                obtain ⟨z, hz⟩ : ∃ z, L.getD j 0 = z := ⟨_, rfl⟩
                have HZ : Hid (L.getD j 0 = z) := hz
                rw [hz] at f0
                clear hz
                by_cases hzh : z = hi
                · subst hzh
                  have HST : Hid (UnAt w N #[.slice a C.length cap, .int .i64 loops, .slice (some ⟨gF, 0, none⟩) N cF, .slice (some ⟨gT, 0, none⟩) N cT] (merTo L x y (j + 1)) (W3.setCell ⟨w.heap.size + 1, j, none⟩ (.int .i64 (lo : Nat)))) := hq.out.set (merTo_next L x y j lo (by rw [HLL.out]; exact hjl) (by rw [HME.out j hjl, HZ.out, if_pos rfl]))
                  have z0 := hq.out.fz j
                  have hzz : ((z : Int) == (z : Int)) = true := by simp
                  go_wp2
                  go_roundw
                  case rel => exact ⟨j + 1, by omega, by go_num, HST.out⟩
                  case measure => simp only [intOf]; omega
                · have hzz : ((z : Int) == (hi : Int)) = false := by simp; omega
                  have hzz2 : (z == hi) = false := by simp; omega
                  have HST : Hid (UnAt w N #[.slice a C.length cap, .int .i64 loops, .slice (some ⟨gF, 0, none⟩) N cF, .slice (some ⟨gT, 0, none⟩) N cT] (merTo L x y (j + 1)) W3) := (by rw [← merTo_same L x y j (by rw [HLL.out]; exact hjl) (by rw [HME.out j hjl, HZ.out, if_neg hzh])]; exact hq.out : UnAt w N #[.slice a C.length cap, .int .i64 loops, .slice (some ⟨gF, 0, none⟩) N cF, .slice (some ⟨gT, 0, none⟩) N cT] (merTo L x y (j + 1)) W3)
                  go_wp2
                  go_roundw
                  case rel => exact ⟨j + 1, by omega, by go_num, HST.out⟩
                  case measure => simp only [intOf]; omega
              · obtain rfl : N = j := by omega
                have HST : Hid (UnAt w N #[.slice a C.length cap, .int .i64 loops, .slice (some ⟨gF, 0, none⟩) N cF, .slice (some ⟨gT, 0, none⟩) N cT] (mers (List.range N) (uTo C (nx C) G x)) W3) := (by have h := hq.out; rw [← HLL.out, merTo_all, HLL.out] at h; rw [HLV.out]; exact h : UnAt w N #[.slice a C.length cap, .int .i64 loops, .slice (some ⟨gF, 0, none⟩) N cF, .slice (some ⟨gT, 0, none⟩) N cT] (mers (List.range N) (uTo C (nx C) G x)) W3)
                clear hq
                go_wp2
                go_roundw
                case rel => exact ⟨x, hxl, by go_num, HST.out⟩
                case measure => simp only [intOf]; omega
          · have HH : Hid (hasG G (toC C x : Nat) = false) := (by rw [hasG_nat]; simpa using hg : hasG G (toC C x : Nat) = false)
            rw [if_neg hg] at HLV
            clear hg
            go_wp2_with (go_at_call 133; refine (containsG_any bG 0 cG G _ _ (by omega) HG3.out.1 HG3.out.2).mono ?_; rw [HH.out]; rintro e9 w4 ⟨rfl, hb4⟩; refine Hid.out ?_)
            refine Lib.hid ?_
            have HST : Hid (UnAt w N #[.slice a C.length cap, .int .i64 loops, .slice (some ⟨gF, 0, none⟩) N cF, .slice (some ⟨gT, 0, none⟩) N cT] (mers (List.range N) (uTo C (nx C) G x)) w4) := (by rw [HLV.out]; exact HP3.out.on hb4 : UnAt w N #[.slice a C.length cap, .int .i64 loops, .slice (some ⟨gF, 0, none⟩) N cF, .slice (some ⟨gT, 0, none⟩) N cT] (mers (List.range N) (uTo C (nx C) G x)) w4)
            clear hb4 c3 c4
            go_wp2
            go_roundw
            case rel => exact ⟨x, hxl, by go_num, HST.out⟩
            case measure => simp only [intOf]; omega
        · obtain rfl : N = x := by omega
          have HDE : Hid (L = uniM C (nx C) G) := HDN.out rfl
          clear HDN
          have HHB : Hid (hasB C (N : Int) = false) := (by have := HN.out; simp [hasB]; omega : hasB C (N : Int) = false)
          go_wp2_with (go_at_call 104; refine (HHS.out N _).mono ?_; rw [HHB.out]; rintro e9 w3 ⟨rfl, hb3⟩; refine Hid.out ?_)
          refine Lib.hid ?_
          have HP3 : Hid (UnAt w N #[.slice a C.length cap, .int .i64 loops, .slice (some ⟨gF, 0, none⟩) N cF, .slice (some ⟨gT, 0, none⟩) N cT] (uniM C (nx C) G) w3) := (by rw [← HDE.out]; exact HP.out.on hb3 : UnAt w N #[.slice a C.length cap, .int .i64 loops, .slice (some ⟨gF, 0, none⟩) N cF, .slice (some ⟨gT, 0, none⟩) N cT] (uniM C (nx C) G) w3)
          clear hb3
          go_wp2
          go_ret
          exact ⟨_, rfl, own_low HP3.out.row (by omega), HP3.out.bel⟩
end Go.Proofs.Ytagaajlbkfkaiaa
/- The walk of ref.level. -/
namespace Go.Proofs.Ytagaajlbkfkaiaa
open Go.RowKit

set_option maxHeartbeats 4000000 in
set_option maxRecDepth 100000 in
theorem level_any (B g n c x y : Nat) (L : List Nat) (w : World) (hx : x < n) (hy : y < n) (hL : w.ownsRow B 3 1 (.slice (some ⟨g, 0, none⟩) n c) n (nats L)) :
    Calls Try.prog 65 #[.slice (some ⟨g, 0, none⟩) n c, .int .i64 x, .int .i64 y] w fun e w' => e = .returned (.tuple #[]) ∧ w'.ownsRow B 3 1 (.slice (some ⟨g, 0, none⟩) n c) n (nats (lev L x y)) ∧ w.grownBy w' (some g) := by
  have HR : Hid (w.ownsRow B 3 1 (.slice (some ⟨g, 0, none⟩) n c) n (nats L)) := hL
  have hll : L.length = n := by have h := hL.1; rw [nats_len] at h; omega
  have e0 : w.cell? ⟨g, x, none⟩ = some (.int .i64 (L.getD x 0 : Nat)) := by
    rw [hL.cellAt x (by omega)]; exact nats_get _ x (by omega)
  have e1 : w.cell? ⟨g, y, none⟩ = some (.int .i64 (L.getD y 0 : Nat)) := by
    rw [hL.cellAt y (by omega)]; exact nats_get _ y (by omega)
  have hgl := (hL.lt g rfl).2
  clear hL hll
  go_enter Try.func65, Try.ntmps65
  by_cases hlt : L.getD x 0 < L.getD y 0
  · have hdx : decide (((L.getD x 0 : Nat) : Int) < ((L.getD y 0 : Nat) : Int)) = true := by simp only [decide_eq_true_eq]; omega
    have hdx2 : decide (L.getD x 0 < L.getD y 0) = true := by simp only [decide_eq_true_eq]; omega
    have hst := HR.out.stored y (.int .i64 (L.getD x 0 : Nat))
    rw [nats_set] at hst
    have HLV : Hid (lev L x y = L.set y (L.getD x 0)) := (by unfold lev; rw [if_pos hlt] : lev L x y = L.set y (L.getD x 0))
    have HST : Hid ((w.setCell ⟨g, y, none⟩ (.int .i64 (L.getD x 0 : Nat))).drew.ownsRow B 3 1 (.slice (some ⟨g, 0, none⟩) n c) n (nats (lev L x y)) ∧ w.grownBy (w.setCell ⟨g, y, none⟩ (.int .i64 (L.getD x 0 : Nat))).drew (some g)) := (by rw [HLV.out]; exact ⟨own_any hst.1 (grown_below ((Below.refl _ _).drew) none), ⟨hst.2.os, hst.2.tape, hst.2.output, hst.2.size, hst.2.block⟩⟩ : (w.setCell ⟨g, y, none⟩ (.int .i64 (L.getD x 0 : Nat))).drew.ownsRow B 3 1 (.slice (some ⟨g, 0, none⟩) n c) n (nats (lev L x y)) ∧ w.grownBy (w.setCell ⟨g, y, none⟩ (.int .i64 (L.getD x 0 : Nat))).drew (some g))
    have z0 : w.frozen? ⟨g, y, none⟩ = false := HR.out.frozenAt y
    clear hst
    go_wp2
    go_region_held3 (fun w' => w'.cell? ⟨g, x, none⟩ = some (.int .i64 (L.getD x 0 : Nat)) ∧ w'.cell? ⟨g, y, none⟩ = some (.int .i64 (L.getD y 0 : Nat))) (exact ⟨e0, e1⟩) (fail)
    go_wp2
    exact bodyPost_end (v := .tuple #[]) (by simp [results, Try.results65]) rfl ⟨rfl, HST.out⟩
  · have hdx : decide (((L.getD x 0 : Nat) : Int) < ((L.getD y 0 : Nat) : Int)) = false := by simp only [decide_eq_false_iff_not]; omega
    have hdx2 : decide (L.getD x 0 < L.getD y 0) = false := by simp only [decide_eq_false_iff_not]; omega
    have hst := HR.out.stored x (.int .i64 (L.getD y 0 : Nat))
    rw [nats_set] at hst
    have HLV : Hid (lev L x y = L.set x (L.getD y 0)) := (by unfold lev; rw [if_neg hlt] : lev L x y = L.set x (L.getD y 0))
    have HST : Hid ((w.setCell ⟨g, x, none⟩ (.int .i64 (L.getD y 0 : Nat))).drew.ownsRow B 3 1 (.slice (some ⟨g, 0, none⟩) n c) n (nats (lev L x y)) ∧ w.grownBy (w.setCell ⟨g, x, none⟩ (.int .i64 (L.getD y 0 : Nat))).drew (some g)) := (by rw [HLV.out]; exact ⟨own_any hst.1 (grown_below ((Below.refl _ _).drew) none), ⟨hst.2.os, hst.2.tape, hst.2.output, hst.2.size, hst.2.block⟩⟩ : (w.setCell ⟨g, x, none⟩ (.int .i64 (L.getD y 0 : Nat))).drew.ownsRow B 3 1 (.slice (some ⟨g, 0, none⟩) n c) n (nats (lev L x y)) ∧ w.grownBy (w.setCell ⟨g, x, none⟩ (.int .i64 (L.getD y 0 : Nat))).drew (some g))
    have z0 : w.frozen? ⟨g, x, none⟩ = false := HR.out.frozenAt x
    clear hst
    go_wp2
    go_region_held3 (fun w' => w'.cell? ⟨g, x, none⟩ = some (.int .i64 (L.getD x 0 : Nat)) ∧ w'.cell? ⟨g, y, none⟩ = some (.int .i64 (L.getD y 0 : Nat))) (exact ⟨e0, e1⟩) (fail)
    go_wp2
    exact bodyPost_end (v := .tuple #[]) (by simp [results, Try.results65]) rfl ⟨rfl, HST.out⟩
end Go.Proofs.Ytagaajlbkfkaiaa
