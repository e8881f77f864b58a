/- Several texts of the proof, one behind the other. -/
import Derived.Test.YtlcogbcpmneknaaF2P
import Derived.Test.YtlcogbcpmneknaaZ0P
import Derived.Test.YtlcogbcpmneknaaW6P
/- The walk of ref.PiecesOf. -/
namespace Go.Proofs.Ytlcogbcpmneknaa
open Go.RowKit

theorem made_zeroN (n : Nat) : (madeCells (Value.int .i64 0).cells (n * 1)).toList = nats (List.replicate n 0) := by
  have e : (Value.int .i64 0).cells = #[Value.int .i64 0] := rfl
  rw [e, toList_madeCells_one, Nat.mul_one]
  simp [nats]
theorem nats_set (l : List Nat) (i z : Nat) : (nats l).set i (.int .i64 (z : Nat)) = nats (l.set i z) := by simp [nats, List.map_set]
theorem field_spot (a b : Int) (w : World) : (Instr.field 56 (.agg #[.int .i64 a, .int .i64 b]) 0).run Try.prog w = .ok (.int .i64 a) w := by
  simp [Instr.field, run_underlying Try.underlying56, go_sem, asAgg]
/-- The first i labels are laid. -/
def labTo (n i : Nat) : List Nat := (List.range n).map fun v => if v < i then v else 0
theorem labTo_zero (n : Nat) : List.replicate n 0 = labTo n 0 := by
  refine List.ext_getElem (by simp [labTo]) fun j h1 h2 => ?_
  simp [labTo]
theorem labTo_next (n i : Nat) : (labTo n i).set i i = labTo n (i + 1) := by
  refine List.ext_getElem (by simp [labTo]) fun j h1 h2 => ?_
  simp only [List.getElem_set, labTo, List.getElem_map, List.getElem_range]
  split
  · rename_i h; subst h; simp
  · rename_i h
    by_cases h3 : j < i
    · rw [if_pos h3, if_pos (by omega)]
    · rw [if_neg h3, if_neg (by omega)]
theorem labTo_all (n : Nat) : labTo n n = List.range n := by
  refine List.ext_getElem (by simp [labTo]) fun j h1 h2 => ?_
  simp only [labTo, List.getElem_map, List.getElem_range]
  rw [if_pos (by simpa [labTo] using h1)]
theorem arcE_next (C : List Cr) (i : Nat) (hi : i < 2 * C.length) : (arcE C).take (i + 1) = (arcE C).take i ++ [(enC C (i + 1) true, enC C (i + 1) false)] := by
  rw [List.take_add_one]
  congr 1
  simp [arcE, hi]
theorem levs_step (V : List Nat) (C : List Cr) (i : Nat) (hi : i < 2 * C.length) : levs V ((arcE C).take (i + 1)) = lev (levs V ((arcE C).take i)) (enC C (i + 1) true) (enC C (i + 1) false) := by
  rw [arcE_next C i hi, levs_app]
  rfl
theorem arcE_all (C : List Cr) : (arcE C).take (2 * C.length) = arcE C := List.take_of_length_le (by simp [arcE])

set_option maxHeartbeats 16000000 in
set_option maxRecDepth 100000 in
theorem piecesOf_any (a : Option Addr) (cap : Nat) (C : List Cr) (loops : Int) (w : World) (hm : mayD C loops = true) (hD : Crs w w.heap.size (.slice a C.length cap) C) :
    Calls Try.prog 36 #[.agg #[.slice a C.length cap, .int .i64 loops]] w fun e w' => ∃ v W, e = .returned v ∧ w'.ownsRow w.heap.size 3 1 v C.length (nats W) ∧ Least (arcE C) C.length W ∧ Below w.heap.size w w' := by
  obtain ⟨s1, -, -, -⟩ := sizeB_iff (may_size hm)
  obtain ⟨i2, hk, hx0, hx1, hx2⟩ := info_parts infoInt
  have HM : Hid (mayD C loops = true) := hm
  have HD : Hid (Crs w w.heap.size (.slice a C.length cap) C) := hD
  clear hm hD
  obtain ⟨w0, hw0⟩ : ∃ w0, w0 = w.alloc (.cells #[.slice a C.length cap, .int .i64 loops] 24) := ⟨_, rfl⟩
  have HW0 : Hid (w0 = w.alloc (.cells #[.slice a C.length cap, .int .i64 loops] 24)) := hw0
  have hs0 : w0.heap.size = w.heap.size + 1 := by rw [hw0]; simp
  have HB0 : Hid (Below w.heap.size w w0) := (by rw [hw0]; exact (Below.refl _ _).alloc (Nat.le_refl _) _ : Below w.heap.size w w0)
  have HT0 : Hid (w0.heap[w.heap.size]? = some (.cells #[.slice a C.length cap, .int .i64 loops] 24 (0, 0))) := (by rw [hw0]; exact alloc_at rfl : w0.heap[w.heap.size]? = some (.cells #[.slice a C.length cap, .int .i64 loops] 24 (0, 0)))
  clear hw0
  go_enter Try.func36, Try.ntmps36
  go_wp2_with (first | (at_make; refine wpList_make_full _ rfl _ _ 41 rfl (w.heap.size + 1) 3 i2 (.int .i64 0) 1 Try.underlying41 hk hx0 hx1 .i64 .i64 _ _ C.length rfl rfl rfl rfl (by rw [hx2]; omega) (by unfold maxLen; omega) (by simp) ?_; intro w1 hrow hg1; refine Hid.out ?_))
  refine Lib.hid ?_
  rw [← HW0.out] at hrow hg1
  rw [made_zeroN, hs0, labTo_zero] at hrow
  have HP0 : Hid (w1.heap[w.heap.size]? = some (.cells #[.slice a C.length cap, .int .i64 loops] 24 (0, 0)) ∧ w1.ownsRow (w.heap.size + 1) 3 1 (.slice (some ⟨w.heap.size + 1, 0, none⟩) C.length C.length) C.length (nats (labTo C.length 0)) ∧ Below w.heap.size w w1) := ⟨(hg1.block _ (by omega) (by simp)).trans HT0.out, hrow, HB0.out.grown hg1 (by omega) (fun k hk => by cases hk)⟩
  have q1 : IntKind.i64.wrap (2 * (C.length : Int)) = 2 * (C.length : Int) := IntWalk.i64_in _ (by omega)
  clear hrow hg1 HT0 HB0 hs0 HW0
  go_wp2
  go_loopw [5] (fun v5 wr => ∃ i : Nat, i ≤ C.length ∧ v5 = .int .i64 (i : Nat) ∧ Hid (wr.heap[w.heap.size]? = some (.cells #[.slice a C.length cap, .int .i64 loops] 24 (0, 0)) ∧ wr.ownsRow (w.heap.size + 1) 3 1 (.slice (some ⟨w.heap.size + 1, 0, none⟩) C.length C.length) C.length (nats (labTo C.length i)) ∧ Below w.heap.size w wr)) (fun v5 _ => C.length - (intOf v5).toNat)
  case atStart => exact ⟨0, Nat.zero_le _, rfl, HP0.out⟩
  case round =>
    clear HP0
    rename World => W1
    obtain ⟨i, hin, rfl, hp⟩ := hrel
    have hlt := hp.out.2.1.lt (w.heap.size + 1) rfl
    by_cases hil : i < C.length
    · have hst := hp.out.2.1.stored i (.int .i64 (i : Nat))
      rw [nats_set, labTo_next] at hst
      have HST : Hid ((W1.setCell ⟨w.heap.size + 1, i, none⟩ (.int .i64 (i : Nat))).heap[w.heap.size]? = some (.cells #[.slice a C.length cap, .int .i64 loops] 24 (0, 0)) ∧ (W1.setCell ⟨w.heap.size + 1, i, none⟩ (.int .i64 (i : Nat))).ownsRow (w.heap.size + 1) 3 1 (.slice (some ⟨w.heap.size + 1, 0, none⟩) C.length C.length) C.length (nats (labTo C.length (i + 1))) ∧ Below w.heap.size w (W1.setCell ⟨w.heap.size + 1, i, none⟩ (.int .i64 (i : Nat)))) := ⟨(hst.2.block _ (by omega) (fun e => by have : w.heap.size = w.heap.size + 1 := Option.some.inj e; omega)).trans hp.out.1, hst.1, hp.out.2.2.grown hst.2 hp.out.2.2.size (fun q hq => by have := Option.some.inj hq; omega)⟩
      have e0 : W1.cell? ⟨w.heap.size + 1, i, none⟩ = some (.int .i64 ((labTo C.length i).getD i 0 : Nat)) := by
        rw [hp.out.2.1.cellAt i (by omega)]; exact nats_get _ i (by simp [labTo]; omega)
      have z0 : W1.frozen? ⟨w.heap.size + 1, i, none⟩ = false := hp.out.2.1.frozenAt i
      clear hst
      go_wp2
      go_roundw
      case rel => exact ⟨i + 1, by omega, by go_num, HST.out⟩
      case measure => simp only [intOf]; omega
    · obtain rfl : i = C.length := by omega
      have HP1 : Hid (W1.heap[w.heap.size]? = some (.cells #[.slice a C.length cap, .int .i64 loops] 24 (0, 0)) ∧ W1.ownsRow (w.heap.size + 1) 3 1 (.slice (some ⟨w.heap.size + 1, 0, none⟩) C.length C.length) C.length (nats (levR (List.range C.length) (arcE C) 0)) ∧ Below w.heap.size w W1) := (by have h := hp.out; rw [labTo_all] at h; exact h : (W1.heap[w.heap.size]? = some (.cells #[.slice a C.length cap, .int .i64 loops] 24 (0, 0)) ∧ W1.ownsRow (w.heap.size + 1) 3 1 (.slice (some ⟨w.heap.size + 1, 0, none⟩) C.length C.length) C.length (nats (levR (List.range C.length) (arcE C) 0)) ∧ Below w.heap.size w W1))
      have HLN : Hid (∀ r, (levR (List.range C.length) (arcE C) r).length = C.length) := fun r => (levR_lab (arcE_lt HM.out) ⟨by simp, fun v hv => by simp [List.getD_eq_getElem?_getD, hv], fun v hv => by simp [List.getD_eq_getElem?_getD, hv, Con.refl]⟩ r).len
      clear hp
      go_wp2
      go_loopw [6] (fun v6 wr => ∃ r : Nat, r ≤ C.length ∧ v6 = .int .i64 (r : Nat) ∧ Hid (wr.heap[w.heap.size]? = some (.cells #[.slice a C.length cap, .int .i64 loops] 24 (0, 0)) ∧ wr.ownsRow (w.heap.size + 1) 3 1 (.slice (some ⟨w.heap.size + 1, 0, none⟩) C.length C.length) C.length (nats (levR (List.range C.length) (arcE C) r)) ∧ Below w.heap.size w wr)) (fun v6 _ => C.length - (intOf v6).toNat)
      case atStart => exact ⟨0, Nat.zero_le _, rfl, HP1.out⟩
      case round =>
        clear HP1
        rename World => W2
        obtain ⟨r, hrn, rfl, hp⟩ := hrel
        by_cases hrl : r < C.length
        · have hdr : decide ((r : Int) < (C.length : Int)) = true := by simp; omega
          have hdr2 : decide (r < C.length) = true := by simp; omega
          obtain ⟨V, hV⟩ : ∃ V, levR (List.range C.length) (arcE C) r = V := ⟨_, rfl⟩
          have HV : Hid (levR (List.range C.length) (arcE C) r = V) := hV
          have HVL : Hid (V.length = C.length) := (by rw [← hV]; exact HLN.out r : V.length = C.length)
          have HP2 : Hid (W2.heap[w.heap.size]? = some (.cells #[.slice a C.length cap, .int .i64 loops] 24 (0, 0)) ∧ W2.ownsRow (w.heap.size + 1) 3 1 (.slice (some ⟨w.heap.size + 1, 0, none⟩) C.length C.length) C.length (nats (levs V ((arcE C).take 0))) ∧ Below w.heap.size w W2) := (by have h := hp.out; rw [hV] at h; exact h : (W2.heap[w.heap.size]? = some (.cells #[.slice a C.length cap, .int .i64 loops] 24 (0, 0)) ∧ W2.ownsRow (w.heap.size + 1) 3 1 (.slice (some ⟨w.heap.size + 1, 0, none⟩) C.length C.length) C.length (nats (levs V ((arcE C).take 0))) ∧ Below w.heap.size w W2))
          clear hp hV
          go_wp2
          go_loopw [7] (fun v7 wr => ∃ i j : Nat, i ≤ 2 * C.length ∧ Hid (j = i + 1) ∧ v7 = .int .i64 (j : Nat) ∧ Hid (wr.heap[w.heap.size]? = some (.cells #[.slice a C.length cap, .int .i64 loops] 24 (0, 0)) ∧ wr.ownsRow (w.heap.size + 1) 3 1 (.slice (some ⟨w.heap.size + 1, 0, none⟩) C.length C.length) C.length (nats (levs V ((arcE C).take i))) ∧ Below w.heap.size w wr)) (fun v7 _ => 2 * C.length + 1 - (intOf v7).toNat)
          case atStart => exact ⟨0, 1, Nat.zero_le _, (rfl : 1 = 0 + 1), rfl, HP2.out⟩
          case round =>
            clear HP2
            rename World => W3
            obtain ⟨i, j, hin, hji, rfl, hp⟩ := hrel
            by_cases hil : i < 2 * C.length
            · have hj1 : 1 ≤ j := by have := hji.out; omega
              have hj2 : j ≤ 2 * C.length := by have := hji.out; omega
              have hdj : decide ((j : Int) ≤ 2 * (C.length : Int)) = true := by simp; omega
              have hdj2 : decide (j ≤ 2 * C.length) = true := by simp; omega
              obtain ⟨b, off, ea, hbw, hC⟩ := crs_some HD.out (by omega)
              have HEA : Hid (a = some ⟨b, off, none⟩) := ea
              have HCC : Hid (∀ w', Below W3.heap.size W3 w' → CrossAt w' b off C) := fun w' hb => (hC.on hp.out.2.2 hbw).on hb (Nat.lt_of_lt_of_le hbw hp.out.2.2.size)
              have hs3 := hp.out.2.2.size
              have hgl := hp.out.2.1.lt (w.heap.size + 1) rfl
              obtain ⟨L, hL⟩ : ∃ L, levs V ((arcE C).take i) = L := ⟨_, rfl⟩
              have HLL : Hid (levs V ((arcE C).take i) = L) := hL
              have HP3 : Hid (W3.heap[w.heap.size]? = some (.cells #[.slice a C.length cap, .int .i64 loops] 24 (0, 0)) ∧ W3.ownsRow (w.heap.size + 1) 3 1 (.slice (some ⟨w.heap.size + 1, 0, none⟩) C.length C.length) C.length (nats L) ∧ Below w.heap.size w W3) := (by rw [← hL]; exact hp.out : (W3.heap[w.heap.size]? = some (.cells #[.slice a C.length cap, .int .i64 loops] 24 (0, 0)) ∧ W3.ownsRow (w.heap.size + 1) 3 1 (.slice (some ⟨w.heap.size + 1, 0, none⟩) C.length C.length) C.length (nats L) ∧ Below w.heap.size w W3))
              have HLN2 : Hid (L.length = C.length) := (by have h := HP3.out.2.1.1; rw [nats_len] at h; omega : L.length = C.length)
              obtain ⟨x1, x2, x3, -, -⟩ := en_may HM.out j true hj1 hj2
              obtain ⟨y1, y2, y3, -, -⟩ := en_may HM.out j false hj1 hj2
              obtain ⟨x, hx⟩ : ∃ x, enC C j true = x := ⟨_, rfl⟩
              obtain ⟨y, hy⟩ : ∃ y, enC C j false = y := ⟨_, rfl⟩
              obtain ⟨xs, hxs⟩ : ∃ xs, enS C j true = xs := ⟨_, rfl⟩
              obtain ⟨ys, hys⟩ : ∃ ys, enS C j false = ys := ⟨_, rfl⟩
              have HE1 : Hid (∀ W, b < W.heap.size → CrossAt W b off C → Calls Try.prog 23 #[.agg #[.slice (some ⟨b, off, none⟩) C.length cap, .int .i64 loops], .int .i64 j, .bool false] W fun e w' => e = .returned (.agg #[.int .i64 (x : Nat), .int .i64 (xs : Nat)]) ∧ Below W.heap.size W w') := fun W hW hCW => by
                have h := endOf_any b off cap C loops j false W HM.out hj1 hj2 hW hCW
                rw [show (!false) = true from rfl, x1, hx, hxs] at h
                exact h
              have HE2 : Hid (∀ W, b < W.heap.size → CrossAt W b off C → Calls Try.prog 23 #[.agg #[.slice (some ⟨b, off, none⟩) C.length cap, .int .i64 loops], .int .i64 j, .bool true] W fun e w' => e = .returned (.agg #[.int .i64 (y : Nat), .int .i64 (ys : Nat)]) ∧ Below W.heap.size W w') := fun W hW hCW => by
                have h := endOf_any b off cap C loops j true W HM.out hj1 hj2 hW hCW
                rw [show (!true) = false from rfl, y1, hy, hys] at h
                exact h
              rw [hx] at x2
              rw [hy] at y2
              have HXX : Hid (enC C j true = x) := hx
              have HYY : Hid (enC C j false = y) := hy
              have HF : Hid (∀ w', Below W3.heap.size W3 w' → w'.cell? ⟨w.heap.size, 0, none⟩ = some (.slice (some ⟨b, off, none⟩) C.length cap) ∧ w'.cell? ⟨w.heap.size, 1, none⟩ = some (.int .i64 loops)) := fun w' hb => by
                have g := (hb.block _ (by omega)).trans HP3.out.1
                rw [HEA.out] at g
                exact ⟨block_cell g rfl, block_cell g rfl⟩
              have HD3 : Hid (Below W3.heap.size W3 W3.drew) := (Below.refl _ _).drew
              have hb3 : b < W3.heap.size := by omega
              have hfs := field_spot
              clear hC ea hp hL hx hy hxs hys x1 y1 x3 y3
              go_wp2
              obtain ⟨t0, t1⟩ := HF.out W3 (Below.refl _ _)
              go_region_held3 (fun w' => w'.cell? ⟨w.heap.size, 0, none⟩ = some (.slice (some ⟨b, off, none⟩) C.length cap) ∧ w'.cell? ⟨w.heap.size, 1, none⟩ = some (.int .i64 loops)) (first | exact HF.out _ H5.out | exact HF.out _ H4.out | exact HF.out _ HD3.out) (first
                | (go_at_call 23; have hAA := H4; clear hAA; refine (HE2.out _ hb4 (HCC.out _ H4.out)).mono ?_; rintro e9 w5 ⟨rfl, hb5⟩
                   have H5 : Hid (Below W3.heap.size W3 w5) := H4.out.trans (hb5.mono H4.out.size)
                   clear hb5)
                | (go_at_call 23; refine (HE1.out W3.drew hb3 (HCC.out _ HD3.out)).mono ?_; rintro e9 w4 ⟨rfl, hb4'⟩
                   have H4 : Hid (Below W3.heap.size W3 w4) := HD3.out.trans (hb4'.mono HD3.out.size)
                   have hb4 : b < w4.heap.size := by have := H4.out.size; omega
                   clear hb4'))
              all_goals
                clear hfs t0 t1
                have hs5 := H5.out.size
                have HR5 : Hid (w5.ownsRow (w.heap.size + 1) 3 1 (.slice (some ⟨w.heap.size + 1, 0, none⟩) C.length C.length) C.length (nats L)) := own_any HP3.out.2.1 (grown_below H5.out none)
                have HB5 : Hid (Below w.heap.size w w5) := HP3.out.2.2.trans (H5.out.mono hs3)
                have HT5 : Hid (w5.heap[w.heap.size]? = some (.cells #[.slice a C.length cap, .int .i64 loops] 24 (0, 0))) := (H5.out.block _ (by omega)).trans HP3.out.1
                have e0 : w5.cell? ⟨w.heap.size + 1, x, none⟩ = some (.int .i64 (L.getD x 0 : Nat)) := by
                  rw [HR5.out.cellAt x (by omega)]; exact nats_get _ x (by rw [HLN2.out]; exact x2)
                have e1 : w5.cell? ⟨w.heap.size + 1, y, none⟩ = some (.int .i64 (L.getD y 0 : Nat)) := by
                  rw [HR5.out.cellAt y (by omega)]; exact nats_get _ y (by rw [HLN2.out]; exact y2)
                have l5 : w.heap.size + 1 < w5.heap.size := by omega
                by_cases hlt : L.getD x 0 < L.getD y 0
                · have hdx : decide (((L.getD x 0 : Nat) : Int) < ((L.getD y 0 : Nat) : Int)) = true := by simp only [decide_eq_true_eq]; omega
                  have hdx2 : decide (L.getD x 0 < L.getD y 0) = true := by simp only [decide_eq_true_eq]; omega
                  have hst := HR5.out.stored y (.int .i64 (L.getD x 0 : Nat))
                  rw [nats_set] at hst
                  have HLV : Hid (levs V ((arcE C).take (i + 1)) = L.set y (L.getD x 0)) := (by rw [levs_step V C i hil, HLL.out, ← hji.out, HXX.out, HYY.out]; unfold lev; rw [if_pos hlt] : levs V ((arcE C).take (i + 1)) = L.set y (L.getD x 0))
                  have HST : Hid ((w5.setCell ⟨w.heap.size + 1, y, none⟩ (.int .i64 (L.getD x 0 : Nat))).drew.heap[w.heap.size]? = some (.cells #[.slice a C.length cap, .int .i64 loops] 24 (0, 0)) ∧ (w5.setCell ⟨w.heap.size + 1, y, none⟩ (.int .i64 (L.getD x 0 : Nat))).drew.ownsRow (w.heap.size + 1) 3 1 (.slice (some ⟨w.heap.size + 1, 0, none⟩) C.length C.length) C.length (nats (levs V ((arcE C).take (i + 1)))) ∧ Below w.heap.size w (w5.setCell ⟨w.heap.size + 1, y, none⟩ (.int .i64 (L.getD x 0 : Nat))).drew) := (by rw [HLV.out]; exact ⟨(hst.2.block _ (by omega) (fun e => by have : w.heap.size = w.heap.size + 1 := Option.some.inj e; omega)).trans HT5.out, hst.1, (HB5.out.grown hst.2 HB5.out.size (fun q hq => by have := Option.some.inj hq; omega)).drew⟩ : ((w5.setCell ⟨w.heap.size + 1, y, none⟩ (.int .i64 (L.getD x 0 : Nat))).drew.heap[w.heap.size]? = some (.cells #[.slice a C.length cap, .int .i64 loops] 24 (0, 0)) ∧ (w5.setCell ⟨w.heap.size + 1, y, none⟩ (.int .i64 (L.getD x 0 : Nat))).drew.ownsRow (w.heap.size + 1) 3 1 (.slice (some ⟨w.heap.size + 1, 0, none⟩) C.length C.length) C.length (nats (levs V ((arcE C).take (i + 1)))) ∧ Below w.heap.size w (w5.setCell ⟨w.heap.size + 1, y, none⟩ (.int .i64 (L.getD x 0 : Nat))).drew))
                  have z0 : w5.frozen? ⟨w.heap.size + 1, y, none⟩ = false := HR5.out.frozenAt y
                  clear hst
                  go_wp2
                  go_region_held3 (fun w' => w'.cell? ⟨w.heap.size + 1, x, none⟩ = some (.int .i64 (L.getD x 0 : Nat)) ∧ w'.cell? ⟨w.heap.size + 1, y, none⟩ = some (.int .i64 (L.getD y 0 : Nat))) (exact ⟨e0, e1⟩) (fail)
                  go_wp2
                  go_roundw
                  case rel => exact ⟨i + 1, j + 1, by omega, (by have := hji.out; omega : j + 1 = i + 1 + 1), by go_num, HST.out⟩
                  case measure => simp only [intOf]; omega
                · have hdx : decide (((L.getD x 0 : Nat) : Int) < ((L.getD y 0 : Nat) : Int)) = false := by simp only [decide_eq_false_iff_not]; omega
                  have hdx2 : decide (L.getD x 0 < L.getD y 0) = false := by simp only [decide_eq_false_iff_not]; omega
                  have hst := HR5.out.stored x (.int .i64 (L.getD y 0 : Nat))
                  rw [nats_set] at hst
                  have HLV : Hid (levs V ((arcE C).take (i + 1)) = L.set x (L.getD y 0)) := (by rw [levs_step V C i hil, HLL.out, ← hji.out, HXX.out, HYY.out]; unfold lev; rw [if_neg hlt] : levs V ((arcE C).take (i + 1)) = L.set x (L.getD y 0))
                  have HST : Hid ((w5.setCell ⟨w.heap.size + 1, x, none⟩ (.int .i64 (L.getD y 0 : Nat))).drew.heap[w.heap.size]? = some (.cells #[.slice a C.length cap, .int .i64 loops] 24 (0, 0)) ∧ (w5.setCell ⟨w.heap.size + 1, x, none⟩ (.int .i64 (L.getD y 0 : Nat))).drew.ownsRow (w.heap.size + 1) 3 1 (.slice (some ⟨w.heap.size + 1, 0, none⟩) C.length C.length) C.length (nats (levs V ((arcE C).take (i + 1)))) ∧ Below w.heap.size w (w5.setCell ⟨w.heap.size + 1, x, none⟩ (.int .i64 (L.getD y 0 : Nat))).drew) := (by rw [HLV.out]; exact ⟨(hst.2.block _ (by omega) (fun e => by have : w.heap.size = w.heap.size + 1 := Option.some.inj e; omega)).trans HT5.out, hst.1, (HB5.out.grown hst.2 HB5.out.size (fun q hq => by have := Option.some.inj hq; omega)).drew⟩ : ((w5.setCell ⟨w.heap.size + 1, x, none⟩ (.int .i64 (L.getD y 0 : Nat))).drew.heap[w.heap.size]? = some (.cells #[.slice a C.length cap, .int .i64 loops] 24 (0, 0)) ∧ (w5.setCell ⟨w.heap.size + 1, x, none⟩ (.int .i64 (L.getD y 0 : Nat))).drew.ownsRow (w.heap.size + 1) 3 1 (.slice (some ⟨w.heap.size + 1, 0, none⟩) C.length C.length) C.length (nats (levs V ((arcE C).take (i + 1)))) ∧ Below w.heap.size w (w5.setCell ⟨w.heap.size + 1, x, none⟩ (.int .i64 (L.getD y 0 : Nat))).drew))
                  have z0 : w5.frozen? ⟨w.heap.size + 1, x, none⟩ = false := HR5.out.frozenAt x
                  clear hst
                  go_wp2
                  go_region_held3 (fun w' => w'.cell? ⟨w.heap.size + 1, x, none⟩ = some (.int .i64 (L.getD x 0 : Nat)) ∧ w'.cell? ⟨w.heap.size + 1, y, none⟩ = some (.int .i64 (L.getD y 0 : Nat))) (exact ⟨e0, e1⟩) (fail)
                  go_wp2
                  go_roundw
                  case rel => exact ⟨i + 1, j + 1, by omega, (by have := hji.out; omega : j + 1 = i + 1 + 1), by go_num, HST.out⟩
                  case measure => simp only [intOf]; omega
            · obtain rfl : i = 2 * C.length := by omega
              obtain rfl : j = 2 * C.length + 1 := hji.out
              go_wp2
              go_roundw
              case rel => exact ⟨r + 1, by omega, by go_num, (by have h := hp.out; rw [arcE_all, ← HV.out] at h; exact h : (W3.heap[w.heap.size]? = some (.cells #[.slice a C.length cap, .int .i64 loops] 24 (0, 0)) ∧ W3.ownsRow (w.heap.size + 1) 3 1 (.slice (some ⟨w.heap.size + 1, 0, none⟩) C.length C.length) C.length (nats (levR (List.range C.length) (arcE C) (r + 1))) ∧ Below w.heap.size w W3))⟩
              case measure => simp only [intOf]; omega
        · obtain rfl : r = C.length := by omega
          go_wp2
          go_ret
          exact ⟨_, _, rfl, own_low hp.out.2.1 (by omega), levR_least (arcE_lt HM.out) C.length (Nat.le_refl _), hp.out.2.2⟩
end Go.Proofs.Ytlcogbcpmneknaa
/- Rings of darts in a world; the walk of ref.PlanarIs. -/
namespace Go.Proofs.Ytlcogbcpmneknaa
open Go.RowKit

/-- Rings of darts, to be read; their blocks lie from B on. -/
def RingsAt (w : World) (B : Nat) (v : Value) (L : List (List Nat)) : Prop := ∃ a cap, v = .slice a L.length cap ∧ (0 < L.length → ∃ b off, a = some ⟨b, off, none⟩ ∧ b < w.heap.size ∧ B ≤ b ∧ ∀ j, j < L.length → ∃ g c, w.cell? ⟨b, off + j, none⟩ = some (.slice (some ⟨g, 0, none⟩) (L.getD j []).length c) ∧ g < w.heap.size ∧ B ≤ g ∧ ∀ k, k < (L.getD j []).length → w.cell? ⟨g, k * 2, none⟩ = some (.int .i64 (dA ((L.getD j []).getD k 0) : Nat)) ∧ w.cell? ⟨g, k * 2 + 1, none⟩ = some (.bool (dB ((L.getD j []).getD k 0))))
theorem RingsAt.on {w w' : World} {B : Nat} {v : Value} {L : List (List Nat)} (h : RingsAt w B v L) (hb : Below w.heap.size w w') : RingsAt w' B v L := by
  obtain ⟨a, cap, rfl, f⟩ := h
  refine ⟨a, cap, rfl, fun h0 => ?_⟩
  obtain ⟨b, off, rfl, hlt, hB, hc⟩ := f h0
  refine ⟨b, off, rfl, Nat.lt_of_lt_of_le hlt hb.size, hB, fun j hj => ?_⟩
  obtain ⟨g, c, h1, h2, hG, h3⟩ := hc j hj
  exact ⟨g, c, bcell hb hlt h1, Nat.lt_of_lt_of_le h2 hb.size, hG, fun k hk => ⟨bcell hb h2 (h3 k hk).1, bcell hb h2 (h3 k hk).2⟩⟩
theorem dd_get (l : List Nat) (k : Nat) (hk : k < l.length) : (dd l).getD k (0, false) = (dA (l.getD k 0), dB (l.getD k 0)) := by
  simp [dd, List.getD_eq_getElem?_getD, hk]
theorem DartsOwn.rings {w : World} {B : Nat} {v : Value} {L : List (List Nat)} (h : DartsOwn w B v L) (hn : ∀ j, j < L.length → 0 < (L.getD j []).length) : RingsAt w B v L := by
  obtain ⟨ys, h1, h2, h3⟩ := h
  obtain ⟨a, cap, ev, f⟩ := slots_of_own h2
  refine ⟨a, cap, by rw [ev, h1], fun h0 => ?_⟩
  obtain ⟨b, off, ea, hlt, hc⟩ := f (by omega)
  refine ⟨b, off, ea, hlt, (h2.lt b (by rw [ev, ea]; rfl)).1, fun j hj => ?_⟩
  have hr := h3 j hj
  have hpos := hn j hj
  have hcell := hc j (by omega)
  rcases hr.2 with ⟨_, hz⟩ | ⟨g, c, cur, e1, hBg, hg, _, _, _, htk⟩
  · omega
  · rw [e1] at hcell
    refine ⟨g, c, hcell, (Array.getElem?_eq_some_iff.1 hg).1, hBg, fun k hk => ?_⟩
    have hv := vflat_get (dd (L.getD j [])) k (by rw [dd_len]; exact hk)
    rw [dd_get _ k hk] at hv
    have hcl := fun (o : Nat) (u : Value) (hu : (vflat (dd (L.getD j [])))[o]? = some u) => hr.cells (g := g) (by rw [e1]; rfl) o u hu
    have hadd : ∀ o, (⟨g, 0, none⟩ : Addr).add o = ⟨g, o, none⟩ := fun o => by unfold Addr.add; split <;> simp_all
    have a1 := hcl _ _ hv.1
    have a2 := hcl _ _ hv.2
    rw [hadd] at a1 a2
    exact ⟨a1, a2⟩
theorem facesM_facts {C : List Cr} {loops : Int} (hm : mayD C loops = true) : (facesM C).length ≤ 4 * C.length ∧ ∀ j, j < (facesM C).length → 0 < ((facesM C).getD j []).length ∧ ((facesM C).getD j []).length ≤ 4 * C.length + 1 ∧ ∀ k, k < ((facesM C).getD j []).length → 1 ≤ ((facesM C).getD j []).getD k 0 ∧ ((facesM C).getD j []).getD k 0 ≤ 4 * C.length := by
  refine ⟨walksTo_count _ _ _, fun j hj => ?_⟩
  have hmem : (facesM C).getD j [] ∈ facesM C := by rw [List.getD_eq_getElem?_getD, List.getElem?_eq_getElem hj]; exact List.getElem_mem hj
  obtain ⟨h1, h2, h3⟩ := walksTo_mem (fd_closed hm) (4 * C.length) (Nat.le_refl _) _ hmem
  refine ⟨List.length_pos_iff.2 h1, h2, fun k hk => h3 _ ?_⟩
  generalize (facesM C).getD j [] = l at hk ⊢
  rw [List.getD_eq_getElem?_getD, List.getElem?_eq_getElem hk]
  exact List.getElem_mem hk
theorem facesM_pos {C : List Cr} (h : 0 < C.length) : 0 < (facesM C).length := by
  have h1 := walks_once (fd C) (4 * C.length) 1 (Nat.le_refl _) (by omega)
  unfold facesM
  cases hl : (walksTo (fd C) (4 * C.length) (4 * C.length)).1 with
  | nil => rw [hl] at h1; simp at h1
  | cons x l => simp
/-- The crossings at which the faces' first darts end. -/
def headsM (C : List Cr) : List Nat := (facesM C).map fun l => dC C (l.getD 0 0)
theorem headsM_len (C : List Cr) : (headsM C).length = (facesM C).length := by simp [headsM]
theorem headsM_at (C : List Cr) (i : Nat) (hi : i < (facesM C).length) : (headsM C).getD i 0 = dC C (((facesM C).getD i []).getD 0 0) := by
  simp [headsM, List.getD_eq_getElem?_getD, hi]
theorem headsM_lt {C : List Cr} {loops : Int} (hm : mayD C loops = true) : ∀ g, g ∈ headsM C → g < C.length := fun g hg => by
  obtain ⟨l, hl, rfl⟩ := List.mem_map.1 hg
  obtain ⟨j, hj, rfl⟩ := List.getElem_of_mem hl
  obtain ⟨h1, _, h3⟩ := (facesM_facts hm).2 j hj
  have e : (facesM C).getD j [] = (facesM C)[j] := by rw [List.getD_eq_getElem?_getD, List.getElem?_eq_getElem hj]; rfl
  rw [e] at h1 h3
  exact (d_may hm _ (h3 0 h1).1 (h3 0 h1).2).2.1
/-- The diagram lies on a sphere. -/
def whoM (C : List Cr) : List Nat := levR (List.range C.length) (arcE C) C.length
def planarB (C : List Cr) : Bool := (List.range C.length).all fun p => !decide ((whoM C).getD p 0 = p) || decide (exN C.length (headsM C) (whoM C) p = 2)
theorem planarB_iff (C : List Cr) : planarB C = true ↔ ∀ p, p < C.length → (whoM C).getD p 0 = p → exN C.length (headsM C) (whoM C) p = 2 := by
  unfold planarB
  rw [List.all_eq_true]
  constructor
  · intro h p hp e
    have := h p (List.mem_range.2 hp)
    rw [e] at this
    simpa only [decide_true, Bool.not_true, Bool.false_or, decide_eq_true_eq] using this
  · intro h p hp
    by_cases e : (whoM C).getD p 0 = p
    · simp only [e, decide_true, Bool.not_true, Bool.false_or, decide_eq_true_eq]; exact h p (List.mem_range.1 hp) e
    · simp only [e, decide_false, Bool.not_false, Bool.true_or]
theorem whoM_least {C : List Cr} {loops : Int} (hm : mayD C loops = true) : Least (arcE C) C.length (whoM C) := levR_least (arcE_lt hm) C.length (Nat.le_refl _)
/-- The counts under way. -/
def cntN (W : List Nat) (p : Nat) (i : Nat) : Nat := (List.range i).countP fun v => decide (W.getD v 0 = p)
theorem cntN_next (W : List Nat) (p i : Nat) : cntN W p (i + 1) = cntN W p i + if W.getD i 0 = p then 1 else 0 := by
  unfold cntN
  rw [List.range_succ, List.countP_append]
  congr 1
  by_cases h : W.getD i 0 = p
  · rw [if_pos h]; simp only [List.countP_cons, List.countP_nil, h, decide_true, if_true]
  · rw [if_neg h]; simp only [List.countP_cons, List.countP_nil, h, decide_false]; rfl
theorem cntN_le (W : List Nat) (p i : Nat) : cntN W p i ≤ i := by
  have := List.countP_le_length (p := fun v => decide (W.getD v 0 = p)) (l := List.range i)
  simpa [cntN] using this
def cntG (G : List Nat) (W : List Nat) (p : Nat) (i : Nat) : Nat := (G.take i).countP fun g => decide (W.getD g 0 = p)
theorem cntG_next (G W : List Nat) (p i : Nat) (hi : i < G.length) : cntG G W p (i + 1) = cntG G W p i + if W.getD (G.getD i 0) 0 = p then 1 else 0 := by
  unfold cntG
  rw [List.take_add_one, List.countP_append]
  congr 1
  have e : G[i]? = some (G.getD i 0) := by rw [List.getD_eq_getElem?_getD, List.getElem?_eq_getElem hi]; rfl
  rw [e]
  by_cases h : W.getD (G.getD i 0) 0 = p
  · rw [if_pos h]; simp only [Option.toList_some, List.countP_cons, List.countP_nil, h, decide_true, if_true]
  · rw [if_neg h]; simp only [Option.toList_some, List.countP_cons, List.countP_nil, h, decide_false]; rfl
theorem cntG_le (G W : List Nat) (p i : Nat) : cntG G W p i ≤ G.length := by
  have := List.countP_le_length (p := fun g => decide (W.getD g 0 = p)) (l := G.take i)
  unfold cntG
  have h2 := List.length_take_le i G
  have h3 : (G.take i).length ≤ G.length := by rw [List.length_take]; omega
  omega
theorem ex_cnt (n : Nat) (G W : List Nat) (p : Nat) : exN n G W p = (cntG G W p G.length : Int) - (cntN W p n : Int) := by
  unfold exN cntG cntN
  rw [List.take_length]
end Go.Proofs.Ytlcogbcpmneknaa
/- Plain mathematics: in a planar diagram of one piece a set of arcs that comes to each crossing an even number of times parts two sets of faces. -/
namespace Go.Proofs.Ytlcogbcpmneknaa

theorem xs_swap (h : Nat → Nat → Bool) (m n : Nat) : xs (fun i => xs (fun j => h i j) n) m = xs (fun j => xs (fun i => h i j) m) n := by
  induction m with
  | zero =>
    have : xs (fun j => xs (fun i => h i j) 0) n = false := xs_none fun _ _ => rfl
    rw [this]; rfl
  | succ m ih =>
    have : xs (fun j => xs (fun i => h i j) (m + 1)) n = xor (xs (fun j => xs (fun i => h i j) m) n) (xs (fun j => h m j) n) := by
      rw [← xs_xor]
      rfl
    rw [this, ← ih]
    rfl
theorem xs_only {n q : Nat} (hq : q < n) (b : Bool) : xs (fun j => decide (j = q) && b) n = b := by
  cases b with
  | false => exact xs_none fun _ _ => by simp
  | true => exact xs_last hq (by simp) (fun j hj => by simp; omega) (fun j h1 _ => by simp; omega)
/-- A sum in another order. -/
theorem xs_perm {M : Nat} (h : Nat → Bool) (p r : Nat → Nat) (hp : ∀ j, j < M → p j < M) (hr : ∀ q, q < M → r q < M) (h1 : ∀ j, j < M → r (p j) = j) (h2 : ∀ q, q < M → p (r q) = q) : xs h M = xs (fun q => h (r q)) M := by
  have e1 : xs h M = xs (fun j => xs (fun q => decide (q = p j) && h j) M) M := xs_congr fun j hj => (xs_only (hp j hj) (h j)).symm
  have e2 : xs (fun q => h (r q)) M = xs (fun q => xs (fun j => decide (q = p j) && h j) M) M := xs_congr fun q hq => by
    rw [← xs_only (hr q hq) (h (r q))]
    refine xs_congr fun j hj => ?_
    by_cases e : j = r q
    · subst e
      rw [h2 q hq]
      simp
    · have : ¬ q = p j := fun e3 => e (by rw [e3, h1 j hj])
      simp [e, this]
  rw [e1, e2, xs_swap]
theorem xs_two (h : Nat → Bool) (m : Nat) : xs h (2 * m) = xs (fun i => xor (h (2 * i)) (h (2 * i + 1))) m := by
  induction m with
  | zero => rfl
  | succ m ih =>
    rw [show 2 * (m + 1) = 2 * m + 1 + 1 by omega]
    simp only [xs]
    rw [ih]
    cases xs (fun i => xor (h (2 * i)) (h (2 * i + 1))) m <;> cases h (2 * m) <;> cases h (2 * m + 1) <;> rfl
theorem xs_four (h : Nat → Bool) (m : Nat) : xs h (4 * m) = xs (fun k => xor (xor (h (4 * k)) (h (4 * k + 1))) (xor (h (4 * k + 2)) (h (4 * k + 3)))) m := by
  induction m with
  | zero => rfl
  | succ m ih =>
    rw [show 4 * (m + 1) = 4 * m + 1 + 1 + 1 + 1 by omega]
    simp only [xs]
    rw [ih]
    cases xs (fun k => xor (xor (h (4 * k)) (h (4 * k + 1))) (xor (h (4 * k + 2)) (h (4 * k + 3)))) m <;> cases h (4 * m) <;> cases h (4 * m + 1) <;> cases h (4 * m + 2) <;> cases h (4 * m + 3) <;> rfl
/-- The arc at a side. -/
def aAt (C : List Cr) (k s : Nat) : Nat := ((C.getD k Cr.none).arc s).toNat
theorem en_side {C : List Cr} {loops : Int} (hm : mayD C loops = true) (k s : Nat) (hk : k < C.length) (hs : s < 4) : enC C (aAt C k s) ((C.getD k Cr.none).comes s) = k ∧ enS C (aAt C k s) ((C.getD k Cr.none).comes s) = s ∧ 1 ≤ aAt C k s ∧ aAt C k s ≤ 2 * C.length := by
  have hf := may_fit hm k s hk hs
  have g1 := hf.1
  have g2 := hf.2.1
  have ha : 1 ≤ aAt C k s ∧ aAt C k s ≤ 2 * C.length := by unfold aAt; omega
  have e := end_one hm (aAt C k s) ha.1 ha.2 ((C.getD k Cr.none).comes s) k s hk hs (by unfold aAt; omega) rfl
  refine ⟨?_, ?_, ha.1, ha.2⟩
  · unfold enC; rw [e]; rfl
  · unfold enS; rw [e]; rfl
/-- A sum over arcs' ends is a sum over crossings' sides. -/
theorem xs_sides {C : List Cr} {loops : Int} (hm : mayD C loops = true) (S d : Nat → Bool) : xs (fun i => xor (S (enC C (i + 1) true)) (S (enC C (i + 1) false)) && d (i + 1)) (2 * C.length) = xs (fun k => S k && xor (xor (d (aAt C k 0)) (d (aAt C k 1))) (xor (d (aAt C k 2)) (d (aAt C k 3)))) C.length := by
  have e1 : xs (fun i => xor (S (enC C (i + 1) true)) (S (enC C (i + 1) false)) && d (i + 1)) (2 * C.length) = xs (fun j => S (enC C (dA (j + 1)) (dB (j + 1))) && d (dA (j + 1))) (2 * (2 * C.length)) := by
    refine Eq.trans ?_ (xs_two (fun j => S (enC C (dA (j + 1)) (dB (j + 1))) && d (dA (j + 1))) (2 * C.length)).symm
    refine xs_congr fun i _ => ?_
    have a1 : dA (2 * i + 1) = i + 1 := by unfold dA; omega
    have a2 : dA (2 * i + 1 + 1) = i + 1 := by unfold dA; omega
    have b1 : dB (2 * i + 1) = false := by unfold dB; exact decide_eq_false (by omega)
    have b2 : dB (2 * i + 1 + 1) = true := by unfold dB; exact decide_eq_true (by omega)
    rw [a1, a2, b1, b2]
    cases S (enC C (i + 1) true) <;> cases S (enC C (i + 1) false) <;> cases d (i + 1) <;> rfl
  rw [e1, show 2 * (2 * C.length) = 4 * C.length by omega]
  rw [xs_perm (fun j => S (enC C (dA (j + 1)) (dB (j + 1))) && d (dA (j + 1))) (fun j => 4 * enC C (dA (j + 1)) (dB (j + 1)) + enS C (dA (j + 1)) (dB (j + 1))) (fun q => mkD (aAt C (q / 4) (q % 4)) ((C.getD (q / 4) Cr.none).comes (q % 4)) - 1)
    (fun j hj => by
      have hA := dA_le (j := j + 1) (n := C.length) (by omega) (by omega)
      have h := en_may hm (dA (j + 1)) (dB (j + 1)) hA.1 hA.2
      omega)
    (fun q hq => by
      have h := en_side hm (q / 4) (q % 4) (by omega) (by omega)
      have h2 := mk_le (p := (C.getD (q / 4) Cr.none).comes (q % 4)) h.2.2.1 h.2.2.2
      omega)
    (fun j hj => by
      have hA := dA_le (j := j + 1) (n := C.length) (by omega) (by omega)
      obtain ⟨-, h2, h3, h4, h5⟩ := en_may hm (dA (j + 1)) (dB (j + 1)) hA.1 hA.2
      have q1 : (4 * enC C (dA (j + 1)) (dB (j + 1)) + enS C (dA (j + 1)) (dB (j + 1))) / 4 = enC C (dA (j + 1)) (dB (j + 1)) := by omega
      have q2 : (4 * enC C (dA (j + 1)) (dB (j + 1)) + enS C (dA (j + 1)) (dB (j + 1))) % 4 = enS C (dA (j + 1)) (dB (j + 1)) := by omega
      simp only [q1, q2]
      have e : aAt C (enC C (dA (j + 1)) (dB (j + 1))) (enS C (dA (j + 1)) (dB (j + 1))) = dA (j + 1) := by unfold aAt; rw [h4]; omega
      rw [e, h5, mk_d (by omega)]
      omega)
    (fun q hq => by
      have h := en_side hm (q / 4) (q % 4) (by omega) (by omega)
      have h2 := mk_le (p := (C.getD (q / 4) Cr.none).comes (q % 4)) h.2.2.1 h.2.2.2
      have e : mkD (aAt C (q / 4) (q % 4)) ((C.getD (q / 4) Cr.none).comes (q % 4)) - 1 + 1 = mkD (aAt C (q / 4) (q % 4)) ((C.getD (q / 4) Cr.none).comes (q % 4)) := by omega
      simp only [e]
      rw [dA_mk h.2.2.1, dB_mk h.2.2.1, h.1, h.2.1]
      omega)]
  rw [xs_four]
  refine xs_congr fun k hk => ?_
  have side : ∀ s, s < 4 → (S (enC C (dA (mkD (aAt C ((4 * k + s) / 4) ((4 * k + s) % 4)) ((C.getD ((4 * k + s) / 4) Cr.none).comes ((4 * k + s) % 4)) - 1 + 1)) (dB (mkD (aAt C ((4 * k + s) / 4) ((4 * k + s) % 4)) ((C.getD ((4 * k + s) / 4) Cr.none).comes ((4 * k + s) % 4)) - 1 + 1))) && d (dA (mkD (aAt C ((4 * k + s) / 4) ((4 * k + s) % 4)) ((C.getD ((4 * k + s) / 4) Cr.none).comes ((4 * k + s) % 4)) - 1 + 1))) = (S k && d (aAt C k s)) := fun s hs => by
    rw [show (4 * k + s) / 4 = k by omega, show (4 * k + s) % 4 = s by omega]
    have h := en_side hm k s hk hs
    have h2 := mk_le (p := (C.getD k Cr.none).comes s) h.2.2.1 h.2.2.2
    rw [show mkD (aAt C k s) ((C.getD k Cr.none).comes s) - 1 + 1 = mkD (aAt C k s) ((C.getD k Cr.none).comes s) by omega, dA_mk h.2.2.1, dB_mk h.2.2.1, h.1]
  have s0 := side 0 (by omega)
  simp only [Nat.add_zero] at s0
  rw [s0, side 1 (by omega), side 2 (by omega), side 3 (by omega)]
  cases S k <;> cases d (aAt C k 0) <;> cases d (aAt C k 1) <;> cases d (aAt C k 2) <;> cases d (aAt C k 3) <;> rfl
/-- The corners of a crossing: what lies left of the dart that leaves at a side. -/
def cor (C : List Cr) (k s : Nat) : Nat := fo C (mkD (aAt C k s) ((C.getD k Cr.none).comes s))
/-- To the left of the dart that comes to a side lies the corner behind it. -/
theorem cor_back {C : List Cr} {loops : Int} (hm : mayD C loops = true) (k s : Nat) (hk : k < C.length) (hs : s < 4) : fo C (mkD (aAt C k s) (!(C.getD k Cr.none).comes s)) = cor C k ((s + 3) % 4) := by
  have h := en_side hm k s hk hs
  have h2 := mk_le (p := !(C.getD k Cr.none).comes s) h.2.2.1 h.2.2.2
  rw [← fo_fd hm _ h2.1 h2.2]
  unfold cor fd dC dS
  rw [dA_mk h.2.2.1, dB_mk h.2.2.1, Bool.not_not, h.1, h.2.1]
  rfl
/-- What lies on the two sides of an arc. -/
def dfE (C : List Cr) (i : Nat) : Nat × Nat := (fo C (mkD (i + 1) true), fo C (mkD (i + 1) false))
def arE (C : List Cr) (i : Nat) : Nat × Nat := (enC C (i + 1) true, enC C (i + 1) false)
def sides (C : List Cr) (g : Nat → Bool) (a : Nat) : Bool := xor (g (fo C (mkD a true))) (g (fo C (mkD a false)))
theorem sides_at {C : List Cr} {loops : Int} (hm : mayD C loops = true) (g : Nat → Bool) (k s : Nat) (hk : k < C.length) (hs : s < 4) : sides C g (aAt C k s) = xor (g (cor C k s)) (g (cor C k ((s + 3) % 4))) := by
  have h := cor_back hm k s hk hs
  unfold sides
  unfold cor at h ⊢
  rw [← h]
  cases (C.getD k Cr.none).comes s <;> simp [Bool.xor_comm]
theorem sides_even {C : List Cr} {loops : Int} (hm : mayD C loops = true) (g : Nat → Bool) (k : Nat) (hk : k < C.length) : xor (xor (sides C g (aAt C k 0)) (sides C g (aAt C k 1))) (xor (sides C g (aAt C k 2)) (sides C g (aAt C k 3))) = false := by
  rw [sides_at hm g k 0 hk (by omega), sides_at hm g k 1 hk (by omega), sides_at hm g k 2 hk (by omega), sides_at hm g k 3 hk (by omega)]
  show xor (xor (xor (g (cor C k 0)) (g (cor C k 3))) (xor (g (cor C k 1)) (g (cor C k 0)))) (xor (xor (g (cor C k 2)) (g (cor C k 1))) (xor (g (cor C k 3)) (g (cor C k 2)))) = false
  cases g (cor C k 0) <;> cases g (cor C k 1) <;> cases g (cor C k 2) <;> cases g (cor C k 3) <;> rfl
theorem cross_even {C : List Cr} {loops : Int} (hm : mayD C loops = true) (S g : Nat → Bool) : xs (fun i => xor (S (arE C i).1) (S (arE C i).2) && xor (g (dfE C i).1) (g (dfE C i).2)) (2 * C.length) = false := by
  have h := xs_sides hm S (sides C g)
  refine Eq.trans ?_ (h.trans (xs_none fun k hk => ?_))
  · rfl
  · rw [sides_even hm g k hk, Bool.and_false]
theorem rt_one {W : List Nat} {n v : Nat} (h : ∀ u, u < n → W.getD u 0 = v) : ∀ k, k ≤ n → rt W k ≤ 1 ∧ (k ≤ v → rt W k = 0) := by
  intro k
  induction k with
  | zero => intro _; exact ⟨Nat.zero_le _, fun _ => rfl⟩
  | succ k ih =>
    intro hk
    obtain ⟨i1, i2⟩ := ih (by omega)
    simp only [rt]
    have e := h k (by omega)
    by_cases hr : W.getD k 0 = k
    · rw [if_pos hr]
      have := i2 (by omega)
      exact ⟨by omega, fun _ => by omega⟩
    · rw [if_neg hr]
      exact ⟨by omega, fun _ => by have := i2 (by omega); omega⟩
theorem incl_all {E : Nat → Nat × Nat} {m : Nat} : incl E (fun _ => true) m = (List.range m).map E := by
  induction m with
  | zero => rfl
  | succ m ih => simp only [incl, if_true]; rw [ih, List.range_succ, List.map_append]; rfl
/-- All faces of a diagram of one piece are joined across arcs. -/
theorem faces_joined {C : List Cr} {loops : Int} (hm : mayD C loops = true) (h1 : ∀ k, k < C.length → Con (arcE C) 0 k) (k s : Nat) (hk : k < C.length) (hs : s < 4) : Con (incl (dfE C) (fun _ => true) (2 * C.length)) (cor C 0 0) (cor C k s) := by
  intro T hT h0
  -- across an arc
  have hedge : ∀ a, 1 ≤ a → a ≤ 2 * C.length → ∀ p q, T (fo C (mkD a p)) → T (fo C (mkD a q)) := fun a ha1 ha2 p q => by
    have he := hT _ (incl_mem.2 ⟨a - 1, by omega, rfl, rfl⟩ : dfE C (a - 1) ∈ _)
    unfold dfE at he
    rw [show a - 1 + 1 = a by omega] at he
    cases p <;> cases q <;> simp only at he ⊢
    · exact id
    · exact he.2
    · exact he.1
    · exact id
  have hturn : ∀ k s, k < C.length → s < 4 → (T (cor C k s) ↔ T (cor C k ((s + 3) % 4))) := fun k s hk hs => by
    have h := en_side hm k s hk hs
    rw [← cor_back hm k s hk hs]
    unfold cor
    exact ⟨hedge _ h.2.2.1 h.2.2.2 _ _, hedge _ h.2.2.1 h.2.2.2 _ _⟩
  have hall : ∀ k, k < C.length → (∀ s, s < 4 → (T (cor C k s) ↔ T (cor C k 0))) := fun k hk s hs => by
    have t1 := hturn k 1 hk (by omega)
    have t2 := hturn k 2 hk (by omega)
    have t3 := hturn k 3 hk (by omega)
    simp only [Nat.reduceAdd, Nat.reduceMod] at t1 t2 t3
    have : s = 0 ∨ s = 1 ∨ s = 2 ∨ s = 3 := by omega
    rcases this with rfl | rfl | rfl | rfl
    · exact Iff.rfl
    · exact t1
    · exact t2.trans t1
    · exact t3.trans (t2.trans t1)
  have key : (fun c => c < C.length → T (cor C c 0)) k := h1 k hk (fun c => c < C.length → T (cor C c 0)) (fun e he => by
    obtain ⟨i, hi, rfl⟩ := List.mem_map.1 he
    have hi2 := List.mem_range.1 hi
    have u := en_may hm (i + 1) true (by omega) (by omega)
    have v := en_may hm (i + 1) false (by omega) (by omega)
    have eu : fo C (mkD (i + 1) true) = cor C (enC C (i + 1) true) (enS C (i + 1) true) := by
      unfold cor aAt
      rw [u.2.2.2.1, u.2.2.2.2]
      rfl
    have ev : fo C (mkD (i + 1) false) = cor C (enC C (i + 1) false) (enS C (i + 1) false) := by
      unfold cor aAt
      rw [v.2.2.2.1, v.2.2.2.2]
      rfl
    have iu := hall _ u.2.1 _ u.2.2.1
    have iv := hall _ v.2.1 _ v.2.2.1
    rw [← eu] at iu
    rw [← ev] at iv
    have hx := hedge (i + 1) (by omega) (by omega)
    constructor
    · intro q _
      exact iv.1 (hx true false (iu.2 (q u.2.1)))
    · intro q _
      exact iu.1 (hx false true (iv.2 (q v.2.1)))) (fun _ => h0)
  exact (hall k hk s hs).2 (key hk)
end Go.Proofs.Ytlcogbcpmneknaa
/- Plain mathematics: a planar diagram of one piece: an even set of arcs parts two sets of faces. -/
namespace Go.Proofs.Ytlcogbcpmneknaa

theorem countP_all {α : Type} {p : α → Bool} {l : List α} (h : ∀ x, x ∈ l → p x = true) : l.countP p = l.length := List.countP_eq_length.2 h
/-- Euler's number of a planar diagram of one piece. -/
theorem euler_one {C : List Cr} {loops : Int} (hm : mayD C loops = true) (hp : planarB C = true) (h0 : 0 < C.length) (h1 : ∀ k, k < C.length → Con (arcE C) 0 k) : (facesM C).length = C.length + 2 := by
  have hW := whoM_least hm
  have w0 : (whoM C).getD 0 0 = 0 := by have := hW.le h0; omega
  have hall : ∀ v, v < C.length → (whoM C).getD v 0 = 0 := fun v hv => by rw [← (hW.same h0 hv).2 (h1 v hv)]; exact w0
  have h := (planarB_iff C).1 hp 0 h0 w0
  unfold exN at h
  rw [countP_all (l := headsM C) (fun g hg => decide_eq_true (hall g (headsM_lt hm g hg))), countP_all (l := List.range C.length) (fun v hv => decide_eq_true (hall v (List.mem_range.1 hv))), headsM_len, List.length_range] at h
  omega
theorem fo_cor {C : List Cr} {loops : Int} (hm : mayD C loops = true) (j : Nat) (h1 : 1 ≤ j) (h2 : j ≤ 4 * C.length) : ∃ k s, k < C.length ∧ s < 4 ∧ fo C j = cor C k s := by
  have hA := dA_le h1 h2
  have u := en_may hm (dA j) (dB j) hA.1 hA.2
  refine ⟨_, _, u.2.1, u.2.2.1, ?_⟩
  unfold cor aAt
  rw [u.2.2.2.1, u.2.2.2.2]
  show fo C j = fo C (mkD ((dA j : Int)).toNat (dB j))
  rw [Int.toNat_natCast, mk_d h1]
theorem face_cor {C : List Cr} {loops : Int} (hm : mayD C loops = true) (f : Nat) (hf : f < (facesM C).length) : ∃ k s, k < C.length ∧ s < 4 ∧ f = cor C k s := by
  obtain ⟨-, hh⟩ := facesM_facts hm
  obtain ⟨g1, -, g3⟩ := hh f hf
  have hb := g3 0 g1
  obtain ⟨k, s, hk, hs, e⟩ := fo_cor hm _ hb.1 hb.2
  refine ⟨k, s, hk, hs, ?_⟩
  rw [← e]
  have hmem : ((facesM C).getD f []).getD 0 0 ∈ (facesM C).getD f [] := at_mem g1
  exact ((pt_mem (walks_once (fd C) (4 * C.length) _ hb.1 hb.2) hf).1 hmem).symm
/-- In a planar diagram of one piece arcs that come to each crossing an even number of times part two sets of faces. -/
theorem planar_even {C : List Cr} {loops : Int} (hm : mayD C loops = true) (hp : planarB C = true) (h0 : 0 < C.length) (h1 : ∀ k, k < C.length → Con (arcE C) 0 k) (A : Nat → Bool)
    (hA : ∀ k, k < C.length → xor (xor (A (aAt C k 0)) (A (aAt C k 1))) (xor (A (aAt C k 2)) (A (aAt C k 3))) = false) : ∃ g : Nat → Bool, ∀ a, 1 ≤ a → a ≤ 2 * C.length → A a = sides C g a := by
  have hE : ∀ i, i < 2 * C.length → (arE C i).1 < C.length ∧ (arE C i).2 < C.length := fun i hi => ⟨(en_may hm (i + 1) true (by omega) (by omega)).2.1, (en_may hm (i + 1) false (by omega) (by omega)).2.1⟩
  have hD : ∀ i, i < 2 * C.length → (dfE C i).1 < (facesM C).length ∧ (dfE C i).2 < (facesM C).length := fun i hi => by
    have u := mk_le (a := i + 1) (p := true) (n := C.length) (by omega) (by omega)
    have v := mk_le (a := i + 1) (p := false) (n := C.length) (by omega) (by omega)
    exact ⟨fo_lt _ u.1 u.2, fo_lt _ v.1 v.2⟩
  have hF := euler_one hm hp h0 h1
  have r1 : rt (cls (arE C) (fun _ => true) C.length (2 * C.length)) C.length ≤ 1 := by
    have hL := cls_least (E := arE C) (K := fun _ => true) (n := C.length) (m := 2 * C.length) hE
    have e : incl (arE C) (fun _ => true) (2 * C.length) = arcE C := incl_all
    rw [e] at hL
    exact (rt_one (fun u hu => (hL.same hu h0).2 (h1 u hu).symm) _ (Nat.le_refl _)).1
  have r2 : rt (cls (dfE C) (fun _ => true) (facesM C).length (2 * C.length)) (facesM C).length ≤ 1 := by
    have hL := cls_least (E := dfE C) (K := fun _ => true) (n := (facesM C).length) (m := 2 * C.length) hD
    have hc0 : cor C 0 0 < (facesM C).length := by
      have h := en_side hm 0 0 h0 (by omega)
      have u := mk_le (p := (C.getD 0 Cr.none).comes 0) h.2.2.1 h.2.2.2
      exact fo_lt _ u.1 u.2
    refine (rt_one (fun u hu => (hL.same hu hc0).2 ?_) _ (Nat.le_refl _)).1
    obtain ⟨k, s, hk, hs, rfl⟩ := face_cor hm u hu
    exact (faces_joined hm h1 k s hk hs).symm
  obtain ⟨g, hg⟩ := sphere_even hE hD (fun S g => cross_even hm S g) (by omega) (fun i => A (i + 1)) (fun S => by
    refine Eq.trans (xs_congr fun i _ => Bool.and_comm _ _) ((xs_sides hm S A).trans (xs_none fun k hk => ?_))
    rw [hA k hk, Bool.and_false])
  refine ⟨g, fun a ha1 ha2 => ?_⟩
  have := hg (a - 1) (by omega)
  rw [show a - 1 + 1 = a by omega] at this
  rw [this]
  unfold sides dfE
  rw [show a - 1 + 1 = a by omega]
/-- The faces of a planar diagram of one piece have two shades, and they change across each arc. -/
theorem two_shades {C : List Cr} {loops : Int} (hm : mayD C loops = true) (hp : planarB C = true) (h0 : 0 < C.length) (h1 : ∀ k, k < C.length → Con (arcE C) 0 k) : ∃ g : Nat → Bool, ∀ a, 1 ≤ a → a ≤ 2 * C.length → sides C g a = true := by
  obtain ⟨g, hg⟩ := planar_even hm hp h0 h1 (fun _ => true) (fun _ _ => rfl)
  exact ⟨g, fun a ha1 ha2 => (hg a ha1 ha2).symm⟩
end Go.Proofs.Ytlcogbcpmneknaa
/- Two rows of rings are held against one another. -/
namespace Go.Proofs.Ytlcogbcpmneknaa
open Go.RowKit

theorem eqDart (a c : Int) (b d : Bool) (w : World) : (Op.equalIn 10000 67 (.agg #[.int .i64 a, .bool b]) (.agg #[.int .i64 c, .bool d])).run Try.prog w = .ok (a == c && b == d) w := by
  have u3 := Try.underlying3
  have a3 := Try.isAgg3
  have z3 := Try.sizeOf3
  have u4 := Try.underlying4
  have a4 := Try.isAgg4
  have z4 := Try.sizeOf4
  have hS : Try.prog.underlying 67 = some (.struct (Try.prog.fieldsOf 67)) := by kernel_rfl
  have hp : Try.prog.stoodInHeld 67 = false := by kernel_rfl
  rw [show (10000 : Nat) = 9999 + 1 from rfl, run_equalIn_agg w 9999 67 _ _ hS hp]
  simp only [Program.fieldsOf, Try.underlying67]
  go_simp
  by_cases h1 : a = c <;> by_cases h2 : b = d <;> simp [h1, h2]
end Go.Proofs.Ytlcogbcpmneknaa
