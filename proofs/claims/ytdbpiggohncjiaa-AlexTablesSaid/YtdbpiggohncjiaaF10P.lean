/- Several texts of the proof, one behind the other. -/
import Derived.Test.YtdbpiggohncjiaaF4
import Derived.Test.YtdbpiggohncjiaaO0
import Derived.Test.YtdbpiggohncjiaaF8
import Derived.Test.YtdbpiggohncjiaaF6
import Derived.Deep.RegionWith
import Derived.Test.YtdbpiggohncjiaaW5
/- The walks of ref.level and ref.OversOf. -/
namespace Go.Proofs.Ytdbpiggohncjiaa
open Go.RowKit

set_option maxHeartbeats 4000000 in
set_option maxRecDepth 100000 in
theorem level_any (B g n c x y : Nat) (L : List Nat) (w : World) (hx : x < n) (hy : y < n) (hL : w.ownsRow B 3 1 (.slice (some ⟨g, 0, none⟩) n c) n (nats L)) :
    Calls Try.prog 171 #[.slice (some ⟨g, 0, none⟩) n c, .int .i64 x, .int .i64 y] w fun e w' => e = .returned (.tuple #[]) ∧ w'.ownsRow B 3 1 (.slice (some ⟨g, 0, none⟩) n c) n (nats (lev L x y)) ∧ w.grownBy w' (some g) := by
  have HR : Hid (w.ownsRow B 3 1 (.slice (some ⟨g, 0, none⟩) n c) n (nats L)) := hL
  have hll : L.length = n := by have h := hL.1; rw [nats_len] at h; omega
  have e0 : w.cell? ⟨g, x, none⟩ = some (.int .i64 (L.getD x 0 : Nat)) := by
    rw [hL.cellAt x (by omega)]; exact nats_get _ x (by omega)
  have e1 : w.cell? ⟨g, y, none⟩ = some (.int .i64 (L.getD y 0 : Nat)) := by
    rw [hL.cellAt y (by omega)]; exact nats_get _ y (by omega)
  have hgl := (hL.lt g rfl).2
  clear hL hll
  go_enter Try.func171, Try.ntmps171
  by_cases hlt : L.getD x 0 < L.getD y 0
  · have hdx : decide (((L.getD x 0 : Nat) : Int) < ((L.getD y 0 : Nat) : Int)) = true := by simp only [decide_eq_true_eq]; omega
    have hdx2 : decide (L.getD x 0 < L.getD y 0) = true := by simp only [decide_eq_true_eq]; omega
    have hst := HR.out.stored y (.int .i64 (L.getD x 0 : Nat))
    rw [nats_set] at hst
    have HLV : Hid (lev L x y = L.set y (L.getD x 0)) := (by unfold lev; rw [if_pos hlt] : lev L x y = L.set y (L.getD x 0))
    have HST : Hid ((w.setCell ⟨g, y, none⟩ (.int .i64 (L.getD x 0 : Nat))).drew.ownsRow B 3 1 (.slice (some ⟨g, 0, none⟩) n c) n (nats (lev L x y)) ∧ w.grownBy (w.setCell ⟨g, y, none⟩ (.int .i64 (L.getD x 0 : Nat))).drew (some g)) := (by rw [HLV.out]; exact ⟨own_any hst.1 (grown_below ((Below.refl _ _).drew) none), ⟨hst.2.os, hst.2.tape, hst.2.output, hst.2.size, hst.2.block⟩⟩ : (w.setCell ⟨g, y, none⟩ (.int .i64 (L.getD x 0 : Nat))).drew.ownsRow B 3 1 (.slice (some ⟨g, 0, none⟩) n c) n (nats (lev L x y)) ∧ w.grownBy (w.setCell ⟨g, y, none⟩ (.int .i64 (L.getD x 0 : Nat))).drew (some g))
    have z0 : w.frozen? ⟨g, y, none⟩ = false := HR.out.frozenAt y
    clear hst
    go_wp2
    go_region_held3 (fun w' => w'.cell? ⟨g, x, none⟩ = some (.int .i64 (L.getD x 0 : Nat)) ∧ w'.cell? ⟨g, y, none⟩ = some (.int .i64 (L.getD y 0 : Nat))) (exact ⟨e0, e1⟩) (fail)
    go_wp2
    exact bodyPost_end (v := .tuple #[]) (by simp [results, Try.results171]) rfl ⟨rfl, HST.out⟩
  · have hdx : decide (((L.getD x 0 : Nat) : Int) < ((L.getD y 0 : Nat) : Int)) = false := by simp only [decide_eq_false_iff_not]; omega
    have hdx2 : decide (L.getD x 0 < L.getD y 0) = false := by simp only [decide_eq_false_iff_not]; omega
    have hst := HR.out.stored x (.int .i64 (L.getD y 0 : Nat))
    rw [nats_set] at hst
    have HLV : Hid (lev L x y = L.set x (L.getD y 0)) := (by unfold lev; rw [if_neg hlt] : lev L x y = L.set x (L.getD y 0))
    have HST : Hid ((w.setCell ⟨g, x, none⟩ (.int .i64 (L.getD y 0 : Nat))).drew.ownsRow B 3 1 (.slice (some ⟨g, 0, none⟩) n c) n (nats (lev L x y)) ∧ w.grownBy (w.setCell ⟨g, x, none⟩ (.int .i64 (L.getD y 0 : Nat))).drew (some g)) := (by rw [HLV.out]; exact ⟨own_any hst.1 (grown_below ((Below.refl _ _).drew) none), ⟨hst.2.os, hst.2.tape, hst.2.output, hst.2.size, hst.2.block⟩⟩ : (w.setCell ⟨g, x, none⟩ (.int .i64 (L.getD y 0 : Nat))).drew.ownsRow B 3 1 (.slice (some ⟨g, 0, none⟩) n c) n (nats (lev L x y)) ∧ w.grownBy (w.setCell ⟨g, x, none⟩ (.int .i64 (L.getD y 0 : Nat))).drew (some g))
    have z0 : w.frozen? ⟨g, x, none⟩ = false := HR.out.frozenAt x
    clear hst
    go_wp2
    go_region_held3 (fun w' => w'.cell? ⟨g, x, none⟩ = some (.int .i64 (L.getD x 0 : Nat)) ∧ w'.cell? ⟨g, y, none⟩ = some (.int .i64 (L.getD y 0 : Nat))) (exact ⟨e0, e1⟩) (fail)
    go_wp2
    exact bodyPost_end (v := .tuple #[]) (by simp [results, Try.results171]) rfl ⟨rfl, HST.out⟩
/-- The numbers of those that are the lowest of theirs, below k. -/
def numTo (L : List Nat) (n k : Nat) : List Nat := (List.range n).map fun v => if v < k ∧ 1 ≤ v ∧ L.getD v 0 = v then rootsN L v else 0
theorem numTo_len (L : List Nat) (n k : Nat) : (numTo L n k).length = n := by simp [numTo]
theorem numTo_at (L : List Nat) (n k v : Nat) (hv : v < n) : (numTo L n k).getD v 0 = if v < k ∧ 1 ≤ v ∧ L.getD v 0 = v then rootsN L v else 0 := by simp [numTo, List.getD_eq_getElem?_getD, hv]
theorem numTo_zero (L : List Nat) (n : Nat) : List.replicate n 0 = numTo L n 1 := by
  refine List.ext_getElem (by simp [numTo]) fun j h1 h2 => ?_
  simp only [numTo, List.getElem_map, List.getElem_range, List.getElem_replicate]
  rw [if_neg (by omega)]
theorem numTo_yes (L : List Nat) (n k : Nat) (hk : 1 ≤ k) (h : L.getD k 0 = k) : (numTo L n k).set k (rootsN L k) = numTo L n (k + 1) := by
  refine List.ext_getElem (by simp [numTo]) fun j h1 h2 => ?_
  simp only [List.getElem_set, numTo, List.getElem_map, List.getElem_range]
  by_cases hj : k = j
  · subst hj; rw [if_pos rfl, if_pos ⟨by omega, hk, h⟩]
  · rw [if_neg hj]
    by_cases h3 : j < k ∧ 1 ≤ j ∧ L.getD j 0 = j
    · rw [if_pos h3, if_pos ⟨by omega, h3.2⟩]
    · rw [if_neg h3, if_neg (fun q => h3 ⟨by omega, q.2⟩)]
theorem numTo_no (L : List Nat) (n k : Nat) (h : L.getD k 0 ≠ k) : numTo L n k = numTo L n (k + 1) := by
  refine List.map_congr_left fun j _ => ?_
  by_cases h3 : j < k ∧ 1 ≤ j ∧ L.getD j 0 = j
  · rw [if_pos h3, if_pos ⟨by omega, h3.2⟩]
  · rw [if_neg h3, if_neg (fun q => h3 ⟨by have := q.1; have : j ≠ k := fun e => h (by rw [← e]; exact q.2.2); omega, q.2⟩)]
/-- The overpasses of the first arcs. -/
def ovL (C : List Cr) (k : Nat) : List Nat := (List.range k).map fun i => ovM C (i + 1)
theorem ovL_len (C : List Cr) (k : Nat) : (ovL C k).length = k := by simp [ovL]
theorem ovL_next (C : List Cr) (k : Nat) : ovL C k ++ [ovM C (k + 1)] = ovL C (k + 1) := by simp [ovL, List.range_succ]
theorem ovE_next (C : List Cr) (i : Nat) (hi : i < C.length) : (ovE C).take (i + 1) = (ovE C).take i ++ [((C.getD i Cr.none).b.toNat, (C.getD i Cr.none).d.toNat)] := by
  rw [List.take_add_one]
  congr 1
  simp [ovE, hi, List.getD_eq_getElem?_getD]
theorem ovE_all (C : List Cr) : (ovE C).take C.length = ovE C := List.take_of_length_le (by simp [ovE])
theorem levs_ov (V : List Nat) (C : List Cr) (i : Nat) (hi : i < C.length) : levs V ((ovE C).take (i + 1)) = lev (levs V ((ovE C).take i)) (C.getD i Cr.none).b.toNat (C.getD i Cr.none).d.toNat := by
  rw [ovE_next C i hi, levs_app]
  rfl

set_option maxHeartbeats 16000000 in
set_option maxRecDepth 100000 in
theorem oversOf_any (a : Option Addr) (cap : Nat) (C : List Cr) (loops : Int) (w : World) (hm : mayD C loops = true) (hD : Crs w w.heap.size (.slice a C.length cap) C) :
    Calls Try.prog 126 #[.agg #[.slice a C.length cap, .int .i64 loops]] w fun e w' => ∃ v, e = .returned v ∧ w'.ownsRow w.heap.size 3 1 v (2 * C.length) (nats (ovL C (2 * C.length))) ∧ Below w.heap.size w w' := by
  obtain ⟨s1, -, -, -⟩ := sizeB_iff (may_size hm)
  obtain ⟨i2, hk, hx0, hx1, hx2⟩ := info_parts infoInt
  have HM : Hid (mayD C loops = true) := hm
  have HD : Hid (Crs w w.heap.size (.slice a C.length cap) C) := hD
  clear hm hD
  obtain ⟨w0, hw0⟩ : ∃ w0, w0 = w.alloc (.cells #[.slice a C.length cap, .int .i64 loops] 35) := ⟨_, rfl⟩
  have HW0 : Hid (w0 = w.alloc (.cells #[.slice a C.length cap, .int .i64 loops] 35)) := hw0
  have hs0 : w0.heap.size = w.heap.size + 1 := by rw [hw0]; simp
  have HB0 : Hid (Below w.heap.size w w0) := (by rw [hw0]; exact (Below.refl _ _).alloc (Nat.le_refl _) _ : Below w.heap.size w w0)
  have HT0 : Hid (w0.heap[w.heap.size]? = some (.cells #[.slice a C.length cap, .int .i64 loops] 35 (0, 0))) := (by rw [hw0]; exact alloc_at rfl : w0.heap[w.heap.size]? = some (.cells #[.slice a C.length cap, .int .i64 loops] 35 (0, 0)))
  clear hw0
  have q1 : IntKind.i64.wrap (2 * (C.length : Int)) = 2 * (C.length : Int) := IntWalk.i64_in _ (by omega)
  have q2 : IntKind.i64.wrap (2 * (C.length : Int) + 1) = 2 * (C.length : Int) + 1 := IntWalk.i64_in _ (by omega)
  obtain ⟨N, hN⟩ : ∃ N, N = 2 * C.length + 1 := ⟨_, rfl⟩
  have HN : Hid (N = 2 * C.length + 1) := hN
  have hN1 : 1 ≤ N := by omega
  have hN2 : N ≤ 33 := by omega
  have qN : 2 * (C.length : Int) + 1 = (N : Int) := by omega
  clear hN
  go_enter Try.func126, Try.ntmps126
  go_wp2_with (first | (at_make; refine wpList_make_full _ rfl _ _ 52 rfl (w.heap.size + 1) 3 i2 (.int .i64 0) 1 Try.underlying52 hk hx0 hx1 .i64 .i64 _ _ N rfl rfl rfl rfl (by rw [hx2]; omega) (by unfold maxLen; omega) (by simp) ?_; intro w1 hrow hg1; refine Hid.out ?_))
  refine Lib.hid ?_
  rw [← HW0.out] at hrow hg1
  rw [made_zeroN, hs0, labTo_zero] at hrow
  have HP0 : Hid (w1.heap[w.heap.size]? = some (.cells #[.slice a C.length cap, .int .i64 loops] 35 (0, 0)) ∧ w1.ownsRow (w.heap.size + 1) 3 1 (.slice (some ⟨w.heap.size + 1, 0, none⟩) N N) N (nats (labTo N 0)) ∧ Below w.heap.size w w1) := ⟨(hg1.block _ (by omega) (by simp)).trans HT0.out, hrow, HB0.out.grown hg1 (by omega) (fun k hk => by cases hk)⟩
  clear hrow hg1 HT0 HB0 hs0 HW0
  go_wp2
  go_loopw [5] (fun v5 wr => ∃ i : Nat, i ≤ N ∧ v5 = .int .i64 (i : Nat) ∧ Hid (wr.heap[w.heap.size]? = some (.cells #[.slice a C.length cap, .int .i64 loops] 35 (0, 0)) ∧ wr.ownsRow (w.heap.size + 1) 3 1 (.slice (some ⟨w.heap.size + 1, 0, none⟩) N N) N (nats (labTo N i)) ∧ Below w.heap.size w wr)) (fun v5 _ => N - (intOf v5).toNat)
  case atStart => exact ⟨0, Nat.zero_le _, rfl, HP0.out⟩
  case round =>
    clear HP0
    rename World => W1
    obtain ⟨i, hin, rfl, hp⟩ := hrel
    have hlt := hp.out.2.1.lt (w.heap.size + 1) rfl
    by_cases hil : i < N
    · have hst := hp.out.2.1.stored i (.int .i64 (i : Nat))
      rw [nats_set, labTo_next] at hst
      have HST : Hid ((W1.setCell ⟨w.heap.size + 1, i, none⟩ (.int .i64 (i : Nat))).heap[w.heap.size]? = some (.cells #[.slice a C.length cap, .int .i64 loops] 35 (0, 0)) ∧ (W1.setCell ⟨w.heap.size + 1, i, none⟩ (.int .i64 (i : Nat))).ownsRow (w.heap.size + 1) 3 1 (.slice (some ⟨w.heap.size + 1, 0, none⟩) N N) N (nats (labTo N (i + 1))) ∧ Below w.heap.size w (W1.setCell ⟨w.heap.size + 1, i, none⟩ (.int .i64 (i : Nat)))) := ⟨(hst.2.block _ (by omega) (fun e => by have : w.heap.size = w.heap.size + 1 := Option.some.inj e; omega)).trans hp.out.1, hst.1, hp.out.2.2.grown hst.2 hp.out.2.2.size (fun q hq => by have := Option.some.inj hq; omega)⟩
      have e0 : W1.cell? ⟨w.heap.size + 1, i, none⟩ = some (.int .i64 ((labTo N i).getD i 0 : Nat)) := by
        rw [hp.out.2.1.cellAt i (by omega)]; exact nats_get _ i (by simp [labTo]; omega)
      have z0 : W1.frozen? ⟨w.heap.size + 1, i, none⟩ = false := hp.out.2.1.frozenAt i
      have hdi : (i : Int) ≤ 2 * (C.length : Int) := by omega
      clear hst
      go_wp2
      go_roundw
      case rel => exact ⟨i + 1, by omega, by go_num, HST.out⟩
      case measure => simp only [intOf]; omega
    · obtain rfl : N = i := by omega
      have HP1 : Hid (W1.heap[w.heap.size]? = some (.cells #[.slice a C.length cap, .int .i64 loops] 35 (0, 0)) ∧ W1.ownsRow (w.heap.size + 1) 3 1 (.slice (some ⟨w.heap.size + 1, 0, none⟩) N N) N (nats (levR (List.range N) (ovE C) 0)) ∧ Below w.heap.size w W1) := (by have h := hp.out; rw [labTo_all] at h; exact h : W1.heap[w.heap.size]? = some (.cells #[.slice a C.length cap, .int .i64 loops] 35 (0, 0)) ∧ W1.ownsRow (w.heap.size + 1) 3 1 (.slice (some ⟨w.heap.size + 1, 0, none⟩) N N) N (nats (levR (List.range N) (ovE C) 0)) ∧ Below w.heap.size w W1)
      have HLN : Hid (∀ r, (levR (List.range N) (ovE C) r).length = N) := fun r => (levR_lab (fun e he => by rw [HN.out]; exact ovE_lt HM.out e he) ⟨by simp, fun v hv => by simp [List.getD_eq_getElem?_getD, hv], fun v hv => by simp [List.getD_eq_getElem?_getD, hv, Con.refl]⟩ r).len
      clear hp
      go_wp2
      go_loopw [6] (fun v6 wr => ∃ r : Nat, r ≤ N ∧ v6 = .int .i64 (r : Nat) ∧ Hid (wr.heap[w.heap.size]? = some (.cells #[.slice a C.length cap, .int .i64 loops] 35 (0, 0)) ∧ wr.ownsRow (w.heap.size + 1) 3 1 (.slice (some ⟨w.heap.size + 1, 0, none⟩) N N) N (nats (levR (List.range N) (ovE C) r)) ∧ Below w.heap.size w wr)) (fun v6 _ => N - (intOf v6).toNat)
      case atStart => exact ⟨0, Nat.zero_le _, rfl, HP1.out⟩
      case round =>
        clear HP1
        rename World => W2
        obtain ⟨r, hrn, rfl, hp⟩ := hrel
        by_cases hrl : r < N
        · have hdr : decide ((r : Int) ≤ 2 * (C.length : Int)) = true := by simp; omega
          have hdr2 : decide (r ≤ 2 * C.length) = true := by simp; omega
          obtain ⟨V, hV⟩ : ∃ V, levR (List.range N) (ovE C) r = V := ⟨_, rfl⟩
          have HV : Hid (levR (List.range N) (ovE C) r = V) := hV
          have HVL : Hid (V.length = N) := (by rw [← hV]; exact HLN.out r : V.length = N)
          have HP2 : Hid (W2.heap[w.heap.size]? = some (.cells #[.slice a C.length cap, .int .i64 loops] 35 (0, 0)) ∧ W2.ownsRow (w.heap.size + 1) 3 1 (.slice (some ⟨w.heap.size + 1, 0, none⟩) N N) N (nats (levs V ((ovE C).take 0))) ∧ Below w.heap.size w W2) := (by have h := hp.out; rw [hV] at h; exact h : W2.heap[w.heap.size]? = some (.cells #[.slice a C.length cap, .int .i64 loops] 35 (0, 0)) ∧ W2.ownsRow (w.heap.size + 1) 3 1 (.slice (some ⟨w.heap.size + 1, 0, none⟩) N N) N (nats (levs V ((ovE C).take 0))) ∧ Below w.heap.size w W2)
          clear hp hV
          go_wp2
          go_loopw [7] (fun v7 wr => ∃ i : Nat, i ≤ C.length ∧ v7 = .int .i64 (i : Nat) ∧ Hid (wr.heap[w.heap.size]? = some (.cells #[.slice a C.length cap, .int .i64 loops] 35 (0, 0)) ∧ wr.ownsRow (w.heap.size + 1) 3 1 (.slice (some ⟨w.heap.size + 1, 0, none⟩) N N) N (nats (levs V ((ovE C).take i))) ∧ Below w.heap.size w wr)) (fun v7 _ => C.length - (intOf v7).toNat)
          case atStart => exact ⟨0, Nat.zero_le _, rfl, HP2.out⟩
          case round =>
            clear HP2
            rename World => W3
            obtain ⟨i, hin, rfl, hp⟩ := hrel
            have t0 : W3.cell? ⟨w.heap.size, 0, none⟩ = some (.slice a C.length cap) := block_cell hp.out.1 rfl
            have hs3 := hp.out.2.2.size
            have hgl := (hp.out.2.1.lt (w.heap.size + 1) rfl).2
            by_cases hil : i < C.length
            · obtain ⟨b, off, ea, hbw, hC⟩ := crs_some HD.out (by omega)
              rw [ea] at t0
              have HCC : Hid (CrossAt W3 b off C) := hC.on hp.out.2.2 hbw
              have ff := may_fit HM.out i 1 hil (by omega)
              have fg := may_fit HM.out i 3 hil (by omega)
              obtain ⟨ca, cb, cc, cd, cp⟩ := HCC.out i hil
              have HX : Hid ((C.getD i Cr.none).arc 1 = (C.getD i Cr.none).b ∧ (C.getD i Cr.none).arc 3 = (C.getD i Cr.none).d) := ⟨rfl, rfl⟩
              have f1 := ff.1
              have f2 := ff.2.1
              have f3 := fg.1
              have f4 := fg.2.1
              rw [HX.out.1] at f1 f2
              rw [HX.out.2] at f3 f4
              obtain ⟨x, hx⟩ : ∃ x : Nat, (C.getD i Cr.none).b = (x : Int) := ⟨(C.getD i Cr.none).b.toNat, by omega⟩
              obtain ⟨y, hy⟩ : ∃ y : Nat, (C.getD i Cr.none).d = (y : Int) := ⟨(C.getD i Cr.none).d.toNat, by omega⟩
              have hxN : x < N := by have := HN.out; omega
              have hyN : y < N := by have := HN.out; omega
              have HLV : Hid (levs V ((ovE C).take (i + 1)) = lev (levs V ((ovE C).take i)) x y) := (by rw [levs_ov V C i hil, hx, hy]; rfl : levs V ((ovE C).take (i + 1)) = lev (levs V ((ovE C).take i)) x y)
              rw [hx] at cb
              rw [hy] at cd
              clear hC ff fg f1 f2 f3 f4 hx hy ca cc cp ea
              go_wp2
              have HU : Hid (W3.drew.ownsRow (w.heap.size + 1) 3 1 (.slice (some ⟨w.heap.size + 1, 0, none⟩) N N) N (nats (levs V ((ovE C).take i)))) := own_any hp.out.2.1 (grown_below ((Below.refl _ _).drew) none)
              go_region_held3 (fun w' => w'.cell? ⟨w.heap.size, 0, none⟩ = some (.slice (some ⟨b, off, none⟩) C.length cap) ∧ w'.cell? ⟨b, off + i * 5 + 1, none⟩ = some (.int .i64 (x : Nat)) ∧ w'.cell? ⟨b, off + i * 5 + 3, none⟩ = some (.int .i64 (y : Nat))) (first | exact HK4.out | exact ⟨t0, cb, cd⟩) (first
                | (go_at_call 171; refine (level_any _ _ _ _ x y _ _ hxN hyN HU.out).mono ?_; rintro e9 w4 ⟨rfl, hr4, hg4⟩
                   have HB4 : Hid (Below (w.heap.size + 1) W3.drew w4) := ⟨hg4.os, hg4.tape, hg4.output, hg4.size, fun q hq => hg4.block q (by show q < W3.heap.size; omega) (fun e => by have := Option.some.inj e; omega)⟩
                   have HK4 : Hid (w4.cell? ⟨w.heap.size, 0, none⟩ = some (.slice (some ⟨b, off, none⟩) C.length cap) ∧ w4.cell? ⟨b, off + i * 5 + 1, none⟩ = some (.int .i64 (x : Nat)) ∧ w4.cell? ⟨b, off + i * 5 + 3, none⟩ = some (.int .i64 (y : Nat))) := ⟨bcell HB4.out (by omega) t0, bcell HB4.out (by omega) cb, bcell HB4.out (by omega) cd⟩))
              have HST : Hid (w4.heap[w.heap.size]? = some (.cells #[.slice a C.length cap, .int .i64 loops] 35 (0, 0)) ∧ w4.ownsRow (w.heap.size + 1) 3 1 (.slice (some ⟨w.heap.size + 1, 0, none⟩) N N) N (nats (levs V ((ovE C).take (i + 1)))) ∧ Below w.heap.size w w4) := (by rw [HLV.out]; exact ⟨(hg4.block _ (by show _ < W3.heap.size; omega) (fun e => by have : w.heap.size = w.heap.size + 1 := Option.some.inj e; omega)).trans hp.out.1, hr4, (hp.out.2.2.drew).grown hg4 (by show _ ≤ W3.heap.size; omega) (fun q hq => by have := Option.some.inj hq; omega)⟩ : w4.heap[w.heap.size]? = some (.cells #[.slice a C.length cap, .int .i64 loops] 35 (0, 0)) ∧ w4.ownsRow (w.heap.size + 1) 3 1 (.slice (some ⟨w.heap.size + 1, 0, none⟩) N N) N (nats (levs V ((ovE C).take (i + 1)))) ∧ Below w.heap.size w w4)
              clear hr4 hg4
              go_wp2
              go_roundw
              case rel => exact ⟨i + 1, by omega, by go_num, HST.out⟩
              case measure => simp only [intOf]; omega
            · obtain rfl : i = C.length := by omega
              go_wp2
              go_roundw
              case rel => exact ⟨r + 1, by omega, by go_num, (by have h := hp.out; rw [ovE_all, ← HV.out] at h; exact h : W3.heap[w.heap.size]? = some (.cells #[.slice a C.length cap, .int .i64 loops] 35 (0, 0)) ∧ W3.ownsRow (w.heap.size + 1) 3 1 (.slice (some ⟨w.heap.size + 1, 0, none⟩) N N) N (nats (levR (List.range N) (ovE C) (r + 1))) ∧ Below w.heap.size w W3)⟩
              case measure => simp only [intOf]; omega
        · obtain rfl : N = r := by omega
          have HLE : Hid (levR (List.range N) (ovE C) N = lowM C) := (by rw [HN.out]; exact (levR_least (ovE_lt HM.out) _ (Nat.le_refl _)).eq (lowM_least (ovE_lt HM.out)) : levR (List.range N) (ovE C) N = lowM C)
          have HLS : Hid (Least (ovE C) N (lowM C)) := (by rw [HN.out]; exact lowM_least (ovE_lt HM.out) : Least (ovE C) N (lowM C))
          have HLP : Hid (∀ v, 1 ≤ v → v < N → 1 ≤ (lowM C).getD v 0) := fun v h1 h2 => HLS.out.pos (fun e he => ⟨(ovE_in HM.out e he).1.1, (ovE_in HM.out e he).2.1⟩) h2 h1
          have HP3 : Hid (W2.ownsRow (w.heap.size + 1) 3 1 (.slice (some ⟨w.heap.size + 1, 0, none⟩) N N) N (nats (lowM C)) ∧ Below w.heap.size w W2) := (by have h := hp.out; rw [HLE.out] at h; exact h.2 : W2.ownsRow (w.heap.size + 1) 3 1 (.slice (some ⟨w.heap.size + 1, 0, none⟩) N N) N (nats (lowM C)) ∧ Below w.heap.size w W2)
          have hs2 : w.heap.size + 2 ≤ W2.heap.size := by have := (hp.out.2.1.lt (w.heap.size + 1) rfl).2; omega
          have hdN : decide ((N : Int) ≤ 2 * (C.length : Int)) = false := by simp only [decide_eq_false_iff_not]; omega
          clear hp HLE HLN
          go_wp2_with (first | (at_make; refine wpList_make_full _ rfl _ _ 52 rfl (w.heap.size + 1) 3 i2 (.int .i64 0) 1 Try.underlying52 hk hx0 hx1 .i64 .i64 _ _ N rfl rfl rfl rfl (by rw [hx2]; omega) (by unfold maxLen; omega) (by omega) ?_; intro w3 hrow hg1; refine Hid.out ?_))
          refine Lib.hid ?_
          rw [made_zeroN, numTo_zero (lowM C)] at hrow
          have HP4 : Hid (w3.ownsRow (w.heap.size + 1) 3 1 (.slice (some ⟨w.heap.size + 1, 0, none⟩) N N) N (nats (lowM C)) ∧ w3.ownsRow (w.heap.size + 1) 3 1 (.slice (some ⟨W2.heap.size, 0, none⟩) N N) N (nats (numTo (lowM C) N (0 + 1))) ∧ w3.ownsRow (W2.heap.size + 1) 3 1 (.slice none 0 0) (0) (nats (ovL C (0))) ∧ Below w.heap.size w w3) := ⟨own_any HP3.out.1 hg1, hrow, World.ownsRow_nil _ _ _ _, HP3.out.2.grown hg1 HP3.out.2.size (fun q hq => by cases hq)⟩
          clear hrow hg1 HP3
          go_wp2
          go_loopw [8, 9, 11] (fun v8 v9 v11 wr => ∃ k j : Nat, k ≤ 2 * C.length ∧ Hid (j = k + 1) ∧ v11 = .int .i64 (j : Nat) ∧ v9 = .int .i64 (rootsN (lowM C) j : Nat) ∧ Hid (wr.ownsRow (w.heap.size + 1) 3 1 (.slice (some ⟨w.heap.size + 1, 0, none⟩) N N) N (nats (lowM C)) ∧ wr.ownsRow (w.heap.size + 1) 3 1 (.slice (some ⟨W2.heap.size, 0, none⟩) N N) N (nats (numTo (lowM C) N (k + 1))) ∧ wr.ownsRow (W2.heap.size + 1) 3 1 v8 (k) (nats (ovL C (k))) ∧ Below w.heap.size w wr)) (fun _ _ v11 _ => 2 * C.length + 1 - (intOf v11).toNat)
          case atStart => exact ⟨0, 1, Nat.zero_le _, (rfl : 1 = 0 + 1), rfl, (by simp [rootsN]), HP4.out⟩
          case round =>
            clear HP4
            rename World => W4
            obtain ⟨k, j, hkn, hjk, rfl, rfl, hp⟩ := hrel
            obtain ⟨a8, c8, rfl⟩ := own_capS hp.out.2.2.1
            by_cases hil : k < 2 * C.length
            · have hj1 : 1 ≤ j := by have := hjk.out; omega
              have hj2 : j < N := by have := hjk.out; have := HN.out; omega
              have hj3 : (j : Int) ≤ 2 * (C.length : Int) := by have := hjk.out; omega
              obtain ⟨q, hq⟩ : ∃ q, (lowM C).getD j 0 = q := ⟨_, rfl⟩
              have hqj : q ≤ j := by rw [← hq]; exact HLS.out.le hj2
              have hq1 : 1 ≤ q := by rw [← hq]; exact HLP.out j hj1 hj2
              have hqN : q < N := by omega
              have HQR : Hid ((lowM C).getD q 0 = q) := (by have h := HLS.out.root hj2; rw [hq] at h; exact h : (lowM C).getD q 0 = q)
              have e0 : W4.cell? ⟨w.heap.size + 1, j, none⟩ = some (.int .i64 (q : Nat)) := by
                rw [hp.out.1.cellAt j (by omega), nats_get _ j (by rw [HLS.out.1]; omega), hq]
              have hr1 := rootsN_le (lowM C) j
              by_cases hqe : q = j
              · subst hqe
                have HQ : Hid ((lowM C).getD q 0 = q) := hq
                have hst := hp.out.2.1.stored q (.int .i64 (rootsN (lowM C) q : Nat))
                rw [nats_set, ← hjk.out, numTo_yes (lowM C) N q hq1 hq] at hst
                have hw4 := (hp.out.2.1.lt W2.heap.size rfl).2
                have HWH : Hid ((W4.setCell ⟨W2.heap.size, q, none⟩ (.int .i64 (rootsN (lowM C) q : Nat))).ownsRow (w.heap.size + 1) 3 1 (.slice (some ⟨w.heap.size + 1, 0, none⟩) N N) N (nats (lowM C))) := hp.out.1.kept hst.2 (Or.inr (fun e => by have : w.heap.size + 1 = W2.heap.size := Option.some.inj e; omega))
                have HNU : Hid ((W4.setCell ⟨W2.heap.size, q, none⟩ (.int .i64 (rootsN (lowM C) q : Nat))).ownsRow (w.heap.size + 1) 3 1 (.slice (some ⟨W2.heap.size, 0, none⟩) N N) N (nats (numTo (lowM C) N (k + 1 + 1)))) := (by rw [← hjk.out]; exact hst.1 : (W4.setCell ⟨W2.heap.size, q, none⟩ (.int .i64 (rootsN (lowM C) q : Nat))).ownsRow (w.heap.size + 1) 3 1 (.slice (some ⟨W2.heap.size, 0, none⟩) N N) N (nats (numTo (lowM C) N (k + 1 + 1))))
                have HO : Hid ((W4.setCell ⟨W2.heap.size, q, none⟩ (.int .i64 (rootsN (lowM C) q : Nat))).ownsRow (W2.heap.size + 1) 3 1 (.slice a8 k c8) k (nats (ovL C k))) := hp.out.2.2.1.kept hst.2 (Or.inr (fun e => by have := (hp.out.2.2.1.lt W2.heap.size e).1; omega))
                have HBX : Hid (Below w.heap.size w (W4.setCell ⟨W2.heap.size, q, none⟩ (.int .i64 (rootsN (lowM C) q : Nat)))) := hp.out.2.2.2.grown hst.2 hp.out.2.2.2.size (fun z hz => by have := Option.some.inj hz; omega)
                have hsX : (W4.setCell ⟨W2.heap.size, q, none⟩ (.int .i64 (rootsN (lowM C) q : Nat))).heap.size = W4.heap.size := by simp
                have eo : W4.cell? ⟨W2.heap.size, q, none⟩ = some (.int .i64 (((numTo (lowM C) N (k + 1)).getD q 0 : Nat))) := by
                  rw [hp.out.2.1.cellAt q (by omega)]; exact nats_get _ q (by rw [numTo_len]; omega)
                have z0 : W4.frozen? ⟨W2.heap.size, q, none⟩ = false := hp.out.2.1.frozenAt q
                have HR1 : Hid (rootsN (lowM C) (q + 1) = rootsN (lowM C) q + 1) := (by simp only [rootsN]; rw [if_pos ⟨hq1, hq⟩] : rootsN (lowM C) (q + 1) = rootsN (lowM C) q + 1)
                have hqq : ((q : Int) == (q : Int)) = true := by simp
                have hws : w.heap.size + 1 ≠ W2.heap.size := by omega
                clear hst hq HQR hqj
                have hA := HO.out.alloc (.cells #[.int .i64 (rootsN (lowM C) q : Nat)] 3)
                go_wp2_with (first
                  | (at_builtin; refine wpList_append_own _ rfl _ _ 52 rfl (W2.heap.size + 1) 3 i2 (.int .i64 0) 1 8 Try.underlying52 hk hx0 hx1 hx2 rfl (by decide) _ _ _ rfl (HO.out.alloc _) ⟨W4.heap.size, 0, none⟩ 1 1 [.int .i64 (rootsN (lowM C) q : Nat)] rfl rfl (by rw [← hsX]; exact new_cell1 _ _ _) (int_one _) (by unfold maxLen; omega) (by omega) (by simp; omega) ?_; intro v8 w8 hown8 hg8 _; refine Hid.out ?_))
                refine Lib.hid ?_
                have HW8 : Hid (w8.ownsRow (w.heap.size + 1) 3 1 (.slice (some ⟨w.heap.size + 1, 0, none⟩) N N) N (nats (lowM C)) ∧ w8.ownsRow (w.heap.size + 1) 3 1 (.slice (some ⟨W2.heap.size, 0, none⟩) N N) N (nats (numTo (lowM C) N (k + 1 + 1))) ∧ w8.ownsRow (W2.heap.size + 1) 3 1 v8 (k + 1) (nats (ovL C (k + 1))) ∧ Below w.heap.size w w8) := ⟨(HWH.out.alloc _).kept hg8 (Or.inr (fun e => by have := (hA.lt (w.heap.size + 1) e.symm).1; omega)), (HNU.out.alloc _).kept hg8 (Or.inr (fun e => by have := (hA.lt W2.heap.size e.symm).1; omega)), (by have e : ovM C (k + 1) = rootsN (lowM C) q := (by rw [← hjk.out]; unfold ovM; rw [HQ.out]); rw [← ovL_next, nats_app, e]; exact hown8), (HBX.out.alloc (by have := HBX.out.size; omega) _).grown hg8 (by have := HBX.out.size; simp; omega) (fun z hz => by have := (hA.lt z hz).1; omega)⟩
                clear hg8 hown8 hA
                obtain ⟨a9, c9, rfl⟩ := own_capS HW8.out.2.2.1
                go_wp2
                go_roundw
                case rel => exact ⟨k + 1, q + 1, by omega, (by have := hjk.out; omega : q + 1 = k + 1 + 1), by go_num, (by rw [HR1.out]; go_num), HW8.out⟩
                case measure => simp only [intOf]; omega
              · have hne : ((q : Int) == (j : Int)) = false := by simp; omega
                have HQ : Hid ((lowM C).getD j 0 = q) := hq
                have hw4 := (hp.out.2.1.lt W2.heap.size rfl).2
                have e1 : W4.cell? ⟨W2.heap.size, q, none⟩ = some (.int .i64 (rootsN (lowM C) q : Nat)) := by
                  rw [hp.out.2.1.cellAt q (by omega), nats_get _ q (by rw [numTo_len]; omega), numTo_at _ _ _ _ hqN, if_pos ⟨by have := hjk.out; omega, hq1, HQR.out⟩]
                have HWH : Hid (W4.ownsRow (w.heap.size + 1) 3 1 (.slice (some ⟨w.heap.size + 1, 0, none⟩) N N) N (nats (lowM C))) := hp.out.1
                have HNU : Hid (W4.ownsRow (w.heap.size + 1) 3 1 (.slice (some ⟨W2.heap.size, 0, none⟩) N N) N (nats (numTo (lowM C) N (k + 1 + 1)))) := (by have h := hp.out.2.1; rw [← hjk.out, numTo_no (lowM C) N j (by rw [hq]; exact hqe)] at h; rw [← hjk.out]; exact h : W4.ownsRow (w.heap.size + 1) 3 1 (.slice (some ⟨W2.heap.size, 0, none⟩) N N) N (nats (numTo (lowM C) N (k + 1 + 1))))
                have HO : Hid (W4.ownsRow (W2.heap.size + 1) 3 1 (.slice a8 k c8) k (nats (ovL C k))) := hp.out.2.2.1
                have HBX : Hid (Below w.heap.size w W4) := hp.out.2.2.2
                have HR1 : Hid (rootsN (lowM C) (j + 1) = rootsN (lowM C) j) := (by simp only [rootsN]; rw [if_neg (fun z => hqe (by rw [← hq]; exact z.2))]; simp : rootsN (lowM C) (j + 1) = rootsN (lowM C) j)
                have hsX : W4.heap.size = W4.heap.size := rfl
                clear hq
                have hA := HO.out.alloc (.cells #[.int .i64 (rootsN (lowM C) q : Nat)] 3)
                go_wp2_with (first
                  | (at_builtin; refine wpList_append_own _ rfl _ _ 52 rfl (W2.heap.size + 1) 3 i2 (.int .i64 0) 1 8 Try.underlying52 hk hx0 hx1 hx2 rfl (by decide) _ _ _ rfl (HO.out.alloc _) ⟨W4.heap.size, 0, none⟩ 1 1 [.int .i64 (rootsN (lowM C) q : Nat)] rfl rfl (new_cell1 _ _ _) (int_one _) (by unfold maxLen; omega) (by omega) (by simp; omega) ?_; intro v8 w8 hown8 hg8 _; refine Hid.out ?_))
                refine Lib.hid ?_
                have HW8 : Hid (w8.ownsRow (w.heap.size + 1) 3 1 (.slice (some ⟨w.heap.size + 1, 0, none⟩) N N) N (nats (lowM C)) ∧ w8.ownsRow (w.heap.size + 1) 3 1 (.slice (some ⟨W2.heap.size, 0, none⟩) N N) N (nats (numTo (lowM C) N (k + 1 + 1))) ∧ w8.ownsRow (W2.heap.size + 1) 3 1 v8 (k + 1) (nats (ovL C (k + 1))) ∧ Below w.heap.size w w8) := ⟨(HWH.out.alloc _).kept hg8 (Or.inr (fun e => by have := (hA.lt (w.heap.size + 1) e.symm).1; omega)), (HNU.out.alloc _).kept hg8 (Or.inr (fun e => by have := (hA.lt W2.heap.size e.symm).1; omega)), (by have e : ovM C (k + 1) = rootsN (lowM C) q := (by rw [← hjk.out]; unfold ovM; rw [HQ.out]); rw [← ovL_next, nats_app, e]; exact hown8), (HBX.out.alloc (by have := HBX.out.size; omega) _).grown hg8 (by have := HBX.out.size; simp; omega) (fun z hz => by have := (hA.lt z hz).1; omega)⟩
                clear hg8 hown8 hA
                obtain ⟨a9, c9, rfl⟩ := own_capS HW8.out.2.2.1
                go_wp2
                go_roundw
                case rel => exact ⟨k + 1, j + 1, by omega, (by have := hjk.out; omega : j + 1 = k + 1 + 1), by go_num, (by rw [HR1.out]), HW8.out⟩
                case measure => simp only [intOf]; omega
            · obtain rfl : k = 2 * C.length := by omega
              obtain rfl : j = 2 * C.length + 1 := hjk.out
              go_wp2
              go_ret
              exact ⟨_, rfl, own_low hp.out.2.2.1 (by omega), hp.out.2.2.2⟩
end Go.Proofs.Ytdbpiggohncjiaa
/- The walk of Drawing.OnSphere, the rings of FaceRings being given. -/
namespace Go.Proofs.Ytdbpiggohncjiaa
open Go.RowKit

/-- What Drawing.FaceRings tells. -/
def FaceRingsOk : Prop := ∀ (a : Option Addr) (cap : Nat) (C : List Cr) (loops : Int) (gF cF gT cT : Nat) (w : World), mayD C loops = true → Dr w a cap C gF gT →
    Calls Try.prog 85 #[drV a cap C loops gF cF gT cT] w fun e w' => ∃ v, e = .returned v ∧ DartsOwn w' w.heap.size v (facesM C) ∧ Below w.heap.size w w'
def cntI (P : List Int) (p i : Nat) : Nat := (List.range i).countP fun v => decide (P.getD v 0 = (p : Int))
theorem cntI_next (P : List Int) (p i : Nat) : cntI P p (i + 1) = cntI P p i + if P.getD i 0 = (p : Int) then 1 else 0 := by
  unfold cntI
  rw [List.range_succ, List.countP_append]
  congr 1
  by_cases h : P.getD i 0 = (p : Int)
  · rw [if_pos h]; simp only [List.countP_cons, List.countP_nil, h, decide_true, if_true]
  · rw [if_neg h]; simp only [List.countP_cons, List.countP_nil, h, decide_false]; rfl
theorem cntI_le (P : List Int) (p i : Nat) : cntI P p i ≤ i := by
  have := List.countP_le_length (p := fun v => decide (P.getD v 0 = (p : Int))) (l := List.range i)
  simpa [cntI] using this
def cntH (G : List Nat) (P : List Int) (p i : Nat) : Nat := (G.take i).countP fun g => decide (P.getD g 0 = (p : Int))
theorem cntH_next (G : List Nat) (P : List Int) (p i : Nat) (hi : i < G.length) : cntH G P p (i + 1) = cntH G P p i + if P.getD (G.getD i 0) 0 = (p : Int) then 1 else 0 := by
  unfold cntH
  rw [List.take_add_one, List.countP_append]
  congr 1
  have e : G[i]? = some (G.getD i 0) := by rw [List.getD_eq_getElem?_getD, List.getElem?_eq_getElem hi]; rfl
  rw [e]
  by_cases h : P.getD (G.getD i 0) 0 = (p : Int)
  · rw [if_pos h]; simp only [Option.toList_some, List.countP_cons, List.countP_nil, h, decide_true, if_true]
  · rw [if_neg h]; simp only [Option.toList_some, List.countP_cons, List.countP_nil, h, decide_false]; rfl
theorem cntH_le (G : List Nat) (P : List Int) (p i : Nat) : cntH G P p i ≤ G.length := by
  have := List.countP_le_length (p := fun g => decide (P.getD g 0 = (p : Int))) (l := G.take i)
  unfold cntH
  have h3 : (G.take i).length ≤ G.length := by rw [List.length_take]; omega
  omega
/-- The excess of each piece under way. -/
def exL (G : List Nat) (P : List Int) (c i j : Nat) : List Int := (List.range c).map fun p => (cntH G P p j : Int) - (cntI P p i : Int)
theorem exL_len (G : List Nat) (P : List Int) (c i j : Nat) : (exL G P c i j).length = c := by simp [exL]
theorem exL_at (G : List Nat) (P : List Int) (c i j p : Nat) (hp : p < c) : (exL G P c i j).getD p 0 = (cntH G P p j : Int) - (cntI P p i : Int) := by
  simp [exL, List.getD_eq_getElem?_getD, hp]
theorem exL_zero (G : List Nat) (P : List Int) (c : Nat) : List.replicate c (0 : Int) = exL G P c 0 0 := by
  refine List.ext_getElem (by simp [exL]) fun j h1 h2 => ?_
  simp [exL, cntH, cntI]
theorem exL_less (G : List Nat) (P : List Int) (c i q : Nat) (hq : P.getD i 0 = (q : Int)) (hc : q < c) : (exL G P c i 0).set q ((exL G P c i 0).getD q 0 - 1) = exL G P c (i + 1) 0 := by
  rw [exL_at _ _ _ _ _ _ hc]
  refine List.ext_getElem (by simp [exL]) fun j h1 h2 => ?_
  rw [List.getElem_set]
  simp only [exL, List.getElem_map, List.getElem_range]
  rw [cntI_next]
  split
  · rename_i h; subst h; rw [if_pos hq]; omega
  · rename_i h; rw [if_neg (fun e => h (by rw [hq] at e; omega))]; rfl
theorem exL_more (G : List Nat) (P : List Int) (c i j q : Nat) (hj : j < G.length) (hq : P.getD (G.getD j 0) 0 = (q : Int)) (hc : q < c) : (exL G P c i j).set q ((exL G P c i j).getD q 0 + 1) = exL G P c i (j + 1) := by
  rw [exL_at _ _ _ _ _ _ hc]
  refine List.ext_getElem (by simp [exL]) fun k h1 h2 => ?_
  rw [List.getElem_set]
  simp only [exL, List.getElem_map, List.getElem_range]
  rw [cntH_next _ _ _ _ hj]
  split
  · rename_i h; subst h; rw [if_pos hq]; omega
  · rename_i h; rw [if_neg (fun e => h (by rw [hq] at e; omega))]; rfl
theorem exL_ex (n : Nat) (G : List Nat) (P : List Int) (c p : Nat) (hp : p < c) : (exL G P c n G.length).getD p 0 = exI n G P p := by
  rw [exL_at _ _ _ _ _ _ hp]
  unfold exI cntH cntI
  rw [List.take_length]
theorem planar_pieces {C : List Cr} {loops : Int} (hm : mayD C loops = true) {P : List Int} {c : Nat} (hP : PcsAll C P c) : planarB C = true ↔ ∀ p, p < c → exI C.length (headsM C) P p = 2 := by
  rw [planarB_iff]
  exact (sphere_iff hP (whoM_least hm) (headsM_lt hm)).symm
end Go.Proofs.Ytdbpiggohncjiaa
/- The walk of Drawing.OnSphere, the rings of FaceRings being given. -/
namespace Go.Proofs.Ytdbpiggohncjiaa
open Go.RowKit

set_option maxHeartbeats 16000000 in
set_option maxRecDepth 100000 in
theorem onSphere_any (hFR : FaceRingsOk) (a : Option Addr) (cap : Nat) (C : List Cr) (loops : Int) (gF cF gT cT : Nat) (w : World) (hm : mayD C loops = true) (hD : Dr w a cap C gF gT) :
    Calls Try.prog 94 #[drV a cap C loops gF cF gT cT] w fun e w' => e = .returned (.bool (planarB C)) ∧ Below w.heap.size w w' := by
  obtain ⟨s1, -, -, -⟩ := sizeB_iff (may_size hm)
  obtain ⟨i2, hk, hx0, hx1, hx2⟩ := info_parts infoInt
  have HM : Hid (mayD C loops = true) := hm
  have HD : Hid (Dr w a cap C gF gT) := hD
  have HFA : Hid FaceRingsOk := hFR
  obtain ⟨hfl, hfr⟩ := facesM_facts hm
  have HFR : Hid (∀ j, j < (facesM C).length → 0 < ((facesM C).getD j []).length ∧ ((facesM C).getD j []).length ≤ 4 * C.length + 1 ∧ ∀ k, k < ((facesM C).getD j []).length → 1 ≤ ((facesM C).getD j []).getD k 0 ∧ ((facesM C).getD j []).getD k 0 ≤ 4 * C.length) := hfr
  clear hm hD hfr hFR
  obtain ⟨w0, hw0⟩ : ∃ w0, w0 = w.alloc (.cells #[.slice a C.length cap, .int .i64 loops, .slice (some ⟨gF, 0, none⟩) (2 * C.length + 1) cF, .slice (some ⟨gT, 0, none⟩) (2 * C.length + 1) cT] 117) := ⟨_, rfl⟩
  have HW0 : Hid (w0 = w.alloc (.cells #[.slice a C.length cap, .int .i64 loops, .slice (some ⟨gF, 0, none⟩) (2 * C.length + 1) cF, .slice (some ⟨gT, 0, none⟩) (2 * C.length + 1) cT] 117)) := hw0
  have hs0 : w0.heap.size = w.heap.size + 1 := by rw [hw0]; simp
  have HB0 : Hid (Below w.heap.size w w0) := (by rw [hw0]; exact (Below.refl _ _).alloc (Nat.le_refl _) _ : Below w.heap.size w w0)
  have HT0 : Hid (w0.heap[w.heap.size]? = some (.cells #[.slice a C.length cap, .int .i64 loops, .slice (some ⟨gF, 0, none⟩) (2 * C.length + 1) cF, .slice (some ⟨gT, 0, none⟩) (2 * C.length + 1) cT] 117 (0, 0))) := (by rw [hw0]; exact alloc_at rfl : w0.heap[w.heap.size]? = some (.cells #[.slice a C.length cap, .int .i64 loops, .slice (some ⟨gF, 0, none⟩) (2 * C.length + 1) cF, .slice (some ⟨gT, 0, none⟩) (2 * C.length + 1) cT] 117 (0, 0)))
  have HPI : Hid (∀ V, Dr V a cap C gF gT → Calls Try.prog 161 #[.agg #[.slice a C.length cap, .int .i64 loops, .slice (some ⟨gF, 0, none⟩) (2 * C.length + 1) cF, .slice (some ⟨gT, 0, none⟩) (2 * C.length + 1) cT]] V fun e w' => ∃ gP cP P c, e = .returned (.tuple #[.slice (some ⟨gP, 0, none⟩) C.length cP, .int .i64 (c : Nat)]) ∧ w'.ownsRow V.heap.size 3 1 (.slice (some ⟨gP, 0, none⟩) C.length cP) C.length (intsV P) ∧ PcsAll C P c ∧ Below V.heap.size V w') := fun V hV => pieces_any a cap C loops gF cF gT cT V HM.out hV
  have HFI : Hid (∀ V, Dr V a cap C gF gT → Calls Try.prog 85 #[.agg #[.slice a C.length cap, .int .i64 loops, .slice (some ⟨gF, 0, none⟩) (2 * C.length + 1) cF, .slice (some ⟨gT, 0, none⟩) (2 * C.length + 1) cT]] V fun e w' => ∃ v, e = .returned v ∧ DartsOwn w' V.heap.size v (facesM C) ∧ Below V.heap.size V w') := fun V hV => HFA.out a cap C loops gF cF gT cT V HM.out hV
  clear hw0
  unfold drV
  go_enter Try.func94, Try.ntmps94
  go_wp2_with (go_at_call 161; rw [← HW0.out]; refine (HPI.out _ (HD.out.on HB0.out)).mono ?_; rintro e9 w1 ⟨gP, cP, P, c, rfl, hrow, hpc, hb1⟩; refine Hid.out ?_)
  refine Lib.hid ?_
  have HPC : Hid (PcsAll C P c) := hpc
  have hcn := hpc.few
  have hs1 := hb1.size
  have HB1 : Hid (Below w0.heap.size w0 w1) := hb1
  have HR1 : Hid (w1.ownsRow w0.heap.size 3 1 (.slice (some ⟨gP, 0, none⟩) C.length cP) C.length (intsV P)) := hrow
  have hgP := hrow.lt gP rfl
  clear hpc hb1 hrow
  go_wp2_with (first | (at_make; refine wpList_make_full _ rfl _ _ 52 rfl w1.heap.size 3 i2 (.int .i64 0) 1 Try.underlying52 hk hx0 hx1 .i64 .i64 _ _ c rfl rfl rfl rfl (by rw [hx2]; omega) (by unfold maxLen; omega) (by simp) ?_; intro w2 hrow2 hg2; refine Hid.out ?_))
  refine Lib.hid ?_
  rw [made_zero, exL_zero (headsM C) P c] at hrow2
  have hg2' : w1.grownBy w2 none := hg2
  have HE2 : Hid (w2.heap[w.heap.size]? = some (.cells #[.slice a C.length cap, .int .i64 loops, .slice (some ⟨gF, 0, none⟩) (2 * C.length + 1) cF, .slice (some ⟨gT, 0, none⟩) (2 * C.length + 1) cT] 117 (0, 0)) ∧ w2.ownsRow w0.heap.size 3 1 (.slice (some ⟨gP, 0, none⟩) C.length cP) C.length (intsV P) ∧ w2.ownsRow w1.heap.size 3 1 (.slice (some ⟨w1.heap.size, 0, none⟩) c c) c (intsV (exL (headsM C) P c 0 0)) ∧ Below w.heap.size w w2) := ⟨(hg2'.block _ (by omega) (by simp)).trans ((HB1.out.block _ (by omega)).trans HT0.out), own_any HR1.out hg2', hrow2, (HB0.out.trans (HB1.out.mono (by omega))).grown hg2' (by omega) (fun k hk => by cases hk)⟩
  have HVA : Hid (∀ i, i < C.length → ∃ q : Nat, P.getD i 0 = (q : Int) ∧ q < c) := fun i hi => ⟨(P.getD i 0).toNat, by have := HPC.out.vals i hi; omega, by have := HPC.out.vals i hi; omega⟩
  have HPL : Hid (P.length = C.length) := HPC.out.len
  clear hrow2 hg2 hg2' HT0 HB0 HB1 HR1
  go_wp2
  go_loopw [21] (fun v21 wr => ∃ i : Nat, i ≤ C.length ∧ v21 = .int .i64 (i : Nat) ∧ Hid (wr.heap[w.heap.size]? = some (.cells #[.slice a C.length cap, .int .i64 loops, .slice (some ⟨gF, 0, none⟩) (2 * C.length + 1) cF, .slice (some ⟨gT, 0, none⟩) (2 * C.length + 1) cT] 117 (0, 0)) ∧ wr.ownsRow w0.heap.size 3 1 (.slice (some ⟨gP, 0, none⟩) C.length cP) C.length (intsV P) ∧ wr.ownsRow w1.heap.size 3 1 (.slice (some ⟨w1.heap.size, 0, none⟩) c c) c (intsV (exL (headsM C) P c i 0)) ∧ Below w.heap.size w wr)) (fun v21 _ => C.length - (intOf v21).toNat)
  case atStart => exact ⟨0, Nat.zero_le _, rfl, HE2.out⟩
  case round =>
    clear HE2
    rename World => W1
    obtain ⟨i, hin, rfl, he⟩ := hrel
    have hlE := he.out.2.2.1.lt w1.heap.size rfl
    have hlP := he.out.2.1.lt gP rfl
    have hsW := he.out.2.2.2.size
    by_cases hil : i < C.length
    · obtain ⟨q, hq, hqc⟩ := HVA.out i hil
      have e0 : W1.cell? ⟨gP, i, none⟩ = some (.int .i64 (q : Nat)) := by
        rw [he.out.2.1.cellAt i (by omega), intsV_get P i (by rw [HPL.out]; exact hil), hq]
      obtain ⟨z, hz⟩ : ∃ z, (exL (headsM C) P c i 0).getD q 0 = z := ⟨_, rfl⟩
      have hzb : -16 ≤ z ∧ z ≤ 100 := by
        rw [← hz, exL_at _ _ _ _ _ _ hqc]
        have h1 := cntI_le P q i
        have h2 := cntH_le (headsM C) P q 0
        rw [headsM_len] at h2
        omega
      have e1 : W1.cell? ⟨w1.heap.size, q, none⟩ = some (.int .i64 z) := by
        rw [he.out.2.2.1.cellAt q (by omega), intsV_get _ q (by rw [exL_len]; exact hqc), hz]
      have z1 : W1.frozen? ⟨w1.heap.size, q, none⟩ = false := he.out.2.2.1.frozenAt q
      have hst := he.out.2.2.1.stored q (.int .i64 (z - 1))
      rw [intsV_set, ← hz, exL_less (headsM C) P c i q hq hqc, hz] at hst
      have HST : Hid ((W1.setCell ⟨w1.heap.size, q, none⟩ (.int .i64 (z - 1))).heap[w.heap.size]? = some (.cells #[.slice a C.length cap, .int .i64 loops, .slice (some ⟨gF, 0, none⟩) (2 * C.length + 1) cF, .slice (some ⟨gT, 0, none⟩) (2 * C.length + 1) cT] 117 (0, 0)) ∧ (W1.setCell ⟨w1.heap.size, q, none⟩ (.int .i64 (z - 1))).ownsRow w0.heap.size 3 1 (.slice (some ⟨gP, 0, none⟩) C.length cP) C.length (intsV P) ∧ (W1.setCell ⟨w1.heap.size, q, none⟩ (.int .i64 (z - 1))).ownsRow w1.heap.size 3 1 (.slice (some ⟨w1.heap.size, 0, none⟩) c c) c (intsV (exL (headsM C) P c (i + 1) 0)) ∧ Below w.heap.size w (W1.setCell ⟨w1.heap.size, q, none⟩ (.int .i64 (z - 1)))) := ⟨(hst.2.block _ (by omega) (fun e => by have : w.heap.size = w1.heap.size := Option.some.inj e; omega)).trans he.out.1, he.out.2.1.kept hst.2 (Or.inr (fun e => by have : gP = w1.heap.size := Option.some.inj e; omega)), hst.1, he.out.2.2.2.grown hst.2 hsW (fun k hk => by have := Option.some.inj hk; omega)⟩
      have hqI : (q : Int) < (c : Int) := by omega
      clear hst hz hq
      go_wp2
      go_roundw
      case rel => exact ⟨i + 1, by omega, by go_num, HST.out⟩
      case measure => simp only [intOf]; omega
    · obtain rfl : i = C.length := by omega
      have HE3 : Hid (W1.heap[w.heap.size]? = some (.cells #[.slice a C.length cap, .int .i64 loops, .slice (some ⟨gF, 0, none⟩) (2 * C.length + 1) cF, .slice (some ⟨gT, 0, none⟩) (2 * C.length + 1) cT] 117 (0, 0)) ∧ W1.ownsRow w0.heap.size 3 1 (.slice (some ⟨gP, 0, none⟩) C.length cP) C.length (intsV P) ∧ W1.ownsRow w1.heap.size 3 1 (.slice (some ⟨w1.heap.size, 0, none⟩) c c) c (intsV (exL (headsM C) P c C.length 0)) ∧ Below w.heap.size w W1) := he.out
      have p0 : W1.cell? ⟨w.heap.size, 0, none⟩ = some (.slice a C.length cap) := block_cell he.out.1 rfl
      have p1 : W1.cell? ⟨w.heap.size, 1, none⟩ = some (.int .i64 loops) := block_cell he.out.1 rfl
      have p2 : W1.cell? ⟨w.heap.size, 2, none⟩ = some (.slice (some ⟨gF, 0, none⟩) (2 * C.length + 1) cF) := block_cell he.out.1 rfl
      have p3 : W1.cell? ⟨w.heap.size, 3, none⟩ = some (.slice (some ⟨gT, 0, none⟩) (2 * C.length + 1) cT) := block_cell he.out.1 rfl
      clear he
      go_wp2_with (go_at_call 85; refine (HFI.out _ (HD.out.on HE3.out.2.2.2)).mono ?_; rintro e9 w4 ⟨vf, rfl, hrf, hb4⟩; refine Hid.out ?_)
      refine Lib.hid ?_
      have hs4 := hb4.size
      have hg4 : W1.grownBy w4 none := grown_below hb4 none
      have HE4 : Hid (w4.heap[w.heap.size]? = some (.cells #[.slice a C.length cap, .int .i64 loops, .slice (some ⟨gF, 0, none⟩) (2 * C.length + 1) cF, .slice (some ⟨gT, 0, none⟩) (2 * C.length + 1) cT] 117 (0, 0)) ∧ w4.ownsRow w0.heap.size 3 1 (.slice (some ⟨gP, 0, none⟩) C.length cP) C.length (intsV P) ∧ w4.ownsRow w1.heap.size 3 1 (.slice (some ⟨w1.heap.size, 0, none⟩) c c) c (intsV (exL (headsM C) P c C.length 0)) ∧ Below w.heap.size w w4) := ⟨(hb4.block _ (by omega)).trans HE3.out.1, own_any HE3.out.2.1 hg4, own_any HE3.out.2.2.1 hg4, HE3.out.2.2.2.trans (hb4.mono hsW)⟩
      have hrg := hrf.rings (fun j hj => (HFR.out j hj).1)
      obtain ⟨af, cf, rfl, ff⟩ := hrg
      have HRG : Hid (RingsAt w4 W1.heap.size (.slice af (facesM C).length cf) (facesM C)) := ⟨af, cf, rfl, ff⟩
      clear hrf ff hb4 hg4 p0 p1 p2 p3 HE3
      by_cases hz : C.length = 0
      · have HPB : Hid (planarB C = true) := ((planarB_iff C).2 fun p hp => by omega : planarB C = true)
        have hf0 : (facesM C).length = 0 := by omega
        have hc0 : c = 0 := by omega
        go_wp2
        go_loopw [35] (fun v35 wr => v35 = .int .i64 0 ∧ Below w4.heap.size w4 wr) (fun _ _ => 0)
        case atStart => exact ⟨rfl, Below.refl _ _⟩
        case round =>
          rename World => W3
          obtain ⟨rfl, hb⟩ := hrel
          have HBW : Hid (Below w.heap.size w W3) := HE4.out.2.2.2.trans (hb.mono HE4.out.2.2.2.size)
          have hfz : ((facesM C).length : Int) = 0 := by omega
          clear hb
          go_wp2
          go_loopw [56] (fun v56 wr => v56 = .int .i64 0 ∧ Below w.heap.size w wr) (fun _ _ => 0)
          case atStart => exact ⟨rfl, HBW.out⟩
          case round =>
            obtain ⟨rfl, hb⟩ := hrel
            have hcz : (c : Int) = 0 := by omega
            go_wp2
            go_ret
            exact ⟨by rw [HPB.out]; rfl, hb⟩
      · have hpos : 0 < C.length := by omega
        obtain ⟨af', cf', ef, ff⟩ := HRG.out
        injection ef with ef1 ef2 ef3
        obtain ⟨bf, of, efa, hbf, hBf, hcf⟩ := ff (facesM_pos hpos)
        rw [← ef1] at efa
        subst efa
        have HCF : Hid (∀ j, j < (facesM C).length → ∃ g c, w4.cell? ⟨bf, of + j, none⟩ = some (.slice (some ⟨g, 0, none⟩) ((facesM C).getD j []).length c) ∧ g < w4.heap.size ∧ W1.heap.size ≤ g ∧ ∀ k, k < ((facesM C).getD j []).length → w4.cell? ⟨g, k * 2, none⟩ = some (.int .i64 (dA (((facesM C).getD j []).getD k 0) : Nat)) ∧ w4.cell? ⟨g, k * 2 + 1, none⟩ = some (.bool (dB (((facesM C).getD j []).getD k 0)))) := hcf
        have HEF : Hid (af' = some ⟨bf, of, none⟩) := ef1.symm
        have hEW := hlE.2
        clear ff hcf ef1 ef2 ef3 HRG hz hlE hlP
        go_wp2
        go_loopw [35] (fun v35 wr => ∃ i : Nat, i ≤ (facesM C).length ∧ v35 = .int .i64 (i : Nat) ∧ Hid (wr.heap[w.heap.size]? = some (.cells #[.slice a C.length cap, .int .i64 loops, .slice (some ⟨gF, 0, none⟩) (2 * C.length + 1) cF, .slice (some ⟨gT, 0, none⟩) (2 * C.length + 1) cT] 117 (0, 0)) ∧ wr.ownsRow w0.heap.size 3 1 (.slice (some ⟨gP, 0, none⟩) C.length cP) C.length (intsV P) ∧ wr.ownsRow w1.heap.size 3 1 (.slice (some ⟨w1.heap.size, 0, none⟩) c c) c (intsV (exL (headsM C) P c C.length i)) ∧ Below w.heap.size w wr) ∧ Hid (w4.grownBy wr (some w1.heap.size))) (fun v35 _ => (facesM C).length - (intOf v35).toNat)
        case atStart => exact ⟨0, Nat.zero_le _, rfl, HE4.out, World.grownBy.refl _ _⟩
        case round =>
          clear HE4
          rename World => W3
          obtain ⟨i, hin, rfl, he, hgr⟩ := hrel
          have hlE := he.out.2.2.1.lt w1.heap.size rfl
          have hlP := he.out.2.1.lt gP rfl
          have hs3 := he.out.2.2.2.size
          have hsg := hgr.out.size
          by_cases hil : i < (facesM C).length
          · obtain ⟨gj, cj, k0, k1, kB, k2⟩ := HCF.out i hil
            obtain ⟨l0, l1, l2⟩ := HFR.out i hil
            have hx12 := l2 0 l0
            have k3 := k2 0 l0
            obtain ⟨nF, hnF⟩ : ∃ nF, ((facesM C).getD i []).length = nF := ⟨_, rfl⟩
            obtain ⟨x, hx⟩ : ∃ x, ((facesM C).getD i []).getD 0 0 = x := ⟨_, rfl⟩
            rw [hnF] at k0 l0
            rw [hx] at k3 hx12
            obtain ⟨-, d2, -⟩ := d_may HM.out x hx12.1 hx12.2
            have dle := dA_le hx12.1 hx12.2
            obtain ⟨y, hy⟩ : ∃ y, dC C x = y := ⟨_, rfl⟩
            obtain ⟨ys, hys⟩ : ∃ ys, dS C x = ys := ⟨_, rfl⟩
            have HEV : Hid (∀ V, Below w.heap.size w V → Calls Try.prog 162 #[.agg #[.slice a C.length cap, .int .i64 loops, .slice (some ⟨gF, 0, none⟩) (2 * C.length + 1) cF, .slice (some ⟨gT, 0, none⟩) (2 * C.length + 1) cT], .agg #[.int .i64 (dA x : Nat), .bool (dB x)]] V fun e w' => e = .returned (.agg #[.int .i64 (y : Nat), .int .i64 (ys : Nat)]) ∧ Below V.heap.size V w') := fun V hV => by
              rw [← hy, ← hys]
              exact end_any a cap C loops gF cF gT cT (dA x) (dB x) V HM.out dle.1 dle.2 (HD.out.on hV)
            rw [hy] at d2
            obtain ⟨q, hq, hqc⟩ := HVA.out y d2
            have HHD : Hid (P.getD ((headsM C).getD i 0) 0 = (q : Int)) := (by rw [headsM_at C i hil, hx, hy]; exact hq : P.getD ((headsM C).getD i 0) 0 = (q : Int))
            obtain ⟨z, hz⟩ : ∃ z, (exL (headsM C) P c C.length i).getD q 0 = z := ⟨_, rfl⟩
            have hzb : -16 ≤ z ∧ z ≤ 100 := by
              rw [← hz, exL_at _ _ _ _ _ _ hqc]
              have h1 := cntI_le P q C.length
              have h2 := cntH_le (headsM C) P q i
              rw [headsM_len] at h2
              omega
            have far : ∀ (b o : Nat) (u : Value), w4.cell? ⟨b, o, none⟩ = some u → W1.heap.size ≤ b → W3.cell? ⟨b, o, none⟩ = some u := fun b o u hu hB => hgr.out.cell hu (fun e => by have : b = w1.heap.size := Option.some.inj e; omega)
            have m0 : W3.cell? ⟨bf, of + i, none⟩ = some (.slice (some ⟨gj, 0, none⟩) nF cj) := far _ _ _ k0 hBf
            have m1 : W3.cell? ⟨gj, 0, none⟩ = some (.int .i64 (dA x : Nat)) := far _ _ _ k3.1 kB
            have m2 : W3.cell? ⟨gj, 1, none⟩ = some (.bool (dB x)) := far _ _ _ k3.2 kB
            have p0 : W3.cell? ⟨w.heap.size, 0, none⟩ = some (.slice a C.length cap) := block_cell he.out.1 rfl
            have p1 : W3.cell? ⟨w.heap.size, 1, none⟩ = some (.int .i64 loops) := block_cell he.out.1 rfl
            have p2 : W3.cell? ⟨w.heap.size, 2, none⟩ = some (.slice (some ⟨gF, 0, none⟩) (2 * C.length + 1) cF) := block_cell he.out.1 rfl
            have p3 : W3.cell? ⟨w.heap.size, 3, none⟩ = some (.slice (some ⟨gT, 0, none⟩) (2 * C.length + 1) cT) := block_cell he.out.1 rfl
            have hfs := field_spotD
            have hwz : IntKind.i64.wrap (z + 1) = z + 1 := IntWalk.i64_in _ (by omega)
            have i1 : (i : Int) < ((facesM C).length : Int) := by omega
            have i2' : (0 : Int) < (nF : Int) := by omega
            have i3 : (y : Int) < (C.length : Int) := by omega
            have i4 : (q : Int) < (c : Int) := by omega
            have HD3 : Hid (Below W3.heap.size W3 W3.drew) := (Below.refl _ _).drew
            have HQY : Hid (P.getD y 0 = (q : Int)) := hq
            have HZZ : Hid ((exL (headsM C) P c C.length i).getD q 0 = z) := hz
            clear k0 k1 kB k2 k3 l1 l2 hnF hx hy hys hq hz dle hx12 far
            generalize dA x = xA at HEV m1
            generalize dB x = xB at HEV m2
            go_wp2
            go_region_with (first
              | (go_at_call 162; refine (HEV.out _ (he.out.2.2.2.trans (HD3.out.mono hs3))).mono ?_; rintro e9 w5 ⟨rfl, hb5⟩
                 have H5 : Hid (Below W3.heap.size W3 w5) := HD3.out.trans (hb5.mono HD3.out.size)
                 have hg5 := grown_below H5.out none
                 have hs5 := H5.out.size
                 have HP5 := own_any he.out.2.1 hg5
                 have HE5 := own_any he.out.2.2.1 hg5
                 have e0 : w5.cell? ⟨gP, y, none⟩ = some (.int .i64 (q : Nat)) := by
                   rw [HP5.cellAt y (by omega), intsV_get P y (by rw [HPL.out]; exact d2), HQY.out]
                 have e1 : w5.cell? ⟨w1.heap.size, q, none⟩ = some (.int .i64 z) := by
                   rw [HE5.cellAt q (by omega), intsV_get _ q (by rw [exL_len]; exact hqc), HZZ.out]
                 have z1 : w5.frozen? ⟨w1.heap.size, q, none⟩ = false := HE5.frozenAt q
                 clear hb5 hg5 HP5 HE5))
            all_goals
              have hg5 := grown_below H5.out none
              have HE5 := own_any he.out.2.2.1 hg5
              have hst := HE5.stored q (.int .i64 (z + 1))
              rw [intsV_set, ← HZZ.out, exL_more (headsM C) P c C.length i q (by rw [headsM_len]; exact hil) HHD.out hqc, HZZ.out] at hst
              have HST : Hid ((w5.setCell ⟨w1.heap.size, q, none⟩ (.int .i64 (z + 1))).heap[w.heap.size]? = some (.cells #[.slice a C.length cap, .int .i64 loops, .slice (some ⟨gF, 0, none⟩) (2 * C.length + 1) cF, .slice (some ⟨gT, 0, none⟩) (2 * C.length + 1) cT] 117 (0, 0)) ∧ (w5.setCell ⟨w1.heap.size, q, none⟩ (.int .i64 (z + 1))).ownsRow w0.heap.size 3 1 (.slice (some ⟨gP, 0, none⟩) C.length cP) C.length (intsV P) ∧ (w5.setCell ⟨w1.heap.size, q, none⟩ (.int .i64 (z + 1))).ownsRow w1.heap.size 3 1 (.slice (some ⟨w1.heap.size, 0, none⟩) c c) c (intsV (exL (headsM C) P c C.length (i + 1))) ∧ Below w.heap.size w (w5.setCell ⟨w1.heap.size, q, none⟩ (.int .i64 (z + 1)))) := ⟨(hst.2.block _ (by omega) (fun e => by have : w.heap.size = w1.heap.size := Option.some.inj e; omega)).trans ((H5.out.block _ (by omega)).trans he.out.1), (own_any he.out.2.1 hg5).kept hst.2 (Or.inr (fun e => by have : gP = w1.heap.size := Option.some.inj e; omega)), hst.1, (he.out.2.2.2.trans (H5.out.mono hs3)).grown hst.2 (by omega) (fun k hk => by have := Option.some.inj hk; omega)⟩
              have HGG : Hid (w4.grownBy (w5.setCell ⟨w1.heap.size, q, none⟩ (.int .i64 (z + 1))) (some w1.heap.size)) := grown_trans (grown_new hgr.out hg5 (fun q hq => by cases hq)) hst.2
              clear hg5 HE5 hst e0 e1 z1 m0 m1 m2 p0 p1 p2 p3 hfs hwz
              go_wp2
              go_roundw
            all_goals first
              | (simp only [intOf]; omega)
              | exact ⟨i + 1, by omega, by go_num, HST.out, HGG.out⟩
          · obtain rfl : i = (facesM C).length := by omega
            have HL3 : Hid (W3.heap[w.heap.size]? = some (.cells #[.slice a C.length cap, .int .i64 loops, .slice (some ⟨gF, 0, none⟩) (2 * C.length + 1) cF, .slice (some ⟨gT, 0, none⟩) (2 * C.length + 1) cT] 117 (0, 0)) ∧ W3.ownsRow w0.heap.size 3 1 (.slice (some ⟨gP, 0, none⟩) C.length cP) C.length (intsV P) ∧ W3.ownsRow w1.heap.size 3 1 (.slice (some ⟨w1.heap.size, 0, none⟩) c c) c (intsV (exL (headsM C) P c C.length (headsM C).length)) ∧ Below w.heap.size w W3) := (by rw [headsM_len]; exact he.out : (W3.heap[w.heap.size]? = some (.cells #[.slice a C.length cap, .int .i64 loops, .slice (some ⟨gF, 0, none⟩) (2 * C.length + 1) cF, .slice (some ⟨gT, 0, none⟩) (2 * C.length + 1) cT] 117 (0, 0)) ∧ W3.ownsRow w0.heap.size 3 1 (.slice (some ⟨gP, 0, none⟩) C.length cP) C.length (intsV P) ∧ W3.ownsRow w1.heap.size 3 1 (.slice (some ⟨w1.heap.size, 0, none⟩) c c) c (intsV (exL (headsM C) P c C.length (headsM C).length)) ∧ Below w.heap.size w W3))
            clear he hgr
            go_wp2
            go_loopw [56] (fun v56 wr => ∃ i : Nat, i ≤ c ∧ v56 = .int .i64 (i : Nat) ∧ Hid (∀ p, p < i → exI C.length (headsM C) P p = 2) ∧ Below W3.heap.size W3 wr) (fun v56 _ => c - (intOf v56).toNat)
            case atStart => exact ⟨0, Nat.zero_le _, rfl, (fun p hp => absurd hp (Nat.not_lt_zero _) : ∀ p, p < 0 → exI C.length (headsM C) P p = 2), Below.refl _ _⟩
            case round =>
              rename World => W5
              obtain ⟨i, hic, rfl, hall, hb⟩ := hrel
              have hs5 := hb.size
              by_cases hil : i < c
              · obtain ⟨z, hz⟩ : ∃ z, exI C.length (headsM C) P i = z := ⟨_, rfl⟩
                have e0 : W5.cell? ⟨w1.heap.size, i, none⟩ = some (.int .i64 z) := by
                  have h := own_any HL3.out.2.2.1 (grown_below hb none)
                  rw [h.cellAt i (by omega), intsV_get _ i (by rw [exL_len]; exact hil), exL_ex C.length (headsM C) P c i hil, hz]
                have HZZ : Hid (exI C.length (headsM C) P i = z) := hz
                have HB5 : Hid (Below W3.heap.size W3 W5) := hb
                clear hz hb
                by_cases h2 : z = 2
                · have hde : (z != 2) = false := by simp [h2]
                  have HZ2 : Hid (z = 2) := h2
                  clear h2
                  go_wp2
                  go_roundw
                  case rel =>
                    refine ⟨i + 1, by omega, by go_num, (fun p hp => ?_ : ∀ p, p < i + 1 → exI C.length (headsM C) P p = 2), HB5.out⟩
                    by_cases e2 : p = i
                    · rw [e2, HZZ.out]; exact HZ2.out
                    · exact hall.out p (by omega)
                  case measure => simp only [intOf]; omega
                · have hde : (z != 2) = true := by simp [h2]
                  have HPB : Hid (planarB C = false) := (by
                    cases hb : planarB C with
                    | false => rfl
                    | true =>
                      have h := (planar_pieces HM.out HPC.out).1 hb i hil
                      rw [HZZ.out] at h
                      exact absurd h h2 : planarB C = false)
                  clear h2
                  go_wp2
                  go_ret
                  exact ⟨by rw [HPB.out]; rfl, HL3.out.2.2.2.trans (HB5.out.mono hs3)⟩
              · obtain rfl : i = c := by omega
                have HPB : Hid (planarB C = true) := ((planar_pieces HM.out HPC.out).2 hall.out : planarB C = true)
                go_wp2
                go_ret
                exact ⟨by rw [HPB.out]; rfl, HL3.out.2.2.2.trans (hb.mono hs3)⟩
end Go.Proofs.Ytdbpiggohncjiaa
/- The walks of code.May, code.Faces and code.Planar. -/
namespace Go.Proofs.Ytdbpiggohncjiaa
open Go.RowKit

theorem DartsOwn.low {w : World} {B B' : Nat} {v : Value} {L : List (List Nat)} (h : DartsOwn w B v L) (hB : B' ≤ B) : DartsOwn w B' v L := by
  obtain ⟨ys, h1, h2, h3⟩ := h
  exact ⟨ys, h1, own_low h2 hB, fun j hj => own_low (h3 j hj) hB⟩
theorem DartsOwn.any {w w' : World} {B : Nat} {v : Value} {L : List (List Nat)} (h : DartsOwn w B v L) (hg : w.grownBy w' none) : DartsOwn w' B v L := by
  obtain ⟨ys, h1, h2, h3⟩ := h
  exact ⟨ys, h1, own_any h2 hg, fun j hj => own_any (h3 j hj) hg⟩

set_option maxHeartbeats 2000000 in
set_option maxRecDepth 100000 in
theorem codeMay_any (v : Value) (C : List Cr) (loops : Int) (w : World) (h : Crs w w.heap.size v C) :
    Calls Try.prog 26 #[.agg #[v, .int .i64 loops]] w fun e w' => e = .returned (.bool (mayD C loops)) ∧ Below w.heap.size w w' := by
  have HC : Hid (Crs w w.heap.size v C) := h
  obtain ⟨a, cap, rfl, hn, -⟩ := h
  have HB1 : Hid (Below w.heap.size w (w.alloc (.cells #[.slice a C.length cap, .int .i64 loops] 35))) := (Below.refl _ _).alloc (Nat.le_refl _) _
  cases hm : mayD C loops with
  | false =>
    have HM : Hid (mayD C loops = false) := hm
    clear hm
    go_enter Try.func26, Try.ntmps26
    go_wp2_with (go_at_call 84; refine (of_any _ C loops _ (HC.out.up HB1.out)).mono ?_; rw [HM.out]; rintro e9 w2 ⟨d, rfl, hb2, hd⟩; rw [hd.no HM.out]; refine Hid.out ?_)
    refine Lib.hid ?_
    unfold noDrawing
    have HB2 : Hid (Below w.heap.size w w2) := HB1.out.trans (hb2.mono HB1.out.size)
    clear hb2 hd
    go_wp2
    go_ret
    exact ⟨rfl, HB2.out.alloc HB2.out.size _⟩
  | true =>
    have HM : Hid (mayD C loops = true) := hm
    clear hm
    go_enter Try.func26, Try.ntmps26
    go_wp2_with (go_at_call 84; refine (of_any _ C loops _ (HC.out.up HB1.out)).mono ?_; rw [HM.out]; rintro e9 w2 ⟨d, rfl, hb2, hd⟩; obtain ⟨gF, cF, gT, cT, rfl, -⟩ := hd.dr HM.out hb2 (HC.out.up HB1.out); refine Hid.out ?_)
    refine Lib.hid ?_
    unfold drV
    have HB2 : Hid (Below w.heap.size w w2) := HB1.out.trans (hb2.mono HB1.out.size)
    clear hb2 hd
    go_wp2
    go_ret
    exact ⟨rfl, HB2.out.alloc HB2.out.size _⟩

set_option maxHeartbeats 2000000 in
set_option maxRecDepth 100000 in
theorem faces_no (v : Value) (C : List Cr) (loops : Int) (w : World) (hm : mayD C loops = false) (h : Crs w w.heap.size v C) :
    Calls Try.prog 25 #[.agg #[v, .int .i64 loops]] w fun e w' => e = .returned (.tuple #[.slice none 0 0, .int .i64 7]) ∧ Below w.heap.size w w' := by
  have HC : Hid (Crs w w.heap.size v C) := h
  obtain ⟨a, cap, rfl, hn, -⟩ := h
  have HB1 : Hid (Below w.heap.size w (w.alloc (.cells #[.slice a C.length cap, .int .i64 loops] 35))) := (Below.refl _ _).alloc (Nat.le_refl _) _
  go_enter Try.func25, Try.ntmps25
  go_wp2_with (go_at_call 84; refine (of_any _ C loops _ (HC.out.up HB1.out)).mono ?_; rw [hm]; rintro e9 w2 ⟨d, rfl, hb2, hd⟩; rw [hd.no hm]; refine Hid.out ?_)
  refine Lib.hid ?_
  unfold noDrawing
  have HB2 : Hid (Below w.heap.size w w2) := HB1.out.trans (hb2.mono HB1.out.size)
  clear hb2 hd
  go_wp2
  go_ret2
  exact ⟨rfl, HB2.out.alloc HB2.out.size _⟩

set_option maxHeartbeats 2000000 in
set_option maxRecDepth 100000 in
theorem planar_no (v : Value) (C : List Cr) (loops : Int) (w : World) (hm : mayD C loops = false) (h : Crs w w.heap.size v C) :
    Calls Try.prog 31 #[.agg #[v, .int .i64 loops]] w fun e w' => e = .returned (.tuple #[.bool false, .int .i64 7]) ∧ Below w.heap.size w w' := by
  have HC : Hid (Crs w w.heap.size v C) := h
  obtain ⟨a, cap, rfl, hn, -⟩ := h
  have HB1 : Hid (Below w.heap.size w (w.alloc (.cells #[.slice a C.length cap, .int .i64 loops] 35))) := (Below.refl _ _).alloc (Nat.le_refl _) _
  go_enter Try.func31, Try.ntmps31
  go_wp2_with (go_at_call 84; refine (of_any _ C loops _ (HC.out.up HB1.out)).mono ?_; rw [hm]; rintro e9 w2 ⟨d, rfl, hb2, hd⟩; rw [hd.no hm]; refine Hid.out ?_)
  refine Lib.hid ?_
  unfold noDrawing
  have HB2 : Hid (Below w.heap.size w w2) := HB1.out.trans (hb2.mono HB1.out.size)
  clear hb2 hd
  go_wp2
  go_ret2
  exact ⟨rfl, HB2.out.alloc HB2.out.size _⟩

set_option maxHeartbeats 2000000 in
set_option maxRecDepth 100000 in
theorem faces_yes (hFR : FaceRingsOk) (v : Value) (C : List Cr) (loops : Int) (w : World) (hm : mayD C loops = true) (h : Crs w w.heap.size v C) :
    Calls Try.prog 25 #[.agg #[v, .int .i64 loops]] w fun e w' => ∃ r, e = .returned (.tuple #[r, .int .i64 0]) ∧ DartsOwn w' w.heap.size r (facesM C) ∧ Below w.heap.size w w' := by
  have HC : Hid (Crs w w.heap.size v C) := h
  have HFA : Hid FaceRingsOk := hFR
  have HM : Hid (mayD C loops = true) := hm
  obtain ⟨a, cap, rfl, hn, -⟩ := h
  have HB1 : Hid (Below w.heap.size w (w.alloc (.cells #[.slice a C.length cap, .int .i64 loops] 35))) := (Below.refl _ _).alloc (Nat.le_refl _) _
  go_enter Try.func25, Try.ntmps25
  go_wp2_with (go_at_call 84; refine (of_any _ C loops _ (HC.out.up HB1.out)).mono ?_; rw [hm]; rintro e9 w2 ⟨d, rfl, hb2, hd⟩; obtain ⟨gF, cF, gT, cT, rfl, hdr⟩ := hd.dr HM.out hb2 (HC.out.up HB1.out); refine Hid.out ?_)
  refine Lib.hid ?_
  have HDR : Hid (Dr w2 a cap C gF gT) := hdr
  unfold drV
  have HB2 : Hid (Below w.heap.size w w2) := HB1.out.trans (hb2.mono HB1.out.size)
  have HBA : Hid (Below w2.heap.size w2 (w2.alloc (.cells #[.slice a C.length cap, .int .i64 loops, .slice (some ⟨gF, 0, none⟩) (2 * C.length + 1) cF, .slice (some ⟨gT, 0, none⟩) (2 * C.length + 1) cT] 117))) := (Below.refl _ _).alloc (Nat.le_refl _) _
  clear hb2 hd hdr hm
  go_wp2_with (go_at_call 85; refine (HFA.out a cap C loops gF cF gT cT _ HM.out (HDR.out.on HBA.out)).mono ?_; rintro e9 w3 ⟨r, rfl, hr, hb3⟩; refine Hid.out ?_)
  refine Lib.hid ?_
  have HR : Hid (DartsOwn w3 w.heap.size r (facesM C)) := hr.low (by have := HB2.out.size; simp; omega)
  have HB3 : Hid (Below w.heap.size w w3) := (HB2.out.trans (HBA.out.mono HB2.out.size)).trans (hb3.mono (by have := HB2.out.size; simp; omega))
  clear hr hb3
  go_wp2
  go_ret2
  exact ⟨_, rfl, HR.out, HB3.out⟩

set_option maxHeartbeats 2000000 in
set_option maxRecDepth 100000 in
theorem planar_yes (hFR : FaceRingsOk) (v : Value) (C : List Cr) (loops : Int) (w : World) (hm : mayD C loops = true) (h : Crs w w.heap.size v C) :
    Calls Try.prog 31 #[.agg #[v, .int .i64 loops]] w fun e w' => e = .returned (.tuple #[.bool (planarB C), .int .i64 0]) ∧ Below w.heap.size w w' := by
  have HC : Hid (Crs w w.heap.size v C) := h
  have HFA : Hid FaceRingsOk := hFR
  have HM : Hid (mayD C loops = true) := hm
  obtain ⟨a, cap, rfl, hn, -⟩ := h
  have HB1 : Hid (Below w.heap.size w (w.alloc (.cells #[.slice a C.length cap, .int .i64 loops] 35))) := (Below.refl _ _).alloc (Nat.le_refl _) _
  go_enter Try.func31, Try.ntmps31
  go_wp2_with (go_at_call 84; refine (of_any _ C loops _ (HC.out.up HB1.out)).mono ?_; rw [hm]; rintro e9 w2 ⟨d, rfl, hb2, hd⟩; obtain ⟨gF, cF, gT, cT, rfl, hdr⟩ := hd.dr HM.out hb2 (HC.out.up HB1.out); refine Hid.out ?_)
  refine Lib.hid ?_
  have HDR : Hid (Dr w2 a cap C gF gT) := hdr
  unfold drV
  have HB2 : Hid (Below w.heap.size w w2) := HB1.out.trans (hb2.mono HB1.out.size)
  have HBA : Hid (Below w2.heap.size w2 (w2.alloc (.cells #[.slice a C.length cap, .int .i64 loops, .slice (some ⟨gF, 0, none⟩) (2 * C.length + 1) cF, .slice (some ⟨gT, 0, none⟩) (2 * C.length + 1) cT] 117))) := (Below.refl _ _).alloc (Nat.le_refl _) _
  clear hb2 hd hdr hm
  go_wp2_with (go_at_call 94; refine (onSphere_any HFA.out a cap C loops gF cF gT cT _ HM.out (HDR.out.on HBA.out)).mono ?_; rintro e9 w3 ⟨rfl, hb3⟩; refine Hid.out ?_)
  refine Lib.hid ?_
  have HB3 : Hid (Below w.heap.size w w3) := (HB2.out.trans (HBA.out.mono HB2.out.size)).trans (hb3.mono (by have := HB2.out.size; simp; omega))
  clear hb3
  go_wp2
  go_ret2
  exact ⟨rfl, HB3.out⟩

end Go.Proofs.Ytdbpiggohncjiaa
/- The walks of drawing.Flat and of ref.PlanarMay. -/
namespace Go.Proofs.Ytdbpiggohncjiaa
open Go.RowKit

/-- What is wrong with a diagram that shall lie on a sphere. -/
def noN (C : List Cr) (loops : Int) : Int := if mayD C loops = true then (if planarB C = true then 0 else 5) else 7

theorem Drawn.dr2 {w w' : World} {a : Option Addr} {cap : Nat} {loops : Int} {C : List Cr} {D : Value} (h : Drawn w w' w.heap.size (.slice a C.length cap) loops C D) (hm : mayD C loops = true) (hb : Below w.heap.size w w') (hC : Crs w w.heap.size (.slice a C.length cap) C) :
    ∃ gF cF gT cT, D = drV a cap C loops gF cF gT cT ∧ Dr w' a cap C gF gT ∧ w'.ownsRow w.heap.size 184 2 (.slice (some ⟨gF, 0, none⟩) (2 * C.length + 1) cF) (2 * C.length + 1) (flat (ends C false C.length 0)) ∧
    w'.ownsRow w.heap.size 184 2 (.slice (some ⟨gT, 0, none⟩) (2 * C.length + 1) cT) (2 * C.length + 1) (flat (ends C true C.length 0)) := by
  obtain ⟨gF, cF, gT, cT, rfl, h1, h2⟩ := h.yes hm
  exact ⟨gF, cF, gT, cT, rfl, ⟨hC.up hb, (h1.lt gF rfl).2, (h2.lt gT rfl).2, own_terms h1 (ends_length _ _ _ _), own_terms h2 (ends_length _ _ _ _)⟩, h1, h2⟩

set_option maxHeartbeats 2000000 in
set_option maxRecDepth 100000 in
theorem flat_no (v : Value) (C : List Cr) (loops : Int) (w : World) (hm : mayD C loops = false) (h : Crs w w.heap.size v C) :
    Calls Try.prog 177 #[.agg #[v, .int .i64 loops]] w fun e w' => e = .returned (.tuple #[noDrawing, .int .i64 7]) ∧ Below w.heap.size w w' := by
  have HC : Hid (Crs w w.heap.size v C) := h
  obtain ⟨a, cap, rfl, hn, -⟩ := h
  have HB1 : Hid (Below w.heap.size w ((w.alloc (.cells #[.slice a C.length cap, .int .i64 loops] 35)).alloc (.cells #[.slice none 0 0, .int .i64 0, .slice none 0 0, .slice none 0 0] 117))) := below2 _ _ _
  go_enter Try.func177, Try.ntmps177
  go_wp2_with (go_at_call 84; refine (of_any _ C loops _ (HC.out.up HB1.out)).mono ?_; rw [hm]; rintro e9 w2 ⟨d, rfl, hb2, hd⟩; rw [hd.no hm]; refine Hid.out ?_)
  refine Lib.hid ?_
  unfold noDrawing
  have HB2 : Hid (Below w.heap.size w w2) := HB1.out.trans (hb2.mono (by simp; omega))
  have hR : w2.heap[w.heap.size + 1]? = some (.cells #[.slice none 0 0, .int .i64 0, .slice none 0 0, .slice none 0 0] 117 (0, 0)) := (hb2.block _ (by simp)).trans (alloc_at (by simp))
  have hs2 : w.heap.size + 2 ≤ w2.heap.size := by have := hb2.size; simpa using this
  have HR : Hid (w2.heap[w.heap.size + 1]? = some (.cells #[.slice none 0 0, .int .i64 0, .slice none 0 0, .slice none 0 0] 117 (0, 0))) := hR
  have c0 : w2.cell? ⟨w.heap.size + 1, 0, none⟩ = some (.slice none 0 0) := block_cell hR rfl
  have c1 : w2.cell? ⟨w.heap.size + 1, 1, none⟩ = some (.int .i64 0) := block_cell hR rfl
  have c2 : w2.cell? ⟨w.heap.size + 1, 2, none⟩ = some (.slice none 0 0) := block_cell hR rfl
  have c3 : w2.cell? ⟨w.heap.size + 1, 3, none⟩ = some (.slice none 0 0) := block_cell hR rfl
  have f0 : w2.frozen? ⟨w.heap.size + 1, 0, none⟩ = false := block_frozen hR
  have f1 : w2.frozen? ⟨w.heap.size + 1, 1, none⟩ = false := block_frozen hR
  have f2 : w2.frozen? ⟨w.heap.size + 1, 2, none⟩ = false := block_frozen hR
  have f3 : w2.frozen? ⟨w.heap.size + 1, 3, none⟩ = false := block_frozen hR
  have l2 : w.heap.size + 1 < w2.heap.size := by omega
  clear hb2 hd hR
  go_wp2
  have hX := alloc_old (o := .cells #[.slice none 0 0, .int .i64 0, .slice none 0 0, .slice none 0 0] 117) (st4_block (a := .slice none 0 0) (b := .int .i64 0) (c := .slice none 0 0) (d := .slice none 0 0) HR.out)
  have x0 := block_cell (i := 0) (v := .slice none 0 0) hX rfl
  have x1 := block_cell (i := 1) (v := .int .i64 0) hX rfl
  have x2 := block_cell (i := 2) (v := .slice none 0 0) hX rfl
  have x3 := block_cell (i := 3) (v := .slice none 0 0) hX rfl
  unfold st4 at x0 x1 x2 x3
  have hbb := (HB2.out.grown (st4_grown w2 (w.heap.size + 1) (.slice none 0 0) (.int .i64 0) (.slice none 0 0) (.slice none 0 0)) HB2.out.size (fun k hk => by have := Option.some.inj hk; omega)).alloc (Nat.le_trans HB2.out.size (st4_grown w2 (w.heap.size + 1) (.slice none 0 0) (.int .i64 0) (.slice none 0 0) (.slice none 0 0)).size) (.cells #[.slice none 0 0, .int .i64 0, .slice none 0 0, .slice none 0 0] 117)
  exact bodyPost_ret (v := .tuple #[.agg #[.slice none 0 0, .int .i64 0, .slice none 0 0, .slice none 0 0], .int .i64 7]) (by simp [results, Try.results177, go_sem, x0, x1, x2, x3]) rfl ⟨rfl, hbb⟩

set_option maxHeartbeats 4000000 in
set_option maxRecDepth 100000 in
theorem flat_bad (hFR : FaceRingsOk) (v : Value) (C : List Cr) (loops : Int) (w : World) (hm : mayD C loops = true) (hp : planarB C = false) (h : Crs w w.heap.size v C) :
    Calls Try.prog 177 #[.agg #[v, .int .i64 loops]] w fun e w' => e = .returned (.tuple #[noDrawing, .int .i64 5]) ∧ Below w.heap.size w w' := by
  have HC : Hid (Crs w w.heap.size v C) := h
  have HFA : Hid FaceRingsOk := hFR
  have HM : Hid (mayD C loops = true) := hm
  have HP : Hid (planarB C = false) := hp
  obtain ⟨a, cap, rfl, hn, -⟩ := h
  have HB1 : Hid (Below w.heap.size w ((w.alloc (.cells #[.slice a C.length cap, .int .i64 loops] 35)).alloc (.cells #[.slice none 0 0, .int .i64 0, .slice none 0 0, .slice none 0 0] 117))) := below2 _ _ _
  go_enter Try.func177, Try.ntmps177
  go_wp2_with (go_at_call 84; refine (of_any _ C loops _ (HC.out.up HB1.out)).mono ?_; rw [hm]; rintro e9 w2 ⟨d, rfl, hb2, hd⟩; obtain ⟨gF, cF, gT, cT, rfl, hdr⟩ := hd.dr HM.out hb2 (HC.out.up HB1.out); refine Hid.out ?_)
  refine Lib.hid ?_
  have HDR : Hid (Dr w2 a cap C gF gT) := hdr
  unfold drV
  have HB2 : Hid (Below w.heap.size w w2) := HB1.out.trans (hb2.mono (by simp; omega))
  have hR : w2.heap[w.heap.size + 1]? = some (.cells #[.slice none 0 0, .int .i64 0, .slice none 0 0, .slice none 0 0] 117 (0, 0)) := (hb2.block _ (by simp)).trans (alloc_at (by simp))
  have hs2 : w.heap.size + 2 ≤ w2.heap.size := by have := hb2.size; simpa using this
  have HR : Hid (w2.heap[w.heap.size + 1]? = some (.cells #[.slice none 0 0, .int .i64 0, .slice none 0 0, .slice none 0 0] 117 (0, 0))) := hR
  have HBA : Hid (Below w2.heap.size w2 (w2.alloc (.cells #[.slice a C.length cap, .int .i64 loops, .slice (some ⟨gF, 0, none⟩) (2 * C.length + 1) cF, .slice (some ⟨gT, 0, none⟩) (2 * C.length + 1) cT] 117))) := (Below.refl _ _).alloc (Nat.le_refl _) _
  clear hb2 hd hdr hm hR hp
  go_wp2_with (go_at_call 94; refine (onSphere_any HFA.out a cap C loops gF cF gT cT _ HM.out (HDR.out.on HBA.out)).mono ?_; rw [HP.out]; rintro e9 w3 ⟨rfl, hb3⟩; refine Hid.out ?_)
  refine Lib.hid ?_
  have HB23 : Hid (Below w2.heap.size w2 w3) := HBA.out.trans (hb3.mono (by simp))
  have HB3 : Hid (Below w.heap.size w w3) := HB2.out.trans (HB23.out.mono HB2.out.size)
  have hR : w3.heap[w.heap.size + 1]? = some (.cells #[.slice none 0 0, .int .i64 0, .slice none 0 0, .slice none 0 0] 117 (0, 0)) := (HB23.out.block _ (by omega)).trans HR.out
  have hQ : w3.heap[w2.heap.size]? = some (.cells #[.slice a C.length cap, .int .i64 loops, .slice (some ⟨gF, 0, none⟩) (2 * C.length + 1) cF, .slice (some ⟨gT, 0, none⟩) (2 * C.length + 1) cT] 117 (0, 0)) := (hb3.block _ (by simp)).trans (alloc_at rfl)
  have hs3 : w2.heap.size + 1 ≤ w3.heap.size := by have := hb3.size; simpa using this
  have HR3 : Hid (w3.heap[w.heap.size + 1]? = some (.cells #[.slice none 0 0, .int .i64 0, .slice none 0 0, .slice none 0 0] 117 (0, 0))) := hR
  have c0 : w3.cell? ⟨w.heap.size + 1, 0, none⟩ = some (.slice none 0 0) := block_cell hR rfl
  have c1 : w3.cell? ⟨w.heap.size + 1, 1, none⟩ = some (.int .i64 0) := block_cell hR rfl
  have c2 : w3.cell? ⟨w.heap.size + 1, 2, none⟩ = some (.slice none 0 0) := block_cell hR rfl
  have c3 : w3.cell? ⟨w.heap.size + 1, 3, none⟩ = some (.slice none 0 0) := block_cell hR rfl
  have f0 : w3.frozen? ⟨w.heap.size + 1, 0, none⟩ = false := block_frozen hR
  have f1 : w3.frozen? ⟨w.heap.size + 1, 1, none⟩ = false := block_frozen hR
  have f2 : w3.frozen? ⟨w.heap.size + 1, 2, none⟩ = false := block_frozen hR
  have f3 : w3.frozen? ⟨w.heap.size + 1, 3, none⟩ = false := block_frozen hR
  have d0 : w3.cell? ⟨w2.heap.size, 0, none⟩ = some (.slice a C.length cap) := block_cell hQ rfl
  have d1 : w3.cell? ⟨w2.heap.size, 1, none⟩ = some (.int .i64 loops) := block_cell hQ rfl
  have d2 : w3.cell? ⟨w2.heap.size, 2, none⟩ = some (.slice (some ⟨gF, 0, none⟩) (2 * C.length + 1) cF) := block_cell hQ rfl
  have d3 : w3.cell? ⟨w2.heap.size, 3, none⟩ = some (.slice (some ⟨gT, 0, none⟩) (2 * C.length + 1) cT) := block_cell hQ rfl
  have l2 : w.heap.size + 1 < w3.heap.size := by omega
  have l3 : w2.heap.size < w3.heap.size := by omega
  clear hb3 hR hQ
  go_wp2
  have hG := st4_grown w3 (w.heap.size + 1) (.slice none 0 0) (.int .i64 0) (.slice none 0 0) (.slice none 0 0)
  have hX := st4_block (a := .slice none 0 0) (b := .int .i64 0) (c := .slice none 0 0) (d := .slice none 0 0) HR3.out
  have x0 := block_cell (i := 0) (v := .slice none 0 0) hX rfl
  have x1 := block_cell (i := 1) (v := .int .i64 0) hX rfl
  have x2 := block_cell (i := 2) (v := .slice none 0 0) hX rfl
  have x3 := block_cell (i := 3) (v := .slice none 0 0) hX rfl
  have hbb := HB3.out.grown hG HB3.out.size (fun k hk => by have := Option.some.inj hk; omega)
  unfold st4 at x0 x1 x2 x3
  exact bodyPost_ret (v := .tuple #[.agg #[.slice none 0 0, .int .i64 0, .slice none 0 0, .slice none 0 0], .int .i64 5]) (by simp [results, Try.results177, go_sem, x0, x1, x2, x3]) rfl ⟨rfl, hbb⟩

set_option maxHeartbeats 4000000 in
set_option maxRecDepth 100000 in
theorem flat_yes (hFR : FaceRingsOk) (v : Value) (C : List Cr) (loops : Int) (w : World) (hm : mayD C loops = true) (hp : planarB C = true) (h : Crs w w.heap.size v C) :
    Calls Try.prog 177 #[.agg #[v, .int .i64 loops]] w fun e w' => ∃ a cap gF cF gT cT, e = .returned (.tuple #[drV a cap C loops gF cF gT cT, .int .i64 0]) ∧ Dr w' a cap C gF gT ∧ Below w.heap.size w w' := by
  have HC : Hid (Crs w w.heap.size v C) := h
  have HFA : Hid FaceRingsOk := hFR
  have HM : Hid (mayD C loops = true) := hm
  have HP : Hid (planarB C = true) := hp
  obtain ⟨a, cap, rfl, hn, -⟩ := h
  have HB1 : Hid (Below w.heap.size w ((w.alloc (.cells #[.slice a C.length cap, .int .i64 loops] 35)).alloc (.cells #[.slice none 0 0, .int .i64 0, .slice none 0 0, .slice none 0 0] 117))) := below2 _ _ _
  go_enter Try.func177, Try.ntmps177
  go_wp2_with (go_at_call 84; refine (of_any _ C loops _ (HC.out.up HB1.out)).mono ?_; rw [hm]; rintro e9 w2 ⟨d, rfl, hb2, hd⟩; obtain ⟨gF, cF, gT, cT, rfl, hdr, hF, hT⟩ := hd.dr2 HM.out hb2 (HC.out.up HB1.out); refine Hid.out ?_)
  refine Lib.hid ?_
  have HDR : Hid (Dr w2 a cap C gF gT) := hdr
  have HF : Hid (w2.ownsRow (w.heap.size + 2) 184 2 (.slice (some ⟨gF, 0, none⟩) (2 * C.length + 1) cF) (2 * C.length + 1) (flat (ends C false C.length 0))) := own_low hF (by simp)
  have HT : Hid (w2.ownsRow (w.heap.size + 2) 184 2 (.slice (some ⟨gT, 0, none⟩) (2 * C.length + 1) cT) (2 * C.length + 1) (flat (ends C true C.length 0))) := own_low hT (by simp)
  unfold drV
  have HB2 : Hid (Below w.heap.size w w2) := HB1.out.trans (hb2.mono (by simp; omega))
  have hR : w2.heap[w.heap.size + 1]? = some (.cells #[.slice none 0 0, .int .i64 0, .slice none 0 0, .slice none 0 0] 117 (0, 0)) := (hb2.block _ (by simp)).trans (alloc_at (by simp))
  have hs2 : w.heap.size + 2 ≤ w2.heap.size := by have := hb2.size; simpa using this
  have HR : Hid (w2.heap[w.heap.size + 1]? = some (.cells #[.slice none 0 0, .int .i64 0, .slice none 0 0, .slice none 0 0] 117 (0, 0))) := hR
  have HBA : Hid (Below w2.heap.size w2 (w2.alloc (.cells #[.slice a C.length cap, .int .i64 loops, .slice (some ⟨gF, 0, none⟩) (2 * C.length + 1) cF, .slice (some ⟨gT, 0, none⟩) (2 * C.length + 1) cT] 117))) := (Below.refl _ _).alloc (Nat.le_refl _) _
  clear hb2 hd hdr hm hR hp hF hT
  go_wp2_with (go_at_call 94; refine (onSphere_any HFA.out a cap C loops gF cF gT cT _ HM.out (HDR.out.on HBA.out)).mono ?_; rw [HP.out]; rintro e9 w3 ⟨rfl, hb3⟩; refine Hid.out ?_)
  refine Lib.hid ?_
  have HB23 : Hid (Below w2.heap.size w2 w3) := HBA.out.trans (hb3.mono (by simp))
  have HB3 : Hid (Below w.heap.size w w3) := HB2.out.trans (HB23.out.mono HB2.out.size)
  have hR : w3.heap[w.heap.size + 1]? = some (.cells #[.slice none 0 0, .int .i64 0, .slice none 0 0, .slice none 0 0] 117 (0, 0)) := (HB23.out.block _ (by omega)).trans HR.out
  have hQ : w3.heap[w2.heap.size]? = some (.cells #[.slice a C.length cap, .int .i64 loops, .slice (some ⟨gF, 0, none⟩) (2 * C.length + 1) cF, .slice (some ⟨gT, 0, none⟩) (2 * C.length + 1) cT] 117 (0, 0)) := (hb3.block _ (by simp)).trans (alloc_at rfl)
  have hs3 : w2.heap.size + 1 ≤ w3.heap.size := by have := hb3.size; simpa using this
  have HR3 : Hid (w3.heap[w.heap.size + 1]? = some (.cells #[.slice none 0 0, .int .i64 0, .slice none 0 0, .slice none 0 0] 117 (0, 0))) := hR
  have c0 : w3.cell? ⟨w.heap.size + 1, 0, none⟩ = some (.slice none 0 0) := block_cell hR rfl
  have c1 : w3.cell? ⟨w.heap.size + 1, 1, none⟩ = some (.int .i64 0) := block_cell hR rfl
  have c2 : w3.cell? ⟨w.heap.size + 1, 2, none⟩ = some (.slice none 0 0) := block_cell hR rfl
  have c3 : w3.cell? ⟨w.heap.size + 1, 3, none⟩ = some (.slice none 0 0) := block_cell hR rfl
  have f0 : w3.frozen? ⟨w.heap.size + 1, 0, none⟩ = false := block_frozen hR
  have f1 : w3.frozen? ⟨w.heap.size + 1, 1, none⟩ = false := block_frozen hR
  have f2 : w3.frozen? ⟨w.heap.size + 1, 2, none⟩ = false := block_frozen hR
  have f3 : w3.frozen? ⟨w.heap.size + 1, 3, none⟩ = false := block_frozen hR
  have d0 : w3.cell? ⟨w2.heap.size, 0, none⟩ = some (.slice a C.length cap) := block_cell hQ rfl
  have d1 : w3.cell? ⟨w2.heap.size, 1, none⟩ = some (.int .i64 loops) := block_cell hQ rfl
  have d2 : w3.cell? ⟨w2.heap.size, 2, none⟩ = some (.slice (some ⟨gF, 0, none⟩) (2 * C.length + 1) cF) := block_cell hQ rfl
  have d3 : w3.cell? ⟨w2.heap.size, 3, none⟩ = some (.slice (some ⟨gT, 0, none⟩) (2 * C.length + 1) cT) := block_cell hQ rfl
  have l2 : w.heap.size + 1 < w3.heap.size := by omega
  have l3 : w2.heap.size < w3.heap.size := by omega
  clear hb3 hR hQ
  go_wp2
  have hG := st4_grown w3 (w.heap.size + 1) (.slice a C.length cap) (.int .i64 loops) (.slice (some ⟨gF, 0, none⟩) (2 * C.length + 1) cF) (.slice (some ⟨gT, 0, none⟩) (2 * C.length + 1) cT)
  have hX := st4_block (a := .slice a C.length cap) (b := .int .i64 loops) (c := .slice (some ⟨gF, 0, none⟩) (2 * C.length + 1) cF) (d := .slice (some ⟨gT, 0, none⟩) (2 * C.length + 1) cT) HR3.out
  have x0 := block_cell (i := 0) (v := .slice a C.length cap) hX rfl
  have x1 := block_cell (i := 1) (v := .int .i64 loops) hX rfl
  have x2 := block_cell (i := 2) (v := .slice (some ⟨gF, 0, none⟩) (2 * C.length + 1) cF) hX rfl
  have x3 := block_cell (i := 3) (v := .slice (some ⟨gT, 0, none⟩) (2 * C.length + 1) cT) hX rfl
  have hbb := HB3.out.grown hG HB3.out.size (fun k hk => by have := Option.some.inj hk; omega)
  unfold st4 at x0 x1 x2 x3
  refine bodyPost_ret (v := .tuple #[.agg #[.slice a C.length cap, .int .i64 loops, .slice (some ⟨gF, 0, none⟩) (2 * C.length + 1) cF, .slice (some ⟨gT, 0, none⟩) (2 * C.length + 1) cT], .int .i64 0]) (by simp [results, Try.results177, go_sem, x0, x1, x2, x3]) rfl ⟨a, cap, gF, cF, gT, cT, rfl, ?_, hbb⟩
  have hn := grown_below HB23.out none
  have gF2 := (own_any HF.out hn).kept hG (Or.inr (fun e => by have h1 := (HF.out.lt gF rfl).1; have h2 : gF = w.heap.size + 1 := Option.some.inj e; omega))
  have gT2 := (own_any HT.out hn).kept hG (Or.inr (fun e => by have h1 := (HT.out.lt gT rfl).1; have h2 : gT = w.heap.size + 1 := Option.some.inj e; omega))
  exact ⟨HC.out.up hbb, (gF2.lt gF rfl).2, (gT2.lt gT rfl).2, own_terms gF2 (ends_length _ _ _ _), own_terms gT2 (ends_length _ _ _ _)⟩

set_option maxHeartbeats 4000000 in
set_option maxRecDepth 100000 in
theorem planarMay_any (v : Value) (C : List Cr) (loops : Int) (w : World) (h : Crs w w.heap.size v C) :
    Calls Try.prog 52 #[.agg #[v, .int .i64 loops]] w fun e w' => e = .returned (.int .i64 (noN C loops)) ∧ Below w.heap.size w w' := by
  have HC : Hid (Crs w w.heap.size v C) := h
  obtain ⟨a, cap, rfl, hn, -⟩ := h
  have HB1 : Hid (Below w.heap.size w (w.alloc (.cells #[.slice a C.length cap, .int .i64 loops] 35))) := (Below.refl _ _).alloc (Nat.le_refl _) _
  have HK : Hid (∀ w', Below (w.heap.size + 1) (w.alloc (.cells #[.slice a C.length cap, .int .i64 loops] 35)) w' → w'.cell? ⟨w.heap.size, 0, none⟩ = some (.slice a C.length cap) ∧ w'.cell? ⟨w.heap.size, 1, none⟩ = some (.int .i64 loops)) := fun w' hb => by
    have g := (hb.block w.heap.size (by omega)).trans (alloc_at rfl)
    exact ⟨block_cell g rfl, block_cell g rfl⟩
  cases hm : mayD C loops with
  | false =>
    have hN : noN C loops = 7 := by unfold noN; rw [hm]; rfl
    rw [hN]
    go_enter Try.func52, Try.ntmps52
    go_wp2_with (go_at_call 34; refine (may17_any _ C loops _ (HC.out.up HB1.out)).mono ?_; rw [hm]; rintro e9 w2 ⟨rfl, hb2⟩; have HB2 : Hid (Below w.heap.size w w2) := HB1.out.trans (hb2.mono HB1.out.size); clear hb2)
    go_ret
    exact ⟨rfl, HB2.out⟩
  | true =>
    have HM : Hid (mayD C loops = true) := hm
    cases hp : planarB C with
    | false =>
      have hN : noN C loops = 5 := by unfold noN; rw [hm, hp]; rfl
      rw [hN]
      go_enter Try.func52, Try.ntmps52
      go_wp2_with (first
        | (go_at_call 34; refine (may17_any _ C loops _ (HC.out.up HB1.out)).mono ?_; rw [hm]; rintro e9 w2 ⟨rfl, hb2⟩; have HB2 : Hid (Below w.heap.size w w2) := HB1.out.trans (hb2.mono HB1.out.size); obtain ⟨k0, k1⟩ := HK.out w2 (hb2.mono (by simp)); clear hb2)
        | (go_at_call 108; refine (planarIs_any a cap C loops _ HM.out (HC.out.up HB2.out)).mono ?_; rw [hp]; rintro e9 w3 ⟨rfl, hb3⟩; have HB3 : Hid (Below w.heap.size w w3) := HB2.out.trans (hb3.mono HB2.out.size); clear hb3))
      go_ret
      exact ⟨rfl, HB3.out⟩
    | true =>
      have hN : noN C loops = 0 := by unfold noN; rw [hm, hp]; rfl
      rw [hN]
      go_enter Try.func52, Try.ntmps52
      go_wp2_with (first
        | (go_at_call 34; refine (may17_any _ C loops _ (HC.out.up HB1.out)).mono ?_; rw [hm]; rintro e9 w2 ⟨rfl, hb2⟩; have HB2 : Hid (Below w.heap.size w w2) := HB1.out.trans (hb2.mono HB1.out.size); obtain ⟨k0, k1⟩ := HK.out w2 (hb2.mono (by simp)); clear hb2)
        | (go_at_call 108; refine (planarIs_any a cap C loops _ HM.out (HC.out.up HB2.out)).mono ?_; rw [hp]; rintro e9 w3 ⟨rfl, hb3⟩; have HB3 : Hid (Below w.heap.size w w3) := HB2.out.trans (hb3.mono HB2.out.size); clear hb3))
      go_ret
      exact ⟨rfl, HB3.out⟩
theorem noN_zero {C : List Cr} {loops : Int} (h : noN C loops = 0) : mayD C loops = true ∧ planarB C = true := by
  unfold noN at h
  by_cases hm : mayD C loops = true
  · rw [if_pos hm] at h
    by_cases hp : planarB C = true
    · exact ⟨hm, hp⟩
    · rw [if_neg hp] at h; omega
  · rw [if_neg hm] at h; omega
theorem flat_not (hFR : FaceRingsOk) (a : Option Addr) (cap : Nat) (C : List Cr) (loops : Int) (W : World) (hn : noN C loops ≠ 0) (hW : Crs W W.heap.size (.slice a C.length cap) C) :
    Calls Try.prog 177 #[.agg #[.slice a C.length cap, .int .i64 loops]] W fun e w' => e = .returned (.tuple #[noDrawing, .int .i64 (noN C loops)]) ∧ Below W.heap.size W w' := by
  unfold noN at hn ⊢
  cases hm : mayD C loops with
  | false => exact flat_no _ C loops W hm hW
  | true =>
    cases hp : planarB C with
    | false => exact flat_bad hFR _ C loops W hm hp hW
    | true => rw [hm, hp] at hn; exact absurd rfl hn
end Go.Proofs.Ytdbpiggohncjiaa
/- The walks of colour.lowestArcs and colour.overpasses. -/
namespace Go.Proofs.Ytdbpiggohncjiaa
open Go.RowKit

theorem cut_one {T G : Prop} (h : Hid T → G) (hT : T) : G := h hT
/-- Merged in the first k places. -/
def merTo (W : List Nat) (x y k : Nat) : List Nat := (List.range W.length).map fun v => if v < k then (mer W x y).getD v 0 else W.getD v 0
theorem merTo_len (W : List Nat) (x y k : Nat) : (merTo W x y k).length = W.length := by simp [merTo]
theorem merTo_at (W : List Nat) (x y k v : Nat) (hv : v < W.length) : (merTo W x y k).getD v 0 = if v < k then (mer W x y).getD v 0 else W.getD v 0 := by simp [merTo, List.getD_eq_getElem?_getD, hv]
theorem getD_ext {l m : List Nat} (h : l.length = m.length) (g : ∀ v, v < l.length → l.getD v 0 = m.getD v 0) : l = m := by
  refine List.ext_getElem h fun i h1 h2 => ?_
  have := g i h1
  simpa [List.getD_eq_getElem?_getD, h1, h2] using this
theorem merTo_zero (W : List Nat) (x y : Nat) : merTo W x y 0 = W := getD_ext (merTo_len _ _ _ _) fun v hv => by
  rw [merTo_len] at hv; rw [merTo_at _ _ _ _ _ hv, if_neg (by omega)]
theorem merTo_all (W : List Nat) (x y : Nat) : merTo W x y W.length = mer W x y := getD_ext (by rw [merTo_len, mer_len]) fun v hv => by
  rw [merTo_len] at hv; rw [merTo_at _ _ _ _ _ hv, if_pos hv]
theorem merTo_next (W : List Nat) (x y k z : Nat) (hk : k < W.length) (hz : (mer W x y).getD k 0 = z) : (merTo W x y k).set k z = merTo W x y (k + 1) := getD_ext (by simp [merTo_len]) fun v hv => by
  have hv' : v < W.length := by simpa [merTo_len] using hv
  rw [getD_set _ _ _ _ (by rw [merTo_len]; exact hk), merTo_at _ _ _ _ _ hv', merTo_at _ _ _ _ _ hv']
  by_cases e : v = k
  · subst e; rw [if_pos rfl, if_pos (by omega), hz]
  · rw [if_neg e]
    by_cases h2 : v < k
    · rw [if_pos h2, if_pos (by omega)]
    · rw [if_neg h2, if_neg (by omega)]
theorem merTo_same (W : List Nat) (x y k : Nat) (hk : k < W.length) (hz : (mer W x y).getD k 0 = W.getD k 0) : merTo W x y k = merTo W x y (k + 1) := getD_ext (by simp [merTo_len]) fun v hv => by
  have hv' : v < W.length := by simpa [merTo_len] using hv
  rw [merTo_at _ _ _ _ _ hv', merTo_at _ _ _ _ _ hv']
  by_cases e : v = k
  · subst e; rw [if_neg (by omega), if_pos (by omega), hz]
  · by_cases h2 : v < k
    · rw [if_pos h2, if_pos (by omega)]
    · rw [if_neg h2, if_neg (by omega)]
theorem mers_ov (V : List Nat) (C : List Cr) (i : Nat) (hi : i < C.length) : mers V ((ovE C).take (i + 1)) = mer (mers V ((ovE C).take i)) (C.getD i Cr.none).b.toNat (C.getD i Cr.none).d.toNat := by
  rw [ovE_next C i hi, mers_app]
  rfl
theorem mers_len (E : List (Nat × Nat)) : ∀ W : List Nat, (mers W E).length = W.length := by
  induction E with
  | nil => intro W; rfl
  | cons e E ih => intro W; rw [mers, ih, mer_len]

set_option maxHeartbeats 16000000 in
set_option maxRecDepth 100000 in
theorem lowestArcs_any (a : Option Addr) (cap : Nat) (C : List Cr) (loops : Int) (gF cF gT cT : Nat) (w : World) (hm : mayD C loops = true) (hD : Dr w a cap C gF gT) :
    Calls Try.prog 209 #[drV a cap C loops gF cF gT cT] w fun e w' => ∃ g, e = .returned (.slice (some ⟨g, 0, none⟩) (2 * C.length + 1) (2 * C.length + 1)) ∧ w'.ownsRow w.heap.size 3 1 (.slice (some ⟨g, 0, none⟩) (2 * C.length + 1) (2 * C.length + 1)) (2 * C.length + 1) (nats (lowM C)) ∧ Below w.heap.size w w' := by
  obtain ⟨s1, -, -, -⟩ := sizeB_iff (may_size hm)
  obtain ⟨i2, hk, hx0, hx1, hx2⟩ := info_parts infoInt
  have HM : Hid (mayD C loops = true) := hm
  have HD : Hid (Dr w a cap C gF gT) := hD
  unfold drV
  obtain ⟨N, hN⟩ : ∃ N, N = 2 * C.length + 1 := ⟨_, rfl⟩
  have HN : Hid (N = 2 * C.length + 1) := hN
  have hN1 : 1 ≤ N := by omega
  have hN2 : N ≤ 33 := by omega
  rw [← hN]
  clear hN hm hD
  obtain ⟨w0, hw0⟩ : ∃ w0, w0 = w.alloc (.cells #[.slice a C.length cap, .int .i64 loops, .slice (some ⟨gF, 0, none⟩) N cF, .slice (some ⟨gT, 0, none⟩) N cT] 117) := ⟨_, rfl⟩
  have HW0 : Hid (w0 = w.alloc (.cells #[.slice a C.length cap, .int .i64 loops, .slice (some ⟨gF, 0, none⟩) N cF, .slice (some ⟨gT, 0, none⟩) N cT] 117)) := hw0
  have hs0 : w0.heap.size = w.heap.size + 1 := by rw [hw0]; simp
  have HB0 : Hid (Below w.heap.size w w0) := (by rw [hw0]; exact (Below.refl _ _).alloc (Nat.le_refl _) _ : Below w.heap.size w w0)
  have HT0 : Hid (w0.heap[w.heap.size]? = some (.cells #[.slice a C.length cap, .int .i64 loops, .slice (some ⟨gF, 0, none⟩) N cF, .slice (some ⟨gT, 0, none⟩) N cT] 117 (0, 0))) := (by rw [hw0]; exact alloc_at rfl : w0.heap[w.heap.size]? = some (.cells #[.slice a C.length cap, .int .i64 loops, .slice (some ⟨gF, 0, none⟩) N cF, .slice (some ⟨gT, 0, none⟩) N cT] 117 (0, 0)))
  clear hw0
  go_enter Try.func209, Try.ntmps209
  go_wp2_with (first | (at_make; refine wpList_make_full _ rfl _ _ 52 rfl (w.heap.size + 1) 3 i2 (.int .i64 0) 1 Try.underlying52 hk hx0 hx1 .i64 .i64 _ _ N rfl rfl rfl rfl (by rw [hx2]; omega) (by unfold maxLen; omega) (by simp) ?_; intro w1 hrow hg1; refine Hid.out ?_))
  refine Lib.hid ?_
  rw [← HW0.out] at hrow hg1
  rw [made_zeroN, hs0, labTo_zero] at hrow
  have HP0 : Hid (w1.heap[w.heap.size]? = some (.cells #[.slice a C.length cap, .int .i64 loops, .slice (some ⟨gF, 0, none⟩) N cF, .slice (some ⟨gT, 0, none⟩) N cT] 117 (0, 0)) ∧ w1.ownsRow (w.heap.size + 1) 3 1 (.slice (some ⟨w.heap.size + 1, 0, none⟩) N N) N (nats (labTo N 0)) ∧ Below w.heap.size w w1) := ⟨(hg1.block _ (by omega) (by simp)).trans HT0.out, hrow, HB0.out.grown hg1 (by omega) (fun k hk => by cases hk)⟩
  clear hrow hg1 HT0 HB0 hs0 HW0
  go_wp2
  go_loopw [16] (fun v5 wr => ∃ i : Nat, i ≤ N ∧ v5 = .int .i64 (i : Nat) ∧ Hid (wr.heap[w.heap.size]? = some (.cells #[.slice a C.length cap, .int .i64 loops, .slice (some ⟨gF, 0, none⟩) N cF, .slice (some ⟨gT, 0, none⟩) N cT] 117 (0, 0)) ∧ wr.ownsRow (w.heap.size + 1) 3 1 (.slice (some ⟨w.heap.size + 1, 0, none⟩) N N) N (nats (labTo N i)) ∧ Below w.heap.size w wr)) (fun v5 _ => N - (intOf v5).toNat)
  case atStart => exact ⟨0, Nat.zero_le _, rfl, HP0.out⟩
  case round =>
    clear HP0
    rename World => W1
    obtain ⟨i, hin, rfl, hp⟩ := hrel
    have hlt := hp.out.2.1.lt (w.heap.size + 1) rfl
    by_cases hil : i < N
    · have hst := hp.out.2.1.stored i (.int .i64 (i : Nat))
      rw [nats_set, labTo_next] at hst
      have HST : Hid ((W1.setCell ⟨w.heap.size + 1, i, none⟩ (.int .i64 (i : Nat))).heap[w.heap.size]? = some (.cells #[.slice a C.length cap, .int .i64 loops, .slice (some ⟨gF, 0, none⟩) N cF, .slice (some ⟨gT, 0, none⟩) N cT] 117 (0, 0)) ∧ (W1.setCell ⟨w.heap.size + 1, i, none⟩ (.int .i64 (i : Nat))).ownsRow (w.heap.size + 1) 3 1 (.slice (some ⟨w.heap.size + 1, 0, none⟩) N N) N (nats (labTo N (i + 1))) ∧ Below w.heap.size w (W1.setCell ⟨w.heap.size + 1, i, none⟩ (.int .i64 (i : Nat)))) := ⟨(hst.2.block _ (by omega) (fun e => by have : w.heap.size = w.heap.size + 1 := Option.some.inj e; omega)).trans hp.out.1, hst.1, hp.out.2.2.grown hst.2 hp.out.2.2.size (fun q hq => by have := Option.some.inj hq; omega)⟩
      have e0 : W1.cell? ⟨w.heap.size + 1, i, none⟩ = some (.int .i64 ((labTo N i).getD i 0 : Nat)) := by
        rw [hp.out.2.1.cellAt i (by omega)]; exact nats_get _ i (by simp [labTo]; omega)
      have z0 : W1.frozen? ⟨w.heap.size + 1, i, none⟩ = false := hp.out.2.1.frozenAt i
      have hdi : (i : Int) ≤ 2 * (C.length : Int) := by have := HN.out; omega
      clear hst
      go_wp2
      go_roundw
      case rel => exact ⟨i + 1, by omega, by go_num, HST.out⟩
      case measure => simp only [intOf]; omega
    · obtain rfl : N = i := by omega
      have HP1 : Hid (W1.heap[w.heap.size]? = some (.cells #[.slice a C.length cap, .int .i64 loops, .slice (some ⟨gF, 0, none⟩) N cF, .slice (some ⟨gT, 0, none⟩) N cT] 117 (0, 0)) ∧ W1.ownsRow (w.heap.size + 1) 3 1 (.slice (some ⟨w.heap.size + 1, 0, none⟩) N N) N (nats (mers (List.range N) ((ovE C).take 0))) ∧ Below w.heap.size w W1) := (by have h := hp.out; rw [labTo_all] at h; exact h : W1.heap[w.heap.size]? = some (.cells #[.slice a C.length cap, .int .i64 loops, .slice (some ⟨gF, 0, none⟩) N cF, .slice (some ⟨gT, 0, none⟩) N cT] 117 (0, 0)) ∧ W1.ownsRow (w.heap.size + 1) 3 1 (.slice (some ⟨w.heap.size + 1, 0, none⟩) N N) N (nats (mers (List.range N) ((ovE C).take 0))) ∧ Below w.heap.size w W1)
      have t0 : W1.cell? ⟨w.heap.size, 0, none⟩ = some (.slice a C.length cap) := block_cell hp.out.1 rfl
      have hdn : decide ((N : Int) < (N : Int)) = false := by simp
      have hdn2 : decide (N < N) = false := by simp
      clear hp
      go_wp2
      go_loopw [28] (fun v28 wr => ∃ k : Nat, k ≤ C.length ∧ v28 = .int .i64 (k : Nat) ∧ Hid (wr.heap[w.heap.size]? = some (.cells #[.slice a C.length cap, .int .i64 loops, .slice (some ⟨gF, 0, none⟩) N cF, .slice (some ⟨gT, 0, none⟩) N cT] 117 (0, 0)) ∧ wr.ownsRow (w.heap.size + 1) 3 1 (.slice (some ⟨w.heap.size + 1, 0, none⟩) N N) N (nats (mers (List.range N) ((ovE C).take k))) ∧ Below w.heap.size w wr)) (fun v28 _ => C.length - (intOf v28).toNat)
      case atStart => exact ⟨0, Nat.zero_le _, rfl, HP1.out⟩
      case round =>
        clear HP1 t0
        rename World => W2
        obtain ⟨k, hin2, rfl, hp⟩ := hrel
        by_cases hil2 : k < C.length
        · obtain ⟨b, off, ea, hbw, hC⟩ := HD.out.cross (by omega)
          have t0 : W2.cell? ⟨w.heap.size, 0, none⟩ = some (.slice a C.length cap) := block_cell hp.out.1 rfl
          have ff := may_fit HM.out k 1 hil2 (by omega)
          have fg := may_fit HM.out k 3 hil2 (by omega)
          have HX : Hid ((C.getD k Cr.none).arc 1 = (C.getD k Cr.none).b ∧ (C.getD k Cr.none).arc 3 = (C.getD k Cr.none).d) := ⟨rfl, rfl⟩
          have f1 := ff.1
          have f2 := ff.2.1
          have f3 := fg.1
          have f4 := fg.2.1
          rw [HX.out.1] at f1 f2
          rw [HX.out.2] at f3 f4
          obtain ⟨e0, e1, e2, e3, e4⟩ := (hC.on hp.out.2.2 hbw) k hil2
          obtain ⟨x, hx⟩ : ∃ x : Nat, (C.getD k Cr.none).b = (x : Int) := ⟨(C.getD k Cr.none).b.toNat, by omega⟩
          obtain ⟨y, hy⟩ : ∃ y : Nat, (C.getD k Cr.none).d = (y : Int) := ⟨(C.getD k Cr.none).d.toNat, by omega⟩
          have hxN : x < N := by have := HN.out; omega
          have hyN : y < N := by have := HN.out; omega
          obtain ⟨ca, hca⟩ : ∃ z, (C.getD k Cr.none).a = z := ⟨_, rfl⟩
          obtain ⟨cc, hcc⟩ : ∃ z, (C.getD k Cr.none).c = z := ⟨_, rfl⟩
          obtain ⟨cp, hcp⟩ : ∃ z, (C.getD k Cr.none).plus = z := ⟨_, rfl⟩
          have HLV : Hid (mers (List.range N) ((ovE C).take (k + 1)) = mer (mers (List.range N) ((ovE C).take k)) x y) := (by rw [mers_ov _ C k hil2, hx, hy]; rfl : mers (List.range N) ((ovE C).take (k + 1)) = mer (mers (List.range N) ((ovE C).take k)) x y)
          have HLL : Hid ((mers (List.range N) ((ovE C).take k)).length = N) := (by rw [mers_len]; simp : (mers (List.range N) ((ovE C).take k)).length = N)
          rw [hca] at e0
          rw [hx] at e1
          rw [hcc] at e2
          rw [hy] at e3
          rw [hcp] at e4
          obtain ⟨L, hL⟩ : ∃ L, mers (List.range N) ((ovE C).take k) = L := ⟨_, rfl⟩
          rw [hL] at HLV HLL hp
          have hsW := hp.out.2.2.size
          have hgl := (hp.out.2.1.lt (w.heap.size + 1) rfl).2
          have hbW : b < W2.heap.size := by omega
          have hii : (k : Int) < (C.length : Int) := by omega
          have d0 : W2.cell? ⟨w.heap.size + 1, x, none⟩ = some (.int .i64 (L.getD x 0 : Nat)) := by
            rw [hp.out.2.1.cellAt x (by omega)]; exact nats_get _ x (by rw [HLL.out]; exact hxN)
          have d1 : W2.cell? ⟨w.heap.size + 1, y, none⟩ = some (.int .i64 (L.getD y 0 : Nat)) := by
            rw [hp.out.2.1.cellAt y (by omega)]; exact nats_get _ y (by rw [HLL.out]; exact hyN)
          obtain ⟨p, hpx⟩ : ∃ p, L.getD x 0 = p := ⟨_, rfl⟩
          obtain ⟨q, hqx⟩ : ∃ q, L.getD y 0 = q := ⟨_, rfl⟩
          rw [hpx] at d0
          rw [hqx] at d1
          have HPQ : Hid (L.getD x 0 = p ∧ L.getD y 0 = q) := ⟨hpx, hqx⟩
          obtain ⟨X, hX⟩ : ∃ X, X = (W2.alloc (.cells #[.int .i64 ca, .int .i64 (x : Nat), .int .i64 cc, .int .i64 (y : Nat), .bool cp] 61)) := ⟨_, rfl⟩
          have HX0 : Hid (X = (W2.alloc (.cells #[.int .i64 ca, .int .i64 (x : Nat), .int .i64 cc, .int .i64 (y : Nat), .bool cp] 61))) := hX
          have HGX : Hid (W2.grownBy X none) := (by rw [hX]; exact World.grownBy_alloc _ _ none : W2.grownBy X none)
          have hXs : X.heap.size = W2.heap.size + 1 := by rw [hX]; simp
          have HXB : Hid (X.heap[W2.heap.size]? = some (.cells #[.int .i64 ca, .int .i64 (x : Nat), .int .i64 cc, .int .i64 (y : Nat), .bool cp] 61 (0, 0))) := (by rw [hX]; exact alloc_at rfl : X.heap[W2.heap.size]? = some (.cells #[.int .i64 ca, .int .i64 (x : Nat), .int .i64 cc, .int .i64 (y : Nat), .bool cp] 61 (0, 0)))
          have HXR : Hid (X.heap[w.heap.size]? = some (.cells #[.slice a C.length cap, .int .i64 loops, .slice (some ⟨gF, 0, none⟩) N cF, .slice (some ⟨gT, 0, none⟩) N cT] 117 (0, 0)) ∧ X.ownsRow (w.heap.size + 1) 3 1 (.slice (some ⟨w.heap.size + 1, 0, none⟩) N N) N (nats (L)) ∧ Below w.heap.size w X) := ⟨(HGX.out.block _ (by omega) (by simp)).trans hp.out.1, own_any hp.out.2.1 HGX.out, hp.out.2.2.grown HGX.out hsW (fun z hz => by cases hz)⟩
          clear hC ff fg f1 f2 f3 f4 hx hy hca hcc hcp hL hpx hqx hX
          go_wp2
          rw [← HX0.out]
          have x1 : X.cell? ⟨W2.heap.size, 1, none⟩ = some (.int .i64 (x : Nat)) := block_cell HXB.out rfl
          have x3 : X.cell? ⟨W2.heap.size, 3, none⟩ = some (.int .i64 (y : Nat)) := block_cell HXB.out rfl
          have y0 : X.cell? ⟨w.heap.size + 1, x, none⟩ = some (.int .i64 (p : Nat)) := (by rw [HXR.out.2.1.cellAt x (by omega), nats_get _ x (by rw [HLL.out]; exact hxN), HPQ.out.1])
          have y1 : X.cell? ⟨w.heap.size + 1, y, none⟩ = some (.int .i64 (q : Nat)) := (by rw [HXR.out.2.1.cellAt y (by omega), nats_get _ y (by rw [HLL.out]; exact hyN), HPQ.out.2])
          clear d0 d1 e0 e1 e2 e3 e4
          obtain ⟨lo, hlo⟩ : ∃ lo, min p q = lo := ⟨_, rfl⟩
          obtain ⟨hi, hhi⟩ : ∃ hi, max p q = hi := ⟨_, rfl⟩
          have E1 : (if q < p then (q : Int) else (p : Int)) = (lo : Int) := by rw [← hlo]; split <;> omega
          have E2 : (if p < q then (q : Int) else (p : Int)) = (hi : Int) := by rw [← hhi]; split <;> omega
          have HLH : Hid (min p q = lo ∧ max p q = hi) := ⟨hlo, hhi⟩
          clear hlo hhi
          apply cut_one
          case h =>
            intro key
            go_region_held3 (fun w' => w'.cell? ⟨W2.heap.size, 1, none⟩ = some (.int .i64 (x : Nat)) ∧ w'.cell? ⟨W2.heap.size, 3, none⟩ = some (.int .i64 (y : Nat)) ∧ w'.cell? ⟨w.heap.size + 1, x, none⟩ = some (.int .i64 (p : Nat)) ∧ w'.cell? ⟨w.heap.size + 1, y, none⟩ = some (.int .i64 (q : Nat))) (exact ⟨x1, x3, y0, y1⟩) (fail)
            all_goals
              exact key.out
          rw [← ea]
          clear x1 x3 y0 y1 E1 E2 ea
          have HQ0 : Hid (X.drew.heap[w.heap.size]? = some (.cells #[.slice a C.length cap, .int .i64 loops, .slice (some ⟨gF, 0, none⟩) N cF, .slice (some ⟨gT, 0, none⟩) N cT] 117 (0, 0)) ∧ X.drew.ownsRow (w.heap.size + 1) 3 1 (.slice (some ⟨w.heap.size + 1, 0, none⟩) N N) N (nats (merTo L x y 0)) ∧ Below w.heap.size w X.drew) := (by rw [merTo_zero]; exact ⟨HXR.out.1, own_any HXR.out.2.1 (grown_below ((Below.refl _ _).drew) none), HXR.out.2.2.drew⟩ : X.drew.heap[w.heap.size]? = some (.cells #[.slice a C.length cap, .int .i64 loops, .slice (some ⟨gF, 0, none⟩) N cF, .slice (some ⟨gT, 0, none⟩) N cT] 117 (0, 0)) ∧ X.drew.ownsRow (w.heap.size + 1) 3 1 (.slice (some ⟨w.heap.size + 1, 0, none⟩) N N) N (nats (merTo L x y 0)) ∧ Below w.heap.size w X.drew)
          have HME : Hid (∀ v, v < N → (mer L x y).getD v 0 = if L.getD v 0 = hi then lo else L.getD v 0) := fun v hv => by rw [mer_at L x y v (by rw [HLL.out]; exact hv), HPQ.out.1, HPQ.out.2, HLH.out.1, HLH.out.2]
          have hdk : decide ((k : Int) < (C.length : Int)) = true := by simp; omega
          have hdk2 : decide (k < C.length) = true := by simp; omega
          clear HXR HXB HGX HX0 HPQ HLH
          go_wp2
          go_loopw [56] (fun v56 wr => ∃ j : Nat, j ≤ N ∧ v56 = .int .i64 (j : Nat) ∧ Hid (wr.heap[w.heap.size]? = some (.cells #[.slice a C.length cap, .int .i64 loops, .slice (some ⟨gF, 0, none⟩) N cF, .slice (some ⟨gT, 0, none⟩) N cT] 117 (0, 0)) ∧ wr.ownsRow (w.heap.size + 1) 3 1 (.slice (some ⟨w.heap.size + 1, 0, none⟩) N N) N (nats (merTo L x y j)) ∧ Below w.heap.size w wr)) (fun v56 _ => N - (intOf v56).toNat)
          case atStart => exact ⟨0, Nat.zero_le _, rfl, HQ0.out⟩
          case round =>
            clear HQ0
            rename World => W3
            obtain ⟨j, hjn, rfl, hq⟩ := hrel
            have hg3 := (hq.out.2.1.lt (w.heap.size + 1) rfl).2
            by_cases hjl : j < N
            · have f0 : W3.cell? ⟨w.heap.size + 1, j, none⟩ = some (.int .i64 (L.getD j 0 : Nat)) := by
                rw [hq.out.2.1.cellAt j (by omega), nats_get _ j (by rw [merTo_len, HLL.out]; exact hjl), merTo_at _ _ _ _ _ (by rw [HLL.out]; exact hjl), if_neg (by omega)]
              obtain ⟨z, hz⟩ : ∃ z, L.getD j 0 = z := ⟨_, rfl⟩
              have HZ : Hid (L.getD j 0 = z) := hz
              rw [hz] at f0
              clear hz
              by_cases hzh : z = hi
              · subst hzh
                have hst := hq.out.2.1.stored j (.int .i64 (lo : Nat))
                rw [nats_set, merTo_next L x y j lo (by rw [HLL.out]; exact hjl) (by rw [HME.out j hjl, HZ.out, if_pos rfl])] at hst
                have HST : Hid ((W3.setCell ⟨w.heap.size + 1, j, none⟩ (.int .i64 (lo : Nat))).heap[w.heap.size]? = some (.cells #[.slice a C.length cap, .int .i64 loops, .slice (some ⟨gF, 0, none⟩) N cF, .slice (some ⟨gT, 0, none⟩) N cT] 117 (0, 0)) ∧ (W3.setCell ⟨w.heap.size + 1, j, none⟩ (.int .i64 (lo : Nat))).ownsRow (w.heap.size + 1) 3 1 (.slice (some ⟨w.heap.size + 1, 0, none⟩) N N) N (nats (merTo L x y (j + 1))) ∧ Below w.heap.size w (W3.setCell ⟨w.heap.size + 1, j, none⟩ (.int .i64 (lo : Nat)))) := ⟨(hst.2.block _ (by omega) (fun e => by have : w.heap.size = w.heap.size + 1 := Option.some.inj e; omega)).trans hq.out.1, hst.1, hq.out.2.2.grown hst.2 hq.out.2.2.size (fun q hq => by have := Option.some.inj hq; omega)⟩
                have z0 : W3.frozen? ⟨w.heap.size + 1, j, none⟩ = false := hq.out.2.1.frozenAt j
                have hzz : ((z : Int) == (z : Int)) = true := by simp
                clear hst
                go_wp2
                go_roundw
                case rel => exact ⟨j + 1, by omega, by go_num, HST.out⟩
                case measure => simp only [intOf]; omega
              · have hzz : ((z : Int) == (hi : Int)) = false := by simp; omega
                have hzz2 : (z == hi) = false := by simp; omega
                have HST : Hid (W3.heap[w.heap.size]? = some (.cells #[.slice a C.length cap, .int .i64 loops, .slice (some ⟨gF, 0, none⟩) N cF, .slice (some ⟨gT, 0, none⟩) N cT] 117 (0, 0)) ∧ W3.ownsRow (w.heap.size + 1) 3 1 (.slice (some ⟨w.heap.size + 1, 0, none⟩) N N) N (nats (merTo L x y (j + 1))) ∧ Below w.heap.size w W3) := (by rw [← merTo_same L x y j (by rw [HLL.out]; exact hjl) (by rw [HME.out j hjl, HZ.out, if_neg hzh])]; exact hq.out : W3.heap[w.heap.size]? = some (.cells #[.slice a C.length cap, .int .i64 loops, .slice (some ⟨gF, 0, none⟩) N cF, .slice (some ⟨gT, 0, none⟩) N cT] 117 (0, 0)) ∧ W3.ownsRow (w.heap.size + 1) 3 1 (.slice (some ⟨w.heap.size + 1, 0, none⟩) N N) N (nats (merTo L x y (j + 1))) ∧ Below w.heap.size w W3)
                go_wp2
                go_roundw
                case rel => exact ⟨j + 1, by omega, by go_num, HST.out⟩
                case measure => simp only [intOf]; omega
            · obtain rfl : N = j := by omega
              go_wp2
              go_roundw
              case rel => exact ⟨k + 1, by omega, by go_num, (by have h := hq.out; rw [← HLL.out, merTo_all, HLL.out] at h; rw [HLV.out]; exact h : W3.heap[w.heap.size]? = some (.cells #[.slice a C.length cap, .int .i64 loops, .slice (some ⟨gF, 0, none⟩) N cF, .slice (some ⟨gT, 0, none⟩) N cT] 117 (0, 0)) ∧ W3.ownsRow (w.heap.size + 1) 3 1 (.slice (some ⟨w.heap.size + 1, 0, none⟩) N N) N (nats (mers (List.range N) ((ovE C).take (k + 1)))) ∧ Below w.heap.size w W3)⟩
              case measure => simp only [intOf]; omega
        · obtain rfl : k = C.length := by omega
          go_wp2
          go_ret
          exact ⟨_, rfl, (by have h := hp.out.2.1; rw [ovE_all] at h; have e : lowM C = mers (List.range N) (ovE C) := (by unfold lowM; rw [HN.out]); rw [e]; exact own_low h (by omega)), hp.out.2.2⟩
end Go.Proofs.Ytdbpiggohncjiaa
/- The walks of colour.overpasses and colour.Overs. -/
namespace Go.Proofs.Ytdbpiggohncjiaa
open Go.RowKit

/-- The overpasses of arcs below k; what stands first tells of none. -/
def ovTo (C : List Cr) (k : Nat) : List Nat := (List.range (2 * C.length + 1)).map fun v => if v < k ∧ 1 ≤ v then ovM C v else 0
theorem ovTo_len (C : List Cr) (k : Nat) : (ovTo C k).length = 2 * C.length + 1 := by simp [ovTo]
theorem ovTo_at (C : List Cr) (k v : Nat) (hv : v < 2 * C.length + 1) : (ovTo C k).getD v 0 = if v < k ∧ 1 ≤ v then ovM C v else 0 := by simp [ovTo, List.getD_eq_getElem?_getD, hv]
theorem ovTo_zero (C : List Cr) : List.replicate (2 * C.length + 1) 0 = ovTo C 1 := by
  refine List.ext_getElem (by simp [ovTo]) fun j h1 h2 => ?_
  simp only [ovTo, List.getElem_map, List.getElem_range, List.getElem_replicate]
  rw [if_neg (by omega)]
theorem ovTo_next (C : List Cr) (k z : Nat) (hk : k < 2 * C.length + 1) (h1 : 1 ≤ k) (hz : ovM C k = z) : (ovTo C k).set k z = ovTo C (k + 1) := getD_ext (by simp [ovTo_len]) fun v hv => by
  have hv' : v < 2 * C.length + 1 := by simpa [ovTo_len] using hv
  rw [getD_set _ _ _ _ (by rw [ovTo_len]; exact hk), ovTo_at _ _ _ hv', ovTo_at _ _ _ hv']
  by_cases e : v = k
  · subst e; rw [if_pos rfl, if_pos ⟨by omega, h1⟩, hz]
  · rw [if_neg e]
    by_cases h2 : v < k ∧ 1 ≤ v
    · rw [if_pos h2, if_pos ⟨by omega, h2.2⟩]
    · rw [if_neg h2, if_neg (fun q => h2 ⟨by omega, q.2⟩)]
theorem ovTo_drop (C : List Cr) : (ovTo C (2 * C.length + 1)).drop 1 = ovL C (2 * C.length) := by
  refine List.ext_getElem (by simp [ovTo, ovL]) fun j h1 h2 => ?_
  simp only [List.getElem_drop, ovTo, ovL, List.getElem_map, List.getElem_range]
  rw [if_pos ⟨by have : j < 2 * C.length := by simpa [ovL] using h2
                 omega, by omega⟩, Nat.add_comm]

set_option maxHeartbeats 16000000 in
set_option maxRecDepth 100000 in
theorem overpasses_any (a : Option Addr) (cap : Nat) (C : List Cr) (loops : Int) (gF cF gT cT : Nat) (w : World) (hm : mayD C loops = true) (hD : Dr w a cap C gF gT) :
    Calls Try.prog 179 #[drV a cap C loops gF cF gT cT] w fun e w' => ∃ g, e = .returned (.tuple #[.slice (some ⟨g, 0, none⟩) (2 * C.length + 1) (2 * C.length + 1), .int .i64 (ovC C : Nat)]) ∧ w'.ownsRow w.heap.size 3 1 (.slice (some ⟨g, 0, none⟩) (2 * C.length + 1) (2 * C.length + 1)) (2 * C.length + 1) (nats (ovTo C (2 * C.length + 1))) ∧ Below w.heap.size w w' := by
  obtain ⟨s1, -, -, -⟩ := sizeB_iff (may_size hm)
  obtain ⟨i2, hk, hx0, hx1, hx2⟩ := info_parts infoInt
  have HM : Hid (mayD C loops = true) := hm
  have HD : Hid (Dr w a cap C gF gT) := hD
  have HLS : Hid (Least (ovE C) (2 * C.length + 1) (lowM C)) := lowM_least (ovE_lt hm)
  have HCV : Hid (ovC C = rootsN (lowM C) (2 * C.length + 1)) := (rfl : ovC C = rootsN (lowM C) (2 * C.length + 1))
  have HLP : Hid (∀ v, 1 ≤ v → v < 2 * C.length + 1 → 1 ≤ (lowM C).getD v 0) := fun v h1 h2 => HLS.out.pos (fun e he => ⟨(ovE_in HM.out e he).1.1, (ovE_in HM.out e he).2.1⟩) h2 h1
  have HZ0 : Hid (List.replicate (2 * C.length + 1) 0 = ovTo C 1) := ovTo_zero C
  have HB0 : Hid (Below w.heap.size w (w.alloc (.cells #[.slice a C.length cap, .int .i64 loops, .slice (some ⟨gF, 0, none⟩) (2 * C.length + 1) cF, .slice (some ⟨gT, 0, none⟩) (2 * C.length + 1) cT] 117))) := (Below.refl _ _).alloc (Nat.le_refl _) _
  unfold drV
  obtain ⟨N, hN⟩ : ∃ N, N = 2 * C.length + 1 := ⟨_, rfl⟩
  have HN : Hid (N = 2 * C.length + 1) := hN
  have hN1 : 1 ≤ N := by omega
  have hN2 : N ≤ 33 := by omega
  have HLA : Hid (∀ W, Dr W a cap C gF gT → Calls Try.prog 209 #[.agg #[.slice a C.length cap, .int .i64 loops, .slice (some ⟨gF, 0, none⟩) N cF, .slice (some ⟨gT, 0, none⟩) N cT]] W fun e w' => ∃ g, e = .returned (.slice (some ⟨g, 0, none⟩) N N) ∧ w'.ownsRow W.heap.size 3 1 (.slice (some ⟨g, 0, none⟩) N N) N (nats (lowM C)) ∧ Below W.heap.size W w') := fun W hW => by rw [hN]; exact lowestArcs_any a cap C loops gF cF gT cT W HM.out hW
  rw [← hN] at HLS HCV HLP HZ0 HB0 ⊢
  rw [HCV.out]
  clear hm hD hN
  go_enter Try.func179, Try.ntmps179
  go_wp2_with (go_at_call 209; refine (HLA.out _ (HD.out.on HB0.out)).mono ?_; rintro e9 w1 ⟨g, rfl, hr1, hb1⟩; refine Hid.out ?_)
  refine Lib.hid ?_
  have hs1 : w.heap.size + 1 ≤ w1.heap.size := by have := hb1.size; simpa using this
  have hg1 : w.heap.size + 1 ≤ g ∧ g < w1.heap.size := by have := hr1.lt g rfl; simpa using this
  have HR1 : Hid (w1.ownsRow (w.heap.size + 1) 3 1 (.slice (some ⟨g, 0, none⟩) N N) N (nats (lowM C)) ∧ Below w.heap.size w w1) := ⟨own_low hr1 (by simp), HB0.out.trans (hb1.mono (by simp))⟩
  clear hr1 hb1
  go_wp2_with (first | (at_make; refine wpList_make_full _ rfl _ _ 52 rfl w1.heap.size 3 i2 (.int .i64 0) 1 Try.underlying52 hk hx0 hx1 .i64 .i64 _ _ N rfl rfl rfl rfl (by rw [hx2]; omega) (by unfold maxLen; omega) (by omega) ?_; intro w2 hrow hg2; refine Hid.out ?_))
  refine Lib.hid ?_
  rw [made_zeroN, HZ0.out] at hrow
  have HP0 : Hid (w2.ownsRow (w.heap.size + 1) 3 1 (.slice (some ⟨g, 0, none⟩) N N) N (nats (lowM C)) ∧ w2.ownsRow w1.heap.size 3 1 (.slice (some ⟨w1.heap.size, 0, none⟩) N N) N (nats (ovTo C 1)) ∧ Below w.heap.size w w2) := ⟨own_any HR1.out.1 hg2, hrow, HR1.out.2.grown hg2 HR1.out.2.size (fun q hq => by cases hq)⟩
  clear hrow hg2 HR1
  go_wp2
  go_loopw [3, 5] (fun v3 v5 wr => ∃ j : Nat, 1 ≤ j ∧ j ≤ N ∧ v5 = .int .i64 (j : Nat) ∧ v3 = .int .i64 (rootsN (lowM C) j : Nat) ∧ Hid (wr.ownsRow (w.heap.size + 1) 3 1 (.slice (some ⟨g, 0, none⟩) N N) N (nats (lowM C)) ∧ wr.ownsRow w1.heap.size 3 1 (.slice (some ⟨w1.heap.size, 0, none⟩) N N) N (nats (ovTo C j)) ∧ Below w.heap.size w wr)) (fun _ v5 _ => N - (intOf v5).toNat)
  case atStart => exact ⟨1, Nat.le_refl _, hN1, rfl, (by simp [rootsN]), HP0.out⟩
  case round =>
    clear HP0
    rename World => W1
    obtain ⟨j, hj1, hjn, rfl, rfl, hp⟩ := hrel
    have hlt := (hp.out.2.1.lt w1.heap.size rfl).2
    have hr1 := rootsN_le (lowM C) j
    by_cases hjl : j < N
    · obtain ⟨q, hq⟩ : ∃ q, (lowM C).getD j 0 = q := ⟨_, rfl⟩
      have hqj : q ≤ j := by rw [← hq]; exact HLS.out.le hjl
      have hq1 : 1 ≤ q := by rw [← hq]; exact HLP.out j hj1 hjl
      have hqN : q < N := by omega
      have e0 : W1.cell? ⟨g, j, none⟩ = some (.int .i64 (q : Nat)) := by
        rw [hp.out.1.cellAt j (by omega), nats_get _ j (by rw [HLS.out.1]; omega), hq]
      by_cases hql : q < j
      · have HQR : Hid ((lowM C).getD q 0 = q) := (by have h := HLS.out.root hjl; rw [hq] at h; exact h : (lowM C).getD q 0 = q)
        have HOV : Hid (ovM C j = rootsN (lowM C) q) := (by unfold ovM; rw [hq] : ovM C j = rootsN (lowM C) q)
        have e1 : W1.cell? ⟨w1.heap.size, q, none⟩ = some (.int .i64 (rootsN (lowM C) q : Nat)) := by
          rw [hp.out.2.1.cellAt q (by omega), nats_get _ q (by rw [ovTo_len]; have := HN.out; omega), ovTo_at _ _ _ (by have := HN.out; omega), if_pos ⟨hql, hq1⟩]
          unfold ovM
          rw [HQR.out]
        have HR1 : Hid (rootsN (lowM C) (j + 1) = rootsN (lowM C) j) := (by simp only [rootsN]; rw [if_neg (fun z => by have := z.2; omega)]; simp : rootsN (lowM C) (j + 1) = rootsN (lowM C) j)
        have hdq : decide ((q : Int) < (j : Int)) = true := by simp; omega
        have hdq2 : decide (q < j) = true := by simp; omega
        clear hq
        have hst := hp.out.2.1.stored j (.int .i64 (rootsN (lowM C) q : Nat))
        rw [nats_set, ovTo_next C j (rootsN (lowM C) q) (by have := HN.out; omega) hj1 HOV.out] at hst
        have HST : Hid ((W1.setCell ⟨w1.heap.size, j, none⟩ (.int .i64 (rootsN (lowM C) q : Nat))).ownsRow (w.heap.size + 1) 3 1 (.slice (some ⟨g, 0, none⟩) N N) N (nats (lowM C)) ∧ (W1.setCell ⟨w1.heap.size, j, none⟩ (.int .i64 (rootsN (lowM C) q : Nat))).ownsRow w1.heap.size 3 1 (.slice (some ⟨w1.heap.size, 0, none⟩) N N) N (nats (ovTo C (j + 1))) ∧ Below w.heap.size w (W1.setCell ⟨w1.heap.size, j, none⟩ (.int .i64 (rootsN (lowM C) q : Nat)))) := ⟨hp.out.1.kept hst.2 (Or.inr (fun e => by have : g = w1.heap.size := Option.some.inj e; omega)), hst.1, hp.out.2.2.grown hst.2 hp.out.2.2.size (fun q hq => by have := Option.some.inj hq; omega)⟩
        have z0 : W1.frozen? ⟨w1.heap.size, j, none⟩ = false := hp.out.2.1.frozenAt j
        have eo : W1.cell? ⟨w1.heap.size, j, none⟩ = some (.int .i64 ((ovTo C j).getD j 0 : Nat)) := by
          rw [hp.out.2.1.cellAt j (by omega)]; exact nats_get _ j (by rw [ovTo_len]; have := HN.out; omega)
        clear hst
        go_wp2
        go_roundw
        case rel => exact ⟨j + 1, by omega, by omega, by go_num, (by rw [HR1.out]), HST.out⟩
        case measure => simp only [intOf]; omega

      · obtain rfl : q = j := by omega
        have HOV : Hid (ovM C q = rootsN (lowM C) q) := (by unfold ovM; rw [hq] : ovM C q = rootsN (lowM C) q)
        have HR1 : Hid (rootsN (lowM C) (q + 1) = rootsN (lowM C) q + 1) := (by simp only [rootsN]; rw [if_pos ⟨hq1, hq⟩] : rootsN (lowM C) (q + 1) = rootsN (lowM C) q + 1)
        have hdq : decide ((q : Int) < (q : Int)) = false := by simp
        have hdq2 : decide (q < q) = false := by simp
        clear hq
        have hst := hp.out.2.1.stored q (.int .i64 (rootsN (lowM C) q : Nat))
        rw [nats_set, ovTo_next C q (rootsN (lowM C) q) (by have := HN.out; omega) hj1 HOV.out] at hst
        have HST : Hid ((W1.setCell ⟨w1.heap.size, q, none⟩ (.int .i64 (rootsN (lowM C) q : Nat))).ownsRow (w.heap.size + 1) 3 1 (.slice (some ⟨g, 0, none⟩) N N) N (nats (lowM C)) ∧ (W1.setCell ⟨w1.heap.size, q, none⟩ (.int .i64 (rootsN (lowM C) q : Nat))).ownsRow w1.heap.size 3 1 (.slice (some ⟨w1.heap.size, 0, none⟩) N N) N (nats (ovTo C (q + 1))) ∧ Below w.heap.size w (W1.setCell ⟨w1.heap.size, q, none⟩ (.int .i64 (rootsN (lowM C) q : Nat)))) := ⟨hp.out.1.kept hst.2 (Or.inr (fun e => by have : g = w1.heap.size := Option.some.inj e; omega)), hst.1, hp.out.2.2.grown hst.2 hp.out.2.2.size (fun q hq => by have := Option.some.inj hq; omega)⟩
        have z0 : W1.frozen? ⟨w1.heap.size, q, none⟩ = false := hp.out.2.1.frozenAt q
        have eo : W1.cell? ⟨w1.heap.size, q, none⟩ = some (.int .i64 ((ovTo C q).getD q 0 : Nat)) := by
          rw [hp.out.2.1.cellAt q (by omega)]; exact nats_get _ q (by rw [ovTo_len]; have := HN.out; omega)
        clear hst
        go_wp2
        go_roundw
        case rel => exact ⟨q + 1, by omega, by omega, by go_num, (by rw [HR1.out]; go_num), HST.out⟩
        case measure => simp only [intOf]; omega

    · obtain rfl : N = j := by omega
      go_wp2
      go_ret2
      exact ⟨_, rfl, own_low hp.out.2.1 (by omega), hp.out.2.2⟩
end Go.Proofs.Ytdbpiggohncjiaa
/- The walk of colour.Overs. -/
namespace Go.Proofs.Ytdbpiggohncjiaa
open Go.RowKit

set_option maxHeartbeats 4000000 in
set_option maxRecDepth 100000 in
theorem overs_no (hFR : FaceRingsOk) (v : Value) (C : List Cr) (loops : Int) (w : World) (hn : noN C loops ≠ 0) (h : Crs w w.heap.size v C) :
    Calls Try.prog 124 #[.agg #[v, .int .i64 loops]] w fun e w' => e = .returned (.tuple #[.slice none 0 0, .int .i64 (noN C loops)]) ∧ Below w.heap.size w w' := by
  have HC : Hid (Crs w w.heap.size v C) := h
  obtain ⟨a, cap, rfl, -, -⟩ := h
  have HF : Hid (∀ W, Crs W W.heap.size (.slice a C.length cap) C → Calls Try.prog 177 #[.agg #[.slice a C.length cap, .int .i64 loops]] W fun e w' => e = .returned (.tuple #[noDrawing, .int .i64 (noN C loops)]) ∧ Below W.heap.size W w') := fun W hW => flat_not hFR a cap C loops W hn hW
  generalize noN C loops = r at hn HF
  have hr0 : (r == 0) = false := beq_eq_false_iff_ne.2 hn
  have HB1 : Hid (Below w.heap.size w (w.alloc (.cells #[.slice a C.length cap, .int .i64 loops] 35))) := (Below.refl _ _).alloc (Nat.le_refl _) _
  go_enter Try.func124, Try.ntmps124
  go_wp2_with (go_at_call 177; refine (HF.out _ (HC.out.up HB1.out)).mono ?_; rintro e9 w2 ⟨rfl, hb2⟩; refine Hid.out ?_)
  refine Lib.hid ?_
  unfold noDrawing
  have HB2 : Hid (Below w.heap.size w w2) := HB1.out.trans (hb2.mono HB1.out.size)
  clear hb2
  go_wp2
  go_ret2
  exact ⟨rfl, HB2.out.alloc HB2.out.size _⟩

set_option maxHeartbeats 4000000 in
set_option maxRecDepth 100000 in
theorem overs_yes (hFR : FaceRingsOk) (v : Value) (C : List Cr) (loops : Int) (w : World) (hn : noN C loops = 0) (h : Crs w w.heap.size v C) :
    Calls Try.prog 124 #[.agg #[v, .int .i64 loops]] w fun e w' => ∃ a c, e = .returned (.tuple #[.slice a (2 * C.length) c, .int .i64 0]) ∧ Slots w' w'.heap.size (.slice a (2 * C.length) c) (nats (ovL C (2 * C.length))) ∧ Below w.heap.size w w' := by
  have HC : Hid (Crs w w.heap.size v C) := h
  obtain ⟨hm, hp⟩ := noN_zero hn
  have HM : Hid (mayD C loops = true) := hm
  have HP : Hid (planarB C = true) := hp
  have HFA : Hid FaceRingsOk := hFR
  obtain ⟨s1, s2, s3, s4⟩ := sizeB_iff (may_size hm)
  obtain ⟨a, cap, rfl, -, -⟩ := h
  have HB1 : Hid (Below w.heap.size w (w.alloc (.cells #[.slice a C.length cap, .int .i64 loops] 35))) := (Below.refl _ _).alloc (Nat.le_refl _) _
  clear hm hp hn hFR
  go_enter Try.func124, Try.ntmps124
  go_wp2_with (go_at_call 177; refine (flat_yes HFA.out _ C loops _ HM.out HP.out (HC.out.up HB1.out)).mono ?_; rintro e9 w2 ⟨a', cap', gF, cF, gT, cT, rfl, hdr, hb2⟩; refine Hid.out ?_)
  refine Lib.hid ?_
  have HDR : Hid (Dr w2 a' cap' C gF gT) := hdr
  have HOV : Hid (∀ W, Dr W a' cap' C gF gT → Calls Try.prog 179 #[drV a' cap' C loops gF cF gT cT] W fun e w' => ∃ g, e = .returned (.tuple #[.slice (some ⟨g, 0, none⟩) (2 * C.length + 1) (2 * C.length + 1), .int .i64 (ovC C : Nat)]) ∧ w'.ownsRow W.heap.size 3 1 (.slice (some ⟨g, 0, none⟩) (2 * C.length + 1) (2 * C.length + 1)) (2 * C.length + 1) (nats (ovTo C (2 * C.length + 1))) ∧ Below W.heap.size W w') := fun W hW => overpasses_any a' cap' C loops gF cF gT cT W HM.out hW
  unfold drV at HOV
  unfold drV
  have HB2 : Hid (Below w.heap.size w w2) := HB1.out.trans (hb2.mono HB1.out.size)
  have hs2 := HB2.out.size
  have HBA : Hid (Below w2.heap.size w2 (w2.alloc (.cells #[.slice a' C.length cap', .int .i64 loops, .slice (some ⟨gF, 0, none⟩) (2 * C.length + 1) cF, .slice (some ⟨gT, 0, none⟩) (2 * C.length + 1) cT] 117))) := (Below.refl _ _).alloc (Nat.le_refl _) _
  clear hb2 hdr
  go_wp2_with (go_at_call 179; refine (HOV.out _ (HDR.out.on HBA.out)).mono ?_; rintro e9 w3 ⟨g, rfl, hr3, hb3⟩; refine Hid.out ?_)
  refine Lib.hid ?_
  have HSL : Hid (∀ c, Slots w3 w3.heap.size (.slice (some ⟨g, 1, none⟩) (2 * C.length) c) (nats (ovL C (2 * C.length)))) := fun c => ⟨_, _, by rw [nats_len, ovL_len], fun _ => ⟨g, 1, rfl, (hr3.lt g rfl).2, fun i hi => by
    rw [nats_len, ovL_len] at hi
    have e : (nats (ovL C (2 * C.length))).getD i (.bool false) = .int .i64 ((ovL C (2 * C.length)).getD i 0 : Nat) := by
      rw [List.getD_eq_getElem?_getD, nats_get _ i (by rw [ovL_len]; exact hi)]; rfl
    rw [hr3.cellAt (1 + i) (by omega), nats_get _ (1 + i) (by rw [ovTo_len]; omega), e, ← ovTo_drop]
    simp [List.getD_eq_getElem?_getD, Nat.add_comm 1 i]⟩⟩
  have HSN : Hid (∀ a c, Slots w3 w3.heap.size (.slice a 0 c) (nats (ovL C 0))) := fun a c => ⟨_, _, by rw [nats_len, ovL_len], fun h1 => by rw [nats_len, ovL_len] at h1; omega⟩
  have HB3 : Hid (Below w.heap.size w w3) := HB2.out.trans ((HBA.out.trans (hb3.mono (by simp))).mono hs2)
  clear hr3 hb3
  go_wp2
  all_goals
    go_ret2
    first
      | exact ⟨_, _, rfl, HSL.out _, HB3.out⟩
      | exact ⟨_, _, rfl, HSN.out _ _, HB3.out⟩
end Go.Proofs.Ytdbpiggohncjiaa
