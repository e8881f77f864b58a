/- The walks of ref.level and ref.OversOf. -/
import Derived.Test.YtajmogojekichaaF3P
import Derived.Test.YtajmogojekichaaLv
import Derived.Test.YtajmogojekichaaO0
namespace Go.Proofs.Ytajmogojekichaa
open Go.RowKit

/-- The numbers of those that are the lowest of theirs, below k. -/
def numTo (L : List Nat) (n k : Nat) : List Nat := (List.range n).map fun v => if v < k ∧ 1 ≤ v ∧ L.getD v 0 = v then rootsN L v else 0
theorem numTo_len (L : List Nat) (n k : Nat) : (numTo L n k).length = n := by simp [numTo]
theorem numTo_at (L : List Nat) (n k v : Nat) (hv : v < n) : (numTo L n k).getD v 0 = if v < k ∧ 1 ≤ v ∧ L.getD v 0 = v then rootsN L v else 0 := by simp [numTo, List.getD_eq_getElem?_getD, hv]
theorem numTo_zero (L : List Nat) (n : Nat) : List.replicate n 0 = numTo L n 1 := by
  refine List.ext_getElem (by simp [numTo]) fun j h1 h2 => ?_
  simp only [numTo, List.getElem_map, List.getElem_range, List.getElem_replicate]
  rw [if_neg (by omega)]
theorem numTo_yes (L : List Nat) (n k : Nat) (hk : 1 ≤ k) (h : L.getD k 0 = k) : (numTo L n k).set k (rootsN L k) = numTo L n (k + 1) := by
  refine List.ext_getElem (by simp [numTo]) fun j h1 h2 => ?_
  simp only [List.getElem_set, numTo, List.getElem_map, List.getElem_range]
  by_cases hj : k = j
  · subst hj; rw [if_pos rfl, if_pos ⟨by omega, hk, h⟩]
  · rw [if_neg hj]
    by_cases h3 : j < k ∧ 1 ≤ j ∧ L.getD j 0 = j
    · rw [if_pos h3, if_pos ⟨by omega, h3.2⟩]
    · rw [if_neg h3, if_neg (fun q => h3 ⟨by omega, q.2⟩)]
theorem numTo_no (L : List Nat) (n k : Nat) (h : L.getD k 0 ≠ k) : numTo L n k = numTo L n (k + 1) := by
  refine List.map_congr_left fun j _ => ?_
  by_cases h3 : j < k ∧ 1 ≤ j ∧ L.getD j 0 = j
  · rw [if_pos h3, if_pos ⟨by omega, h3.2⟩]
  · rw [if_neg h3, if_neg (fun q => h3 ⟨by have := q.1; have : j ≠ k := fun e => h (by rw [← e]; exact q.2.2); omega, q.2⟩)]
/-- The overpasses of the first arcs. -/
def ovL (C : List Cr) (k : Nat) : List Nat := (List.range k).map fun i => ovM C (i + 1)
theorem ovL_len (C : List Cr) (k : Nat) : (ovL C k).length = k := by simp [ovL]
theorem ovL_next (C : List Cr) (k : Nat) : ovL C k ++ [ovM C (k + 1)] = ovL C (k + 1) := by simp [ovL, List.range_succ]
theorem ovE_next (C : List Cr) (i : Nat) (hi : i < C.length) : (ovE C).take (i + 1) = (ovE C).take i ++ [((C.getD i Cr.none).b.toNat, (C.getD i Cr.none).d.toNat)] := by
  rw [List.take_add_one]
  congr 1
  simp [ovE, hi, List.getD_eq_getElem?_getD]
theorem ovE_all (C : List Cr) : (ovE C).take C.length = ovE C := List.take_of_length_le (by simp [ovE])
theorem levs_ov (V : List Nat) (C : List Cr) (i : Nat) (hi : i < C.length) : levs V ((ovE C).take (i + 1)) = lev (levs V ((ovE C).take i)) (C.getD i Cr.none).b.toNat (C.getD i Cr.none).d.toNat := by
  rw [ovE_next C i hi, levs_app]
  rfl

set_option maxHeartbeats 16000000 in
set_option maxRecDepth 100000 in
theorem oversOf_any (a : Option Addr) (cap : Nat) (C : List Cr) (loops : Int) (w : World) (hm : mayD C loops = true) (hD : Crs w w.heap.size (.slice a C.length cap) C) :
    Calls Try.prog 93 #[.agg #[.slice a C.length cap, .int .i64 loops]] w fun e w' => ∃ v, e = .returned v ∧ w'.ownsRow w.heap.size 3 1 v (2 * C.length) (nats (ovL C (2 * C.length))) ∧ Below w.heap.size w w' := by
  obtain ⟨s1, -, -, -⟩ := sizeB_iff (may_size hm)
  obtain ⟨i2, hk, hx0, hx1, hx2⟩ := info_parts infoInt
  have HM : Hid (mayD C loops = true) := hm
  have HD : Hid (Crs w w.heap.size (.slice a C.length cap) C) := hD
  clear hm hD
  obtain ⟨w0, hw0⟩ : ∃ w0, w0 = w.alloc (.cells #[.slice a C.length cap, .int .i64 loops] 24) := ⟨_, rfl⟩
  have HW0 : Hid (w0 = w.alloc (.cells #[.slice a C.length cap, .int .i64 loops] 24)) := hw0
  have hs0 : w0.heap.size = w.heap.size + 1 := by rw [hw0]; simp
  have HB0 : Hid (Below w.heap.size w w0) := (by rw [hw0]; exact (Below.refl _ _).alloc (Nat.le_refl _) _ : Below w.heap.size w w0)
  have HT0 : Hid (w0.heap[w.heap.size]? = some (.cells #[.slice a C.length cap, .int .i64 loops] 24 (0, 0))) := (by rw [hw0]; exact alloc_at rfl : w0.heap[w.heap.size]? = some (.cells #[.slice a C.length cap, .int .i64 loops] 24 (0, 0)))
  clear hw0
  have q1 : IntKind.i64.wrap (2 * (C.length : Int)) = 2 * (C.length : Int) := IntWalk.i64_in _ (by omega)
  have q2 : IntKind.i64.wrap (2 * (C.length : Int) + 1) = 2 * (C.length : Int) + 1 := IntWalk.i64_in _ (by omega)
  obtain ⟨N, hN⟩ : ∃ N, N = 2 * C.length + 1 := ⟨_, rfl⟩
  have HN : Hid (N = 2 * C.length + 1) := hN
  have hN1 : 1 ≤ N := by omega
  have hN2 : N ≤ 33 := by omega
  have qN : 2 * (C.length : Int) + 1 = (N : Int) := by omega
  clear hN
  go_enter Try.func93, Try.ntmps93
  go_wp2_with (first | (at_make; refine wpList_make_full _ rfl _ _ 36 rfl (w.heap.size + 1) 3 i2 (.int .i64 0) 1 Try.underlying36 hk hx0 hx1 .i64 .i64 _ _ N rfl rfl rfl rfl (by rw [hx2]; omega) (by unfold maxLen; omega) (by simp) ?_; intro w1 hrow hg1; refine Hid.out ?_))
  refine Lib.hid ?_
  rw [← HW0.out] at hrow hg1
  rw [made_zeroN, hs0, labTo_zero] at hrow
  have HP0 : Hid (w1.heap[w.heap.size]? = some (.cells #[.slice a C.length cap, .int .i64 loops] 24 (0, 0)) ∧ w1.ownsRow (w.heap.size + 1) 3 1 (.slice (some ⟨w.heap.size + 1, 0, none⟩) N N) N (nats (labTo N 0)) ∧ Below w.heap.size w w1) := ⟨(hg1.block _ (by omega) (by simp)).trans HT0.out, hrow, HB0.out.grown hg1 (by omega) (fun k hk => by cases hk)⟩
  clear hrow hg1 HT0 HB0 hs0 HW0
  go_wp2
  go_loopw [5] (fun v5 wr => ∃ i : Nat, i ≤ N ∧ v5 = .int .i64 (i : Nat) ∧ Hid (wr.heap[w.heap.size]? = some (.cells #[.slice a C.length cap, .int .i64 loops] 24 (0, 0)) ∧ wr.ownsRow (w.heap.size + 1) 3 1 (.slice (some ⟨w.heap.size + 1, 0, none⟩) N N) N (nats (labTo N i)) ∧ Below w.heap.size w wr)) (fun v5 _ => N - (intOf v5).toNat)
  case atStart => exact ⟨0, Nat.zero_le _, rfl, HP0.out⟩
  case round =>
    clear HP0
    rename World => W1
    obtain ⟨i, hin, rfl, hp⟩ := hrel
    have hlt := hp.out.2.1.lt (w.heap.size + 1) rfl
    by_cases hil : i < N
    · have hst := hp.out.2.1.stored i (.int .i64 (i : Nat))
      rw [nats_set, labTo_next] at hst
      have HST : Hid ((W1.setCell ⟨w.heap.size + 1, i, none⟩ (.int .i64 (i : Nat))).heap[w.heap.size]? = some (.cells #[.slice a C.length cap, .int .i64 loops] 24 (0, 0)) ∧ (W1.setCell ⟨w.heap.size + 1, i, none⟩ (.int .i64 (i : Nat))).ownsRow (w.heap.size + 1) 3 1 (.slice (some ⟨w.heap.size + 1, 0, none⟩) N N) N (nats (labTo N (i + 1))) ∧ Below w.heap.size w (W1.setCell ⟨w.heap.size + 1, i, none⟩ (.int .i64 (i : Nat)))) := ⟨(hst.2.block _ (by omega) (fun e => by have : w.heap.size = w.heap.size + 1 := Option.some.inj e; omega)).trans hp.out.1, hst.1, hp.out.2.2.grown hst.2 hp.out.2.2.size (fun q hq => by have := Option.some.inj hq; omega)⟩
      have e0 : W1.cell? ⟨w.heap.size + 1, i, none⟩ = some (.int .i64 ((labTo N i).getD i 0 : Nat)) := by
        rw [hp.out.2.1.cellAt i (by omega)]; exact nats_get _ i (by simp [labTo]; omega)
      have z0 : W1.frozen? ⟨w.heap.size + 1, i, none⟩ = false := hp.out.2.1.frozenAt i
      have hdi : (i : Int) ≤ 2 * (C.length : Int) := by omega
      clear hst
      go_wp2
      go_roundw
      case rel => exact ⟨i + 1, by omega, by go_num, HST.out⟩
      case measure => simp only [intOf]; omega
    · obtain rfl : N = i := by omega
      have HP1 : Hid (W1.heap[w.heap.size]? = some (.cells #[.slice a C.length cap, .int .i64 loops] 24 (0, 0)) ∧ W1.ownsRow (w.heap.size + 1) 3 1 (.slice (some ⟨w.heap.size + 1, 0, none⟩) N N) N (nats (levR (List.range N) (ovE C) 0)) ∧ Below w.heap.size w W1) := (by have h := hp.out; rw [labTo_all] at h; exact h : W1.heap[w.heap.size]? = some (.cells #[.slice a C.length cap, .int .i64 loops] 24 (0, 0)) ∧ W1.ownsRow (w.heap.size + 1) 3 1 (.slice (some ⟨w.heap.size + 1, 0, none⟩) N N) N (nats (levR (List.range N) (ovE C) 0)) ∧ Below w.heap.size w W1)
      have HLN : Hid (∀ r, (levR (List.range N) (ovE C) r).length = N) := fun r => (levR_lab (fun e he => by rw [HN.out]; exact ovE_lt HM.out e he) ⟨by simp, fun v hv => by simp [List.getD_eq_getElem?_getD, hv], fun v hv => by simp [List.getD_eq_getElem?_getD, hv, Con.refl]⟩ r).len
      clear hp
      go_wp2
      go_loopw [6] (fun v6 wr => ∃ r : Nat, r ≤ N ∧ v6 = .int .i64 (r : Nat) ∧ Hid (wr.heap[w.heap.size]? = some (.cells #[.slice a C.length cap, .int .i64 loops] 24 (0, 0)) ∧ wr.ownsRow (w.heap.size + 1) 3 1 (.slice (some ⟨w.heap.size + 1, 0, none⟩) N N) N (nats (levR (List.range N) (ovE C) r)) ∧ Below w.heap.size w wr)) (fun v6 _ => N - (intOf v6).toNat)
      case atStart => exact ⟨0, Nat.zero_le _, rfl, HP1.out⟩
      case round =>
        clear HP1
        rename World => W2
        obtain ⟨r, hrn, rfl, hp⟩ := hrel
        by_cases hrl : r < N
        · have hdr : decide ((r : Int) ≤ 2 * (C.length : Int)) = true := by simp; omega
          have hdr2 : decide (r ≤ 2 * C.length) = true := by simp; omega
          obtain ⟨V, hV⟩ : ∃ V, levR (List.range N) (ovE C) r = V := ⟨_, rfl⟩
          have HV : Hid (levR (List.range N) (ovE C) r = V) := hV
          have HVL : Hid (V.length = N) := (by rw [← hV]; exact HLN.out r : V.length = N)
          have HP2 : Hid (W2.heap[w.heap.size]? = some (.cells #[.slice a C.length cap, .int .i64 loops] 24 (0, 0)) ∧ W2.ownsRow (w.heap.size + 1) 3 1 (.slice (some ⟨w.heap.size + 1, 0, none⟩) N N) N (nats (levs V ((ovE C).take 0))) ∧ Below w.heap.size w W2) := (by have h := hp.out; rw [hV] at h; exact h : W2.heap[w.heap.size]? = some (.cells #[.slice a C.length cap, .int .i64 loops] 24 (0, 0)) ∧ W2.ownsRow (w.heap.size + 1) 3 1 (.slice (some ⟨w.heap.size + 1, 0, none⟩) N N) N (nats (levs V ((ovE C).take 0))) ∧ Below w.heap.size w W2)
          clear hp hV
          go_wp2
          go_loopw [7] (fun v7 wr => ∃ i : Nat, i ≤ C.length ∧ v7 = .int .i64 (i : Nat) ∧ Hid (wr.heap[w.heap.size]? = some (.cells #[.slice a C.length cap, .int .i64 loops] 24 (0, 0)) ∧ wr.ownsRow (w.heap.size + 1) 3 1 (.slice (some ⟨w.heap.size + 1, 0, none⟩) N N) N (nats (levs V ((ovE C).take i))) ∧ Below w.heap.size w wr)) (fun v7 _ => C.length - (intOf v7).toNat)
          case atStart => exact ⟨0, Nat.zero_le _, rfl, HP2.out⟩
          case round =>
            clear HP2
            rename World => W3
            obtain ⟨i, hin, rfl, hp⟩ := hrel
            have t0 : W3.cell? ⟨w.heap.size, 0, none⟩ = some (.slice a C.length cap) := block_cell hp.out.1 rfl
            have hs3 := hp.out.2.2.size
            have hgl := (hp.out.2.1.lt (w.heap.size + 1) rfl).2
            by_cases hil : i < C.length
            · obtain ⟨b, off, ea, hbw, hC⟩ := crs_some HD.out (by omega)
              rw [ea] at t0
              have HCC : Hid (CrossAt W3 b off C) := hC.on hp.out.2.2 hbw
              have ff := may_fit HM.out i 1 hil (by omega)
              have fg := may_fit HM.out i 3 hil (by omega)
              obtain ⟨ca, cb, cc, cd, cp⟩ := HCC.out i hil
              have HX : Hid ((C.getD i Cr.none).arc 1 = (C.getD i Cr.none).b ∧ (C.getD i Cr.none).arc 3 = (C.getD i Cr.none).d) := ⟨rfl, rfl⟩
              have f1 := ff.1
              have f2 := ff.2.1
              have f3 := fg.1
              have f4 := fg.2.1
              rw [HX.out.1] at f1 f2
              rw [HX.out.2] at f3 f4
              obtain ⟨x, hx⟩ : ∃ x : Nat, (C.getD i Cr.none).b = (x : Int) := ⟨(C.getD i Cr.none).b.toNat, by omega⟩
              obtain ⟨y, hy⟩ : ∃ y : Nat, (C.getD i Cr.none).d = (y : Int) := ⟨(C.getD i Cr.none).d.toNat, by omega⟩
              have hxN : x < N := by have := HN.out; omega
              have hyN : y < N := by have := HN.out; omega
              have HLV : Hid (levs V ((ovE C).take (i + 1)) = lev (levs V ((ovE C).take i)) x y) := (by rw [levs_ov V C i hil, hx, hy]; rfl : levs V ((ovE C).take (i + 1)) = lev (levs V ((ovE C).take i)) x y)
              rw [hx] at cb
              rw [hy] at cd
              clear hC ff fg f1 f2 f3 f4 hx hy ca cc cp ea
              go_wp2
              have HU : Hid (W3.drew.ownsRow (w.heap.size + 1) 3 1 (.slice (some ⟨w.heap.size + 1, 0, none⟩) N N) N (nats (levs V ((ovE C).take i)))) := own_any hp.out.2.1 (grown_below ((Below.refl _ _).drew) none)
              go_region_held3 (fun w' => w'.cell? ⟨w.heap.size, 0, none⟩ = some (.slice (some ⟨b, off, none⟩) C.length cap) ∧ w'.cell? ⟨b, off + i * 5 + 1, none⟩ = some (.int .i64 (x : Nat)) ∧ w'.cell? ⟨b, off + i * 5 + 3, none⟩ = some (.int .i64 (y : Nat))) (first | exact HK4.out | exact ⟨t0, cb, cd⟩) (first
                | (go_at_call 105; refine (level_any _ _ _ _ x y _ _ hxN hyN HU.out).mono ?_; rintro e9 w4 ⟨rfl, hr4, hg4⟩
                   have HB4 : Hid (Below (w.heap.size + 1) W3.drew w4) := ⟨hg4.os, hg4.tape, hg4.output, hg4.size, fun q hq => hg4.block q (by show q < W3.heap.size; omega) (fun e => by have := Option.some.inj e; omega)⟩
                   have HK4 : Hid (w4.cell? ⟨w.heap.size, 0, none⟩ = some (.slice (some ⟨b, off, none⟩) C.length cap) ∧ w4.cell? ⟨b, off + i * 5 + 1, none⟩ = some (.int .i64 (x : Nat)) ∧ w4.cell? ⟨b, off + i * 5 + 3, none⟩ = some (.int .i64 (y : Nat))) := ⟨bcell HB4.out (by omega) t0, bcell HB4.out (by omega) cb, bcell HB4.out (by omega) cd⟩))
              have HST : Hid (w4.heap[w.heap.size]? = some (.cells #[.slice a C.length cap, .int .i64 loops] 24 (0, 0)) ∧ w4.ownsRow (w.heap.size + 1) 3 1 (.slice (some ⟨w.heap.size + 1, 0, none⟩) N N) N (nats (levs V ((ovE C).take (i + 1)))) ∧ Below w.heap.size w w4) := (by rw [HLV.out]; exact ⟨(hg4.block _ (by show _ < W3.heap.size; omega) (fun e => by have : w.heap.size = w.heap.size + 1 := Option.some.inj e; omega)).trans hp.out.1, hr4, (hp.out.2.2.drew).grown hg4 (by show _ ≤ W3.heap.size; omega) (fun q hq => by have := Option.some.inj hq; omega)⟩ : w4.heap[w.heap.size]? = some (.cells #[.slice a C.length cap, .int .i64 loops] 24 (0, 0)) ∧ w4.ownsRow (w.heap.size + 1) 3 1 (.slice (some ⟨w.heap.size + 1, 0, none⟩) N N) N (nats (levs V ((ovE C).take (i + 1)))) ∧ Below w.heap.size w w4)
              clear hr4 hg4
              go_wp2
              go_roundw
              case rel => exact ⟨i + 1, by omega, by go_num, HST.out⟩
              case measure => simp only [intOf]; omega
            · obtain rfl : i = C.length := by omega
              go_wp2
              go_roundw
              case rel => exact ⟨r + 1, by omega, by go_num, (by have h := hp.out; rw [ovE_all, ← HV.out] at h; exact h : W3.heap[w.heap.size]? = some (.cells #[.slice a C.length cap, .int .i64 loops] 24 (0, 0)) ∧ W3.ownsRow (w.heap.size + 1) 3 1 (.slice (some ⟨w.heap.size + 1, 0, none⟩) N N) N (nats (levR (List.range N) (ovE C) (r + 1))) ∧ Below w.heap.size w W3)⟩
              case measure => simp only [intOf]; omega
        · obtain rfl : N = r := by omega
          have HLE : Hid (levR (List.range N) (ovE C) N = lowM C) := (by rw [HN.out]; exact (levR_least (ovE_lt HM.out) _ (Nat.le_refl _)).eq (lowM_least (ovE_lt HM.out)) : levR (List.range N) (ovE C) N = lowM C)
          have HLS : Hid (Least (ovE C) N (lowM C)) := (by rw [HN.out]; exact lowM_least (ovE_lt HM.out) : Least (ovE C) N (lowM C))
          have HLP : Hid (∀ v, 1 ≤ v → v < N → 1 ≤ (lowM C).getD v 0) := fun v h1 h2 => HLS.out.pos (fun e he => ⟨(ovE_in HM.out e he).1.1, (ovE_in HM.out e he).2.1⟩) h2 h1
          have HP3 : Hid (W2.ownsRow (w.heap.size + 1) 3 1 (.slice (some ⟨w.heap.size + 1, 0, none⟩) N N) N (nats (lowM C)) ∧ Below w.heap.size w W2) := (by have h := hp.out; rw [HLE.out] at h; exact h.2 : W2.ownsRow (w.heap.size + 1) 3 1 (.slice (some ⟨w.heap.size + 1, 0, none⟩) N N) N (nats (lowM C)) ∧ Below w.heap.size w W2)
          have hs2 : w.heap.size + 2 ≤ W2.heap.size := by have := (hp.out.2.1.lt (w.heap.size + 1) rfl).2; omega
          have hdN : decide ((N : Int) ≤ 2 * (C.length : Int)) = false := by simp only [decide_eq_false_iff_not]; omega
          clear hp HLE HLN
          go_wp2_with (first | (at_make; refine wpList_make_full _ rfl _ _ 36 rfl (w.heap.size + 1) 3 i2 (.int .i64 0) 1 Try.underlying36 hk hx0 hx1 .i64 .i64 _ _ N rfl rfl rfl rfl (by rw [hx2]; omega) (by unfold maxLen; omega) (by omega) ?_; intro w3 hrow hg1; refine Hid.out ?_))
          refine Lib.hid ?_
          rw [made_zeroN, numTo_zero (lowM C)] at hrow
          have HP4 : Hid (w3.ownsRow (w.heap.size + 1) 3 1 (.slice (some ⟨w.heap.size + 1, 0, none⟩) N N) N (nats (lowM C)) ∧ w3.ownsRow (w.heap.size + 1) 3 1 (.slice (some ⟨W2.heap.size, 0, none⟩) N N) N (nats (numTo (lowM C) N (0 + 1))) ∧ w3.ownsRow (W2.heap.size + 1) 3 1 (.slice none 0 0) (0) (nats (ovL C (0))) ∧ Below w.heap.size w w3) := ⟨own_any HP3.out.1 hg1, hrow, World.ownsRow_nil _ _ _ _, HP3.out.2.grown hg1 HP3.out.2.size (fun q hq => by cases hq)⟩
          clear hrow hg1 HP3
          go_wp2
          go_loopw [8, 9, 11] (fun v8 v9 v11 wr => ∃ k j : Nat, k ≤ 2 * C.length ∧ Hid (j = k + 1) ∧ v11 = .int .i64 (j : Nat) ∧ v9 = .int .i64 (rootsN (lowM C) j : Nat) ∧ Hid (wr.ownsRow (w.heap.size + 1) 3 1 (.slice (some ⟨w.heap.size + 1, 0, none⟩) N N) N (nats (lowM C)) ∧ wr.ownsRow (w.heap.size + 1) 3 1 (.slice (some ⟨W2.heap.size, 0, none⟩) N N) N (nats (numTo (lowM C) N (k + 1))) ∧ wr.ownsRow (W2.heap.size + 1) 3 1 v8 (k) (nats (ovL C (k))) ∧ Below w.heap.size w wr)) (fun _ _ v11 _ => 2 * C.length + 1 - (intOf v11).toNat)
          case atStart => exact ⟨0, 1, Nat.zero_le _, (rfl : 1 = 0 + 1), rfl, (by simp [rootsN]), HP4.out⟩
          case round =>
            clear HP4
            rename World => W4
            obtain ⟨k, j, hkn, hjk, rfl, rfl, hp⟩ := hrel
            obtain ⟨a8, c8, rfl⟩ := own_capS hp.out.2.2.1
            by_cases hil : k < 2 * C.length
            · have hj1 : 1 ≤ j := by have := hjk.out; omega
              have hj2 : j < N := by have := hjk.out; have := HN.out; omega
              have hj3 : (j : Int) ≤ 2 * (C.length : Int) := by have := hjk.out; omega
              obtain ⟨q, hq⟩ : ∃ q, (lowM C).getD j 0 = q := ⟨_, rfl⟩
              have hqj : q ≤ j := by rw [← hq]; exact HLS.out.le hj2
              have hq1 : 1 ≤ q := by rw [← hq]; exact HLP.out j hj1 hj2
              have hqN : q < N := by omega
              have HQR : Hid ((lowM C).getD q 0 = q) := (by have h := HLS.out.root hj2; rw [hq] at h; exact h : (lowM C).getD q 0 = q)
              have e0 : W4.cell? ⟨w.heap.size + 1, j, none⟩ = some (.int .i64 (q : Nat)) := by
                rw [hp.out.1.cellAt j (by omega), nats_get _ j (by rw [HLS.out.1]; omega), hq]
              have hr1 := rootsN_le (lowM C) j
              by_cases hqe : q = j
              · subst hqe
                have HQ : Hid ((lowM C).getD q 0 = q) := hq
                have hst := hp.out.2.1.stored q (.int .i64 (rootsN (lowM C) q : Nat))
                rw [nats_set, ← hjk.out, numTo_yes (lowM C) N q hq1 hq] at hst
                have hw4 := (hp.out.2.1.lt W2.heap.size rfl).2
                have HWH : Hid ((W4.setCell ⟨W2.heap.size, q, none⟩ (.int .i64 (rootsN (lowM C) q : Nat))).ownsRow (w.heap.size + 1) 3 1 (.slice (some ⟨w.heap.size + 1, 0, none⟩) N N) N (nats (lowM C))) := hp.out.1.kept hst.2 (Or.inr (fun e => by have : w.heap.size + 1 = W2.heap.size := Option.some.inj e; omega))
                have HNU : Hid ((W4.setCell ⟨W2.heap.size, q, none⟩ (.int .i64 (rootsN (lowM C) q : Nat))).ownsRow (w.heap.size + 1) 3 1 (.slice (some ⟨W2.heap.size, 0, none⟩) N N) N (nats (numTo (lowM C) N (k + 1 + 1)))) := (by rw [← hjk.out]; exact hst.1 : (W4.setCell ⟨W2.heap.size, q, none⟩ (.int .i64 (rootsN (lowM C) q : Nat))).ownsRow (w.heap.size + 1) 3 1 (.slice (some ⟨W2.heap.size, 0, none⟩) N N) N (nats (numTo (lowM C) N (k + 1 + 1))))
                have HO : Hid ((W4.setCell ⟨W2.heap.size, q, none⟩ (.int .i64 (rootsN (lowM C) q : Nat))).ownsRow (W2.heap.size + 1) 3 1 (.slice a8 k c8) k (nats (ovL C k))) := hp.out.2.2.1.kept hst.2 (Or.inr (fun e => by have := (hp.out.2.2.1.lt W2.heap.size e).1; omega))
                have HBX : Hid (Below w.heap.size w (W4.setCell ⟨W2.heap.size, q, none⟩ (.int .i64 (rootsN (lowM C) q : Nat)))) := hp.out.2.2.2.grown hst.2 hp.out.2.2.2.size (fun z hz => by have := Option.some.inj hz; omega)
                have hsX : (W4.setCell ⟨W2.heap.size, q, none⟩ (.int .i64 (rootsN (lowM C) q : Nat))).heap.size = W4.heap.size := by simp
                have eo : W4.cell? ⟨W2.heap.size, q, none⟩ = some (.int .i64 (((numTo (lowM C) N (k + 1)).getD q 0 : Nat))) := by
                  rw [hp.out.2.1.cellAt q (by omega)]; exact nats_get _ q (by rw [numTo_len]; omega)
                have z0 : W4.frozen? ⟨W2.heap.size, q, none⟩ = false := hp.out.2.1.frozenAt q
                have HR1 : Hid (rootsN (lowM C) (q + 1) = rootsN (lowM C) q + 1) := (by simp only [rootsN]; rw [if_pos ⟨hq1, hq⟩] : rootsN (lowM C) (q + 1) = rootsN (lowM C) q + 1)
                have hqq : ((q : Int) == (q : Int)) = true := by simp
                have hws : w.heap.size + 1 ≠ W2.heap.size := by omega
                clear hst hq HQR hqj
                have hA := HO.out.alloc (.cells #[.int .i64 (rootsN (lowM C) q : Nat)] 3)
                go_wp2_with (first
                  | (at_builtin; refine wpList_append_own _ rfl _ _ 36 rfl (W2.heap.size + 1) 3 i2 (.int .i64 0) 1 8 Try.underlying36 hk hx0 hx1 hx2 rfl (by decide) _ _ _ rfl (HO.out.alloc _) ⟨W4.heap.size, 0, none⟩ 1 1 [.int .i64 (rootsN (lowM C) q : Nat)] rfl rfl (by rw [← hsX]; exact new_cell1 _ _ _) (int_one _) (by unfold maxLen; omega) (by omega) (by simp; omega) ?_; intro v8 w8 hown8 hg8 _; refine Hid.out ?_))
                refine Lib.hid ?_
                have HW8 : Hid (w8.ownsRow (w.heap.size + 1) 3 1 (.slice (some ⟨w.heap.size + 1, 0, none⟩) N N) N (nats (lowM C)) ∧ w8.ownsRow (w.heap.size + 1) 3 1 (.slice (some ⟨W2.heap.size, 0, none⟩) N N) N (nats (numTo (lowM C) N (k + 1 + 1))) ∧ w8.ownsRow (W2.heap.size + 1) 3 1 v8 (k + 1) (nats (ovL C (k + 1))) ∧ Below w.heap.size w w8) := ⟨(HWH.out.alloc _).kept hg8 (Or.inr (fun e => by have := (hA.lt (w.heap.size + 1) e.symm).1; omega)), (HNU.out.alloc _).kept hg8 (Or.inr (fun e => by have := (hA.lt W2.heap.size e.symm).1; omega)), (by have e : ovM C (k + 1) = rootsN (lowM C) q := (by rw [← hjk.out]; unfold ovM; rw [HQ.out]); rw [← ovL_next, nats_app, e]; exact hown8), (HBX.out.alloc (by have := HBX.out.size; omega) _).grown hg8 (by have := HBX.out.size; simp; omega) (fun z hz => by have := (hA.lt z hz).1; omega)⟩
                clear hg8 hown8 hA
                obtain ⟨a9, c9, rfl⟩ := own_capS HW8.out.2.2.1
                go_wp2
                go_roundw
                case rel => exact ⟨k + 1, q + 1, by omega, (by have := hjk.out; omega : q + 1 = k + 1 + 1), by go_num, (by rw [HR1.out]; go_num), HW8.out⟩
                case measure => simp only [intOf]; omega
              · have hne : ((q : Int) == (j : Int)) = false := by simp; omega
                have HQ : Hid ((lowM C).getD j 0 = q) := hq
                have hw4 := (hp.out.2.1.lt W2.heap.size rfl).2
                have e1 : W4.cell? ⟨W2.heap.size, q, none⟩ = some (.int .i64 (rootsN (lowM C) q : Nat)) := by
                  rw [hp.out.2.1.cellAt q (by omega), nats_get _ q (by rw [numTo_len]; omega), numTo_at _ _ _ _ hqN, if_pos ⟨by have := hjk.out; omega, hq1, HQR.out⟩]
                have HWH : Hid (W4.ownsRow (w.heap.size + 1) 3 1 (.slice (some ⟨w.heap.size + 1, 0, none⟩) N N) N (nats (lowM C))) := hp.out.1
                have HNU : Hid (W4.ownsRow (w.heap.size + 1) 3 1 (.slice (some ⟨W2.heap.size, 0, none⟩) N N) N (nats (numTo (lowM C) N (k + 1 + 1)))) := (by have h := hp.out.2.1; rw [← hjk.out, numTo_no (lowM C) N j (by rw [hq]; exact hqe)] at h; rw [← hjk.out]; exact h : W4.ownsRow (w.heap.size + 1) 3 1 (.slice (some ⟨W2.heap.size, 0, none⟩) N N) N (nats (numTo (lowM C) N (k + 1 + 1))))
                have HO : Hid (W4.ownsRow (W2.heap.size + 1) 3 1 (.slice a8 k c8) k (nats (ovL C k))) := hp.out.2.2.1
                have HBX : Hid (Below w.heap.size w W4) := hp.out.2.2.2
                have HR1 : Hid (rootsN (lowM C) (j + 1) = rootsN (lowM C) j) := (by simp only [rootsN]; rw [if_neg (fun z => hqe (by rw [← hq]; exact z.2))]; simp : rootsN (lowM C) (j + 1) = rootsN (lowM C) j)
                have hsX : W4.heap.size = W4.heap.size := rfl
                clear hq
                have hA := HO.out.alloc (.cells #[.int .i64 (rootsN (lowM C) q : Nat)] 3)
                go_wp2_with (first
                  | (at_builtin; refine wpList_append_own _ rfl _ _ 36 rfl (W2.heap.size + 1) 3 i2 (.int .i64 0) 1 8 Try.underlying36 hk hx0 hx1 hx2 rfl (by decide) _ _ _ rfl (HO.out.alloc _) ⟨W4.heap.size, 0, none⟩ 1 1 [.int .i64 (rootsN (lowM C) q : Nat)] rfl rfl (new_cell1 _ _ _) (int_one _) (by unfold maxLen; omega) (by omega) (by simp; omega) ?_; intro v8 w8 hown8 hg8 _; refine Hid.out ?_))
                refine Lib.hid ?_
                have HW8 : Hid (w8.ownsRow (w.heap.size + 1) 3 1 (.slice (some ⟨w.heap.size + 1, 0, none⟩) N N) N (nats (lowM C)) ∧ w8.ownsRow (w.heap.size + 1) 3 1 (.slice (some ⟨W2.heap.size, 0, none⟩) N N) N (nats (numTo (lowM C) N (k + 1 + 1))) ∧ w8.ownsRow (W2.heap.size + 1) 3 1 v8 (k + 1) (nats (ovL C (k + 1))) ∧ Below w.heap.size w w8) := ⟨(HWH.out.alloc _).kept hg8 (Or.inr (fun e => by have := (hA.lt (w.heap.size + 1) e.symm).1; omega)), (HNU.out.alloc _).kept hg8 (Or.inr (fun e => by have := (hA.lt W2.heap.size e.symm).1; omega)), (by have e : ovM C (k + 1) = rootsN (lowM C) q := (by rw [← hjk.out]; unfold ovM; rw [HQ.out]); rw [← ovL_next, nats_app, e]; exact hown8), (HBX.out.alloc (by have := HBX.out.size; omega) _).grown hg8 (by have := HBX.out.size; simp; omega) (fun z hz => by have := (hA.lt z hz).1; omega)⟩
                clear hg8 hown8 hA
                obtain ⟨a9, c9, rfl⟩ := own_capS HW8.out.2.2.1
                go_wp2
                go_roundw
                case rel => exact ⟨k + 1, j + 1, by omega, (by have := hjk.out; omega : j + 1 = k + 1 + 1), by go_num, (by rw [HR1.out]), HW8.out⟩
                case measure => simp only [intOf]; omega
            · obtain rfl : k = 2 * C.length := by omega
              obtain rfl : j = 2 * C.length + 1 := hjk.out
              go_wp2
              go_ret
              exact ⟨_, rfl, own_low hp.out.2.2.1 (by omega), hp.out.2.2.2⟩
end Go.Proofs.Ytajmogojekichaa
