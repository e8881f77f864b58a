/- The walks of colour.lowestArcs and colour.overpasses. -/
import Derived.Test.YtnhllpaoplfgpaaO1
import Derived.Test.YtnhllpaoplfgpaaV4
namespace Go.Proofs.Ytnhllpaoplfgpaa
open Go.RowKit

theorem cut_one {T G : Prop} (h : Hid T → G) (hT : T) : G := h hT
/-- Merged in the first k places. -/
def merTo (W : List Nat) (x y k : Nat) : List Nat := (List.range W.length).map fun v => if v < k then (mer W x y).getD v 0 else W.getD v 0
theorem merTo_len (W : List Nat) (x y k : Nat) : (merTo W x y k).length = W.length := by simp [merTo]
theorem merTo_at (W : List Nat) (x y k v : Nat) (hv : v < W.length) : (merTo W x y k).getD v 0 = if v < k then (mer W x y).getD v 0 else W.getD v 0 := by simp [merTo, List.getD_eq_getElem?_getD, hv]
theorem getD_ext {l m : List Nat} (h : l.length = m.length) (g : ∀ v, v < l.length → l.getD v 0 = m.getD v 0) : l = m := by
  refine List.ext_getElem h fun i h1 h2 => ?_
  have := g i h1
  simpa [List.getD_eq_getElem?_getD, h1, h2] using this
theorem merTo_zero (W : List Nat) (x y : Nat) : merTo W x y 0 = W := getD_ext (merTo_len _ _ _ _) fun v hv => by
  rw [merTo_len] at hv; rw [merTo_at _ _ _ _ _ hv, if_neg (by omega)]
theorem merTo_all (W : List Nat) (x y : Nat) : merTo W x y W.length = mer W x y := getD_ext (by rw [merTo_len, mer_len]) fun v hv => by
  rw [merTo_len] at hv; rw [merTo_at _ _ _ _ _ hv, if_pos hv]
theorem merTo_next (W : List Nat) (x y k z : Nat) (hk : k < W.length) (hz : (mer W x y).getD k 0 = z) : (merTo W x y k).set k z = merTo W x y (k + 1) := getD_ext (by simp [merTo_len]) fun v hv => by
  have hv' : v < W.length := by simpa [merTo_len] using hv
  rw [getD_set _ _ _ _ (by rw [merTo_len]; exact hk), merTo_at _ _ _ _ _ hv', merTo_at _ _ _ _ _ hv']
  by_cases e : v = k
  · subst e; rw [if_pos rfl, if_pos (by omega), hz]
  · rw [if_neg e]
    by_cases h2 : v < k
    · rw [if_pos h2, if_pos (by omega)]
    · rw [if_neg h2, if_neg (by omega)]
theorem merTo_same (W : List Nat) (x y k : Nat) (hk : k < W.length) (hz : (mer W x y).getD k 0 = W.getD k 0) : merTo W x y k = merTo W x y (k + 1) := getD_ext (by simp [merTo_len]) fun v hv => by
  have hv' : v < W.length := by simpa [merTo_len] using hv
  rw [merTo_at _ _ _ _ _ hv', merTo_at _ _ _ _ _ hv']
  by_cases e : v = k
  · subst e; rw [if_neg (by omega), if_pos (by omega), hz]
  · by_cases h2 : v < k
    · rw [if_pos h2, if_pos (by omega)]
    · rw [if_neg h2, if_neg (by omega)]
theorem mers_ov (V : List Nat) (C : List Cr) (i : Nat) (hi : i < C.length) : mers V ((ovE C).take (i + 1)) = mer (mers V ((ovE C).take i)) (C.getD i Cr.none).b.toNat (C.getD i Cr.none).d.toNat := by
  rw [ovE_next C i hi, mers_app]
  rfl
theorem mers_len (E : List (Nat × Nat)) : ∀ W : List Nat, (mers W E).length = W.length := by
  induction E with
  | nil => intro W; rfl
  | cons e E ih => intro W; rw [mers, ih, mer_len]

set_option maxHeartbeats 16000000 in
set_option maxRecDepth 100000 in
theorem lowestArcs_any (a : Option Addr) (cap : Nat) (C : List Cr) (loops : Int) (gF cF gT cT : Nat) (w : World) (hm : mayD C loops = true) (hD : Dr w a cap C gF gT) :
    Calls Try.prog 177 #[drV a cap C loops gF cF gT cT] w fun e w' => ∃ g, e = .returned (.slice (some ⟨g, 0, none⟩) (2 * C.length + 1) (2 * C.length + 1)) ∧ w'.ownsRow w.heap.size 3 1 (.slice (some ⟨g, 0, none⟩) (2 * C.length + 1) (2 * C.length + 1)) (2 * C.length + 1) (nats (lowM C)) ∧ Below w.heap.size w w' := by
  obtain ⟨s1, -, -, -⟩ := sizeB_iff (may_size hm)
  obtain ⟨i2, hk, hx0, hx1, hx2⟩ := info_parts infoInt
  have HM : Hid (mayD C loops = true) := hm
  have HD : Hid (Dr w a cap C gF gT) := hD
  unfold drV
  obtain ⟨N, hN⟩ : ∃ N, N = 2 * C.length + 1 := ⟨_, rfl⟩
  have HN : Hid (N = 2 * C.length + 1) := hN
  have hN1 : 1 ≤ N := by omega
  have hN2 : N ≤ 33 := by omega
  rw [← hN]
  clear hN hm hD
  obtain ⟨w0, hw0⟩ : ∃ w0, w0 = w.alloc (.cells #[.slice a C.length cap, .int .i64 loops, .slice (some ⟨gF, 0, none⟩) N cF, .slice (some ⟨gT, 0, none⟩) N cT] 120) := ⟨_, rfl⟩
  have HW0 : Hid (w0 = w.alloc (.cells #[.slice a C.length cap, .int .i64 loops, .slice (some ⟨gF, 0, none⟩) N cF, .slice (some ⟨gT, 0, none⟩) N cT] 120)) := hw0
  have hs0 : w0.heap.size = w.heap.size + 1 := by rw [hw0]; simp
  have HB0 : Hid (Below w.heap.size w w0) := (by rw [hw0]; exact (Below.refl _ _).alloc (Nat.le_refl _) _ : Below w.heap.size w w0)
  have HT0 : Hid (w0.heap[w.heap.size]? = some (.cells #[.slice a C.length cap, .int .i64 loops, .slice (some ⟨gF, 0, none⟩) N cF, .slice (some ⟨gT, 0, none⟩) N cT] 120 (0, 0))) := (by rw [hw0]; exact alloc_at rfl : w0.heap[w.heap.size]? = some (.cells #[.slice a C.length cap, .int .i64 loops, .slice (some ⟨gF, 0, none⟩) N cF, .slice (some ⟨gT, 0, none⟩) N cT] 120 (0, 0)))
  clear hw0
  go_enter Try.func177, Try.ntmps177
  go_wp2_with (first | (at_make; refine wpList_make_full _ rfl _ _ 61 rfl (w.heap.size + 1) 3 i2 (.int .i64 0) 1 Try.underlying61 hk hx0 hx1 .i64 .i64 _ _ N rfl rfl rfl rfl (by rw [hx2]; omega) (by unfold maxLen; omega) (by simp) ?_; intro w1 hrow hg1; refine Hid.out ?_))
  refine Lib.hid ?_
  rw [← HW0.out] at hrow hg1
  rw [made_zeroN, hs0, labTo_zero] at hrow
  have HP0 : Hid (w1.heap[w.heap.size]? = some (.cells #[.slice a C.length cap, .int .i64 loops, .slice (some ⟨gF, 0, none⟩) N cF, .slice (some ⟨gT, 0, none⟩) N cT] 120 (0, 0)) ∧ w1.ownsRow (w.heap.size + 1) 3 1 (.slice (some ⟨w.heap.size + 1, 0, none⟩) N N) N (nats (labTo N 0)) ∧ Below w.heap.size w w1) := ⟨(hg1.block _ (by omega) (by simp)).trans HT0.out, hrow, HB0.out.grown hg1 (by omega) (fun k hk => by cases hk)⟩
  clear hrow hg1 HT0 HB0 hs0 HW0
  go_wp2
  go_loopw [16] (fun v5 wr => ∃ i : Nat, i ≤ N ∧ v5 = .int .i64 (i : Nat) ∧ Hid (wr.heap[w.heap.size]? = some (.cells #[.slice a C.length cap, .int .i64 loops, .slice (some ⟨gF, 0, none⟩) N cF, .slice (some ⟨gT, 0, none⟩) N cT] 120 (0, 0)) ∧ wr.ownsRow (w.heap.size + 1) 3 1 (.slice (some ⟨w.heap.size + 1, 0, none⟩) N N) N (nats (labTo N i)) ∧ Below w.heap.size w wr)) (fun v5 _ => N - (intOf v5).toNat)
  case atStart => exact ⟨0, Nat.zero_le _, rfl, HP0.out⟩
  case round =>
    clear HP0
    rename World => W1
    obtain ⟨i, hin, rfl, hp⟩ := hrel
    have hlt := hp.out.2.1.lt (w.heap.size + 1) rfl
    by_cases hil : i < N
    · have hst := hp.out.2.1.stored i (.int .i64 (i : Nat))
      rw [nats_set, labTo_next] at hst
      have HST : Hid ((W1.setCell ⟨w.heap.size + 1, i, none⟩ (.int .i64 (i : Nat))).heap[w.heap.size]? = some (.cells #[.slice a C.length cap, .int .i64 loops, .slice (some ⟨gF, 0, none⟩) N cF, .slice (some ⟨gT, 0, none⟩) N cT] 120 (0, 0)) ∧ (W1.setCell ⟨w.heap.size + 1, i, none⟩ (.int .i64 (i : Nat))).ownsRow (w.heap.size + 1) 3 1 (.slice (some ⟨w.heap.size + 1, 0, none⟩) N N) N (nats (labTo N (i + 1))) ∧ Below w.heap.size w (W1.setCell ⟨w.heap.size + 1, i, none⟩ (.int .i64 (i : Nat)))) := ⟨(hst.2.block _ (by omega) (fun e => by have : w.heap.size = w.heap.size + 1 := Option.some.inj e; omega)).trans hp.out.1, hst.1, hp.out.2.2.grown hst.2 hp.out.2.2.size (fun q hq => by have := Option.some.inj hq; omega)⟩
      have e0 : W1.cell? ⟨w.heap.size + 1, i, none⟩ = some (.int .i64 ((labTo N i).getD i 0 : Nat)) := by
        rw [hp.out.2.1.cellAt i (by omega)]; exact nats_get _ i (by simp [labTo]; omega)
      have z0 : W1.frozen? ⟨w.heap.size + 1, i, none⟩ = false := hp.out.2.1.frozenAt i
      have hdi : (i : Int) ≤ 2 * (C.length : Int) := by have := HN.out; omega
      clear hst
      go_wp2
      go_roundw
      case rel => exact ⟨i + 1, by omega, by go_num, HST.out⟩
      case measure => simp only [intOf]; omega
    · obtain rfl : N = i := by omega
      have HP1 : Hid (W1.heap[w.heap.size]? = some (.cells #[.slice a C.length cap, .int .i64 loops, .slice (some ⟨gF, 0, none⟩) N cF, .slice (some ⟨gT, 0, none⟩) N cT] 120 (0, 0)) ∧ W1.ownsRow (w.heap.size + 1) 3 1 (.slice (some ⟨w.heap.size + 1, 0, none⟩) N N) N (nats (mers (List.range N) ((ovE C).take 0))) ∧ Below w.heap.size w W1) := (by have h := hp.out; rw [labTo_all] at h; exact h : W1.heap[w.heap.size]? = some (.cells #[.slice a C.length cap, .int .i64 loops, .slice (some ⟨gF, 0, none⟩) N cF, .slice (some ⟨gT, 0, none⟩) N cT] 120 (0, 0)) ∧ W1.ownsRow (w.heap.size + 1) 3 1 (.slice (some ⟨w.heap.size + 1, 0, none⟩) N N) N (nats (mers (List.range N) ((ovE C).take 0))) ∧ Below w.heap.size w W1)
      have t0 : W1.cell? ⟨w.heap.size, 0, none⟩ = some (.slice a C.length cap) := block_cell hp.out.1 rfl
      have hdn : decide ((N : Int) < (N : Int)) = false := by simp
      have hdn2 : decide (N < N) = false := by simp
      clear hp
      go_wp2
      go_loopw [28] (fun v28 wr => ∃ k : Nat, k ≤ C.length ∧ v28 = .int .i64 (k : Nat) ∧ Hid (wr.heap[w.heap.size]? = some (.cells #[.slice a C.length cap, .int .i64 loops, .slice (some ⟨gF, 0, none⟩) N cF, .slice (some ⟨gT, 0, none⟩) N cT] 120 (0, 0)) ∧ wr.ownsRow (w.heap.size + 1) 3 1 (.slice (some ⟨w.heap.size + 1, 0, none⟩) N N) N (nats (mers (List.range N) ((ovE C).take k))) ∧ Below w.heap.size w wr)) (fun v28 _ => C.length - (intOf v28).toNat)
      case atStart => exact ⟨0, Nat.zero_le _, rfl, HP1.out⟩
      case round =>
        clear HP1 t0
        rename World => W2
        obtain ⟨k, hin2, rfl, hp⟩ := hrel
        by_cases hil2 : k < C.length
        · obtain ⟨b, off, ea, hbw, hC⟩ := HD.out.cross (by omega)
          have t0 : W2.cell? ⟨w.heap.size, 0, none⟩ = some (.slice a C.length cap) := block_cell hp.out.1 rfl
          have ff := may_fit HM.out k 1 hil2 (by omega)
          have fg := may_fit HM.out k 3 hil2 (by omega)
          have HX : Hid ((C.getD k Cr.none).arc 1 = (C.getD k Cr.none).b ∧ (C.getD k Cr.none).arc 3 = (C.getD k Cr.none).d) := ⟨rfl, rfl⟩
          have f1 := ff.1
          have f2 := ff.2.1
          have f3 := fg.1
          have f4 := fg.2.1
          rw [HX.out.1] at f1 f2
          rw [HX.out.2] at f3 f4
          obtain ⟨e0, e1, e2, e3, e4⟩ := (hC.on hp.out.2.2 hbw) k hil2
          obtain ⟨x, hx⟩ : ∃ x : Nat, (C.getD k Cr.none).b = (x : Int) := ⟨(C.getD k Cr.none).b.toNat, by omega⟩
          obtain ⟨y, hy⟩ : ∃ y : Nat, (C.getD k Cr.none).d = (y : Int) := ⟨(C.getD k Cr.none).d.toNat, by omega⟩
          have hxN : x < N := by have := HN.out; omega
          have hyN : y < N := by have := HN.out; omega
          obtain ⟨ca, hca⟩ : ∃ z, (C.getD k Cr.none).a = z := ⟨_, rfl⟩
          obtain ⟨cc, hcc⟩ : ∃ z, (C.getD k Cr.none).c = z := ⟨_, rfl⟩
          obtain ⟨cp, hcp⟩ : ∃ z, (C.getD k Cr.none).plus = z := ⟨_, rfl⟩
          have HLV : Hid (mers (List.range N) ((ovE C).take (k + 1)) = mer (mers (List.range N) ((ovE C).take k)) x y) := (by rw [mers_ov _ C k hil2, hx, hy]; rfl : mers (List.range N) ((ovE C).take (k + 1)) = mer (mers (List.range N) ((ovE C).take k)) x y)
          have HLL : Hid ((mers (List.range N) ((ovE C).take k)).length = N) := (by rw [mers_len]; simp : (mers (List.range N) ((ovE C).take k)).length = N)
          rw [hca] at e0
          rw [hx] at e1
          rw [hcc] at e2
          rw [hy] at e3
          rw [hcp] at e4
          obtain ⟨L, hL⟩ : ∃ L, mers (List.range N) ((ovE C).take k) = L := ⟨_, rfl⟩
          rw [hL] at HLV HLL hp
          have hsW := hp.out.2.2.size
          have hgl := (hp.out.2.1.lt (w.heap.size + 1) rfl).2
          have hbW : b < W2.heap.size := by omega
          have hii : (k : Int) < (C.length : Int) := by omega
          have d0 : W2.cell? ⟨w.heap.size + 1, x, none⟩ = some (.int .i64 (L.getD x 0 : Nat)) := by
            rw [hp.out.2.1.cellAt x (by omega)]; exact nats_get _ x (by rw [HLL.out]; exact hxN)
          have d1 : W2.cell? ⟨w.heap.size + 1, y, none⟩ = some (.int .i64 (L.getD y 0 : Nat)) := by
            rw [hp.out.2.1.cellAt y (by omega)]; exact nats_get _ y (by rw [HLL.out]; exact hyN)
          obtain ⟨p, hpx⟩ : ∃ p, L.getD x 0 = p := ⟨_, rfl⟩
          obtain ⟨q, hqx⟩ : ∃ q, L.getD y 0 = q := ⟨_, rfl⟩
          rw [hpx] at d0
          rw [hqx] at d1
          have HPQ : Hid (L.getD x 0 = p ∧ L.getD y 0 = q) := ⟨hpx, hqx⟩
          obtain ⟨X, hX⟩ : ∃ X, X = (W2.alloc (.cells #[.int .i64 ca, .int .i64 (x : Nat), .int .i64 cc, .int .i64 (y : Nat), .bool cp] 70)) := ⟨_, rfl⟩
          have HX0 : Hid (X = (W2.alloc (.cells #[.int .i64 ca, .int .i64 (x : Nat), .int .i64 cc, .int .i64 (y : Nat), .bool cp] 70))) := hX
          have HGX : Hid (W2.grownBy X none) := (by rw [hX]; exact World.grownBy_alloc _ _ none : W2.grownBy X none)
          have hXs : X.heap.size = W2.heap.size + 1 := by rw [hX]; simp
          have HXB : Hid (X.heap[W2.heap.size]? = some (.cells #[.int .i64 ca, .int .i64 (x : Nat), .int .i64 cc, .int .i64 (y : Nat), .bool cp] 70 (0, 0))) := (by rw [hX]; exact alloc_at rfl : X.heap[W2.heap.size]? = some (.cells #[.int .i64 ca, .int .i64 (x : Nat), .int .i64 cc, .int .i64 (y : Nat), .bool cp] 70 (0, 0)))
          have HXR : Hid (X.heap[w.heap.size]? = some (.cells #[.slice a C.length cap, .int .i64 loops, .slice (some ⟨gF, 0, none⟩) N cF, .slice (some ⟨gT, 0, none⟩) N cT] 120 (0, 0)) ∧ X.ownsRow (w.heap.size + 1) 3 1 (.slice (some ⟨w.heap.size + 1, 0, none⟩) N N) N (nats (L)) ∧ Below w.heap.size w X) := ⟨(HGX.out.block _ (by omega) (by simp)).trans hp.out.1, own_any hp.out.2.1 HGX.out, hp.out.2.2.grown HGX.out hsW (fun z hz => by cases hz)⟩
          clear hC ff fg f1 f2 f3 f4 hx hy hca hcc hcp hL hpx hqx hX
          go_wp2
          rw [← HX0.out]
          have x1 : X.cell? ⟨W2.heap.size, 1, none⟩ = some (.int .i64 (x : Nat)) := block_cell HXB.out rfl
          have x3 : X.cell? ⟨W2.heap.size, 3, none⟩ = some (.int .i64 (y : Nat)) := block_cell HXB.out rfl
          have y0 : X.cell? ⟨w.heap.size + 1, x, none⟩ = some (.int .i64 (p : Nat)) := (by rw [HXR.out.2.1.cellAt x (by omega), nats_get _ x (by rw [HLL.out]; exact hxN), HPQ.out.1])
          have y1 : X.cell? ⟨w.heap.size + 1, y, none⟩ = some (.int .i64 (q : Nat)) := (by rw [HXR.out.2.1.cellAt y (by omega), nats_get _ y (by rw [HLL.out]; exact hyN), HPQ.out.2])
          clear d0 d1 e0 e1 e2 e3 e4
          obtain ⟨lo, hlo⟩ : ∃ lo, min p q = lo := ⟨_, rfl⟩
          obtain ⟨hi, hhi⟩ : ∃ hi, max p q = hi := ⟨_, rfl⟩
          have E1 : (if q < p then (q : Int) else (p : Int)) = (lo : Int) := by rw [← hlo]; split <;> omega
          have E2 : (if p < q then (q : Int) else (p : Int)) = (hi : Int) := by rw [← hhi]; split <;> omega
          have HLH : Hid (min p q = lo ∧ max p q = hi) := ⟨hlo, hhi⟩
          clear hlo hhi
          apply cut_one
          case h =>
            intro key
            go_region_held3 (fun w' => w'.cell? ⟨W2.heap.size, 1, none⟩ = some (.int .i64 (x : Nat)) ∧ w'.cell? ⟨W2.heap.size, 3, none⟩ = some (.int .i64 (y : Nat)) ∧ w'.cell? ⟨w.heap.size + 1, x, none⟩ = some (.int .i64 (p : Nat)) ∧ w'.cell? ⟨w.heap.size + 1, y, none⟩ = some (.int .i64 (q : Nat))) (exact ⟨x1, x3, y0, y1⟩) (fail)
            all_goals
              exact key.out
          rw [← ea]
          clear x1 x3 y0 y1 E1 E2 ea
          have HQ0 : Hid (X.drew.heap[w.heap.size]? = some (.cells #[.slice a C.length cap, .int .i64 loops, .slice (some ⟨gF, 0, none⟩) N cF, .slice (some ⟨gT, 0, none⟩) N cT] 120 (0, 0)) ∧ X.drew.ownsRow (w.heap.size + 1) 3 1 (.slice (some ⟨w.heap.size + 1, 0, none⟩) N N) N (nats (merTo L x y 0)) ∧ Below w.heap.size w X.drew) := (by rw [merTo_zero]; exact ⟨HXR.out.1, own_any HXR.out.2.1 (grown_below ((Below.refl _ _).drew) none), HXR.out.2.2.drew⟩ : X.drew.heap[w.heap.size]? = some (.cells #[.slice a C.length cap, .int .i64 loops, .slice (some ⟨gF, 0, none⟩) N cF, .slice (some ⟨gT, 0, none⟩) N cT] 120 (0, 0)) ∧ X.drew.ownsRow (w.heap.size + 1) 3 1 (.slice (some ⟨w.heap.size + 1, 0, none⟩) N N) N (nats (merTo L x y 0)) ∧ Below w.heap.size w X.drew)
          have HME : Hid (∀ v, v < N → (mer L x y).getD v 0 = if L.getD v 0 = hi then lo else L.getD v 0) := fun v hv => by rw [mer_at L x y v (by rw [HLL.out]; exact hv), HPQ.out.1, HPQ.out.2, HLH.out.1, HLH.out.2]
          have hdk : decide ((k : Int) < (C.length : Int)) = true := by simp; omega
          have hdk2 : decide (k < C.length) = true := by simp; omega
          clear HXR HXB HGX HX0 HPQ HLH
          go_wp2
          go_loopw [56] (fun v56 wr => ∃ j : Nat, j ≤ N ∧ v56 = .int .i64 (j : Nat) ∧ Hid (wr.heap[w.heap.size]? = some (.cells #[.slice a C.length cap, .int .i64 loops, .slice (some ⟨gF, 0, none⟩) N cF, .slice (some ⟨gT, 0, none⟩) N cT] 120 (0, 0)) ∧ wr.ownsRow (w.heap.size + 1) 3 1 (.slice (some ⟨w.heap.size + 1, 0, none⟩) N N) N (nats (merTo L x y j)) ∧ Below w.heap.size w wr)) (fun v56 _ => N - (intOf v56).toNat)
          case atStart => exact ⟨0, Nat.zero_le _, rfl, HQ0.out⟩
          case round =>
            clear HQ0
            rename World => W3
            obtain ⟨j, hjn, rfl, hq⟩ := hrel
            have hg3 := (hq.out.2.1.lt (w.heap.size + 1) rfl).2
            by_cases hjl : j < N
            · have f0 : W3.cell? ⟨w.heap.size + 1, j, none⟩ = some (.int .i64 (L.getD j 0 : Nat)) := by
                rw [hq.out.2.1.cellAt j (by omega), nats_get _ j (by rw [merTo_len, HLL.out]; exact hjl), merTo_at _ _ _ _ _ (by rw [HLL.out]; exact hjl), if_neg (by omega)]
              obtain ⟨z, hz⟩ : ∃ z, L.getD j 0 = z := ⟨_, rfl⟩
              have HZ : Hid (L.getD j 0 = z) := hz
              rw [hz] at f0
              clear hz
              by_cases hzh : z = hi
              · subst hzh
                have hst := hq.out.2.1.stored j (.int .i64 (lo : Nat))
                rw [nats_set, merTo_next L x y j lo (by rw [HLL.out]; exact hjl) (by rw [HME.out j hjl, HZ.out, if_pos rfl])] at hst
                have HST : Hid ((W3.setCell ⟨w.heap.size + 1, j, none⟩ (.int .i64 (lo : Nat))).heap[w.heap.size]? = some (.cells #[.slice a C.length cap, .int .i64 loops, .slice (some ⟨gF, 0, none⟩) N cF, .slice (some ⟨gT, 0, none⟩) N cT] 120 (0, 0)) ∧ (W3.setCell ⟨w.heap.size + 1, j, none⟩ (.int .i64 (lo : Nat))).ownsRow (w.heap.size + 1) 3 1 (.slice (some ⟨w.heap.size + 1, 0, none⟩) N N) N (nats (merTo L x y (j + 1))) ∧ Below w.heap.size w (W3.setCell ⟨w.heap.size + 1, j, none⟩ (.int .i64 (lo : Nat)))) := ⟨(hst.2.block _ (by omega) (fun e => by have : w.heap.size = w.heap.size + 1 := Option.some.inj e; omega)).trans hq.out.1, hst.1, hq.out.2.2.grown hst.2 hq.out.2.2.size (fun q hq => by have := Option.some.inj hq; omega)⟩
                have z0 : W3.frozen? ⟨w.heap.size + 1, j, none⟩ = false := hq.out.2.1.frozenAt j
                have hzz : ((z : Int) == (z : Int)) = true := by simp
                clear hst
                go_wp2
                go_roundw
                case rel => exact ⟨j + 1, by omega, by go_num, HST.out⟩
                case measure => simp only [intOf]; omega
              · have hzz : ((z : Int) == (hi : Int)) = false := by simp; omega
                have hzz2 : (z == hi) = false := by simp; omega
                have HST : Hid (W3.heap[w.heap.size]? = some (.cells #[.slice a C.length cap, .int .i64 loops, .slice (some ⟨gF, 0, none⟩) N cF, .slice (some ⟨gT, 0, none⟩) N cT] 120 (0, 0)) ∧ W3.ownsRow (w.heap.size + 1) 3 1 (.slice (some ⟨w.heap.size + 1, 0, none⟩) N N) N (nats (merTo L x y (j + 1))) ∧ Below w.heap.size w W3) := (by rw [← merTo_same L x y j (by rw [HLL.out]; exact hjl) (by rw [HME.out j hjl, HZ.out, if_neg hzh])]; exact hq.out : W3.heap[w.heap.size]? = some (.cells #[.slice a C.length cap, .int .i64 loops, .slice (some ⟨gF, 0, none⟩) N cF, .slice (some ⟨gT, 0, none⟩) N cT] 120 (0, 0)) ∧ W3.ownsRow (w.heap.size + 1) 3 1 (.slice (some ⟨w.heap.size + 1, 0, none⟩) N N) N (nats (merTo L x y (j + 1))) ∧ Below w.heap.size w W3)
                go_wp2
                go_roundw
                case rel => exact ⟨j + 1, by omega, by go_num, HST.out⟩
                case measure => simp only [intOf]; omega
            · obtain rfl : N = j := by omega
              go_wp2
              go_roundw
              case rel => exact ⟨k + 1, by omega, by go_num, (by have h := hq.out; rw [← HLL.out, merTo_all, HLL.out] at h; rw [HLV.out]; exact h : W3.heap[w.heap.size]? = some (.cells #[.slice a C.length cap, .int .i64 loops, .slice (some ⟨gF, 0, none⟩) N cF, .slice (some ⟨gT, 0, none⟩) N cT] 120 (0, 0)) ∧ W3.ownsRow (w.heap.size + 1) 3 1 (.slice (some ⟨w.heap.size + 1, 0, none⟩) N N) N (nats (mers (List.range N) ((ovE C).take (k + 1)))) ∧ Below w.heap.size w W3)⟩
              case measure => simp only [intOf]; omega
        · obtain rfl : k = C.length := by omega
          go_wp2
          go_ret
          exact ⟨_, rfl, (by have h := hp.out.2.1; rw [ovE_all] at h; have e : lowM C = mers (List.range N) (ovE C) := (by unfold lowM; rw [HN.out]); rw [e]; exact own_low h (by omega)), hp.out.2.2⟩
end Go.Proofs.Ytnhllpaoplfgpaa
