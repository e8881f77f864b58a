/- The walk of Drawing.united, with the arc on which the other strand goes on. -/
import Derived.Test.YtajmogojekichaaJ1
import Derived.Test.YtajmogojekichaaHs
import Derived.Test.YtajmogojekichaaOm
import Derived.Test.YtajmogojekichaaF3P
namespace Go.Proofs.Ytajmogojekichaa
open Go.RowKit

/-- The drawing's box, the labels under way. -/
structure UnAt (w : World) (N : Nat) (box : Array Value) (L : List Nat) (wr : World) : Prop where
  box : wr.heap[w.heap.size]? = some (.cells box 88 (0, 0))
  row : wr.ownsRow (w.heap.size + 1) 3 1 (.slice (some ⟨w.heap.size + 1, 0, none⟩) N N) N (nats L)
  bel : Below w.heap.size w wr
theorem UnAt.on {w wr w' : World} {N : Nat} {box : Array Value} {L : List Nat} (h : UnAt w N box L wr) (hb : Below wr.heap.size wr w') : UnAt w N box L w' :=
  ⟨(hb.block _ (Array.getElem?_eq_some_iff.1 h.box).1).trans h.box, own_any h.row (grown_below hb none), h.bel.trans (hb.mono h.bel.size)⟩
theorem UnAt.set {w wr : World} {N : Nat} {box : Array Value} {L M : List Nat} {i z : Nat} (h : UnAt w N box L wr) (e : L.set i z = M) : UnAt w N box M (wr.setCell ⟨w.heap.size + 1, i, none⟩ (.int .i64 (z : Nat))) := by
  have hst := h.row.stored i (.int .i64 (z : Nat))
  rw [nats_set, e] at hst
  have hlt := h.row.lt (w.heap.size + 1) rfl
  exact ⟨(hst.2.block _ (by omega) (fun e => by have : w.heap.size = w.heap.size + 1 := Option.some.inj e; omega)).trans h.box, hst.1, h.bel.grown hst.2 h.bel.size (fun q hq => by have := Option.some.inj hq; omega)⟩
theorem UnAt.at_ {w wr : World} {N : Nat} {box : Array Value} {L : List Nat} (h : UnAt w N box L wr) (hl : L.length = N) (i : Nat) (hi : i < N) : wr.cell? ⟨w.heap.size + 1, i, none⟩ = some (.int .i64 (L.getD i 0 : Nat)) := by
  rw [h.row.cellAt i (by omega)]; exact nats_get _ i (by omega)
theorem UnAt.fz {w wr : World} {N : Nat} {box : Array Value} {L : List Nat} (h : UnAt w N box L wr) (i : Nat) : wr.frozen? ⟨w.heap.size + 1, i, none⟩ = false := h.row.frozenAt i
theorem UnAt.lt {w wr : World} {N : Nat} {box : Array Value} {L : List Nat} (h : UnAt w N box L wr) : w.heap.size + 1 < wr.heap.size := (h.row.lt (w.heap.size + 1) rfl).2
/-- The numbers of the crossings that are gone. -/
def GonAt (w : World) (b : Nat) (G : List Nat) : Prop := b < w.heap.size ∧ ∀ i, i < G.length → w.cell? ⟨b, 0 + i, none⟩ = some (.int .i64 (G.getD i 0 : Nat))
theorem GonAt.on {w w' : World} {b : Nat} {G : List Nat} (h : GonAt w b G) (hb : Below w.heap.size w w') : GonAt w' b G := ⟨Nat.lt_of_lt_of_le h.1 hb.size, fun i hi => bcell hb h.1 (h.2 i hi)⟩
theorem mers_uTo (C : List Cr) (f : Nat → Nat) (G : List Nat) (V : List Nat) (a : Nat) : mers V (uTo C f G (a + 1)) = if toC C (a + 1) ∈ G then mer (mers V (uTo C f G a)) (a + 1) (f (a + 1)) else mers V (uTo C f G a) := by
  rw [uTo, mers_app]
  split <;> rfl

set_option maxHeartbeats 16000000 in
set_option maxRecDepth 100000 in
theorem united_aside (a : Option Addr) (cap : Nat) (C : List Cr) (loops : Int) (gF cF gT cT : Nat) (bG cG : Nat) (G : List Nat) (w : World) (hm : mayD C loops = true) (hD : Dr w a cap C gF gT) (hG1 : G.length ≤ 16) (hG : GonAt w bG G) :
    Calls Try.prog 153 #[drV a cap C loops gF cF gT cT, .func (.func 104) #[drV a cap C loops gF cF gT cT] #[], .slice (some ⟨bG, 0, none⟩) G.length cG] w fun e w' => ∃ g, e = .returned (.slice (some ⟨g, 0, none⟩) (2 * C.length + 1) (2 * C.length + 1)) ∧ w'.ownsRow w.heap.size 3 1 (.slice (some ⟨g, 0, none⟩) (2 * C.length + 1) (2 * C.length + 1)) (2 * C.length + 1) (nats (uniM C (sx C) G)) ∧ Below w.heap.size w w' := by
  obtain ⟨s1, -, -, -⟩ := sizeB_iff (may_size hm)
  obtain ⟨i2, hk, hx0, hx1, hx2⟩ := info_parts infoInt
  have HM : Hid (mayD C loops = true) := hm
  have HD : Hid (Dr w a cap C gF gT) := hD
  have HG : Hid (GonAt w bG G) := hG
  have hbG := hG.1
  have HAS : Hid (∀ x W, 1 ≤ x → x ≤ 2 * C.length → Dr W a cap C gF gT → Calls Try.prog 104 #[drV a cap C loops gF cF gT cT, .int .i64 x] W fun e w' => e = .returned (.int .i64 (sx C x : Nat)) ∧ Below W.heap.size W w') := fun x W h1 h2 hW => aside_any a cap C loops gF cF gT cT x W HM.out h1 h2 hW
  have HHS : Hid (∀ (x : Nat) W, Calls Try.prog 69 #[drV a cap C loops gF cF gT cT, .int .i64 (x : Nat)] W fun e w' => e = .returned (.bool (hasB C x)) ∧ Below W.heap.size W w') := fun x W => has_any a cap C loops gF cF gT cT x W s1
  unfold drV at HAS HHS ⊢
  obtain ⟨N, hN⟩ : ∃ N, N = 2 * C.length + 1 := ⟨_, rfl⟩
  have HN : Hid (N = 2 * C.length + 1) := hN
  have hN1 : 1 ≤ N := by omega
  have hN2 : N ≤ 33 := by omega
  rw [← hN] at HAS HHS ⊢
  clear hN hm hD hG
  obtain ⟨w0, hw0⟩ : ∃ w0, w0 = w.alloc (.cells #[.slice a C.length cap, .int .i64 loops, .slice (some ⟨gF, 0, none⟩) N cF, .slice (some ⟨gT, 0, none⟩) N cT] 88) := ⟨_, rfl⟩
  have HW0 : Hid (w0 = w.alloc (.cells #[.slice a C.length cap, .int .i64 loops, .slice (some ⟨gF, 0, none⟩) N cF, .slice (some ⟨gT, 0, none⟩) N cT] 88)) := hw0
  have hs0 : w0.heap.size = w.heap.size + 1 := by rw [hw0]; simp
  have HB0 : Hid (Below w.heap.size w w0) := (by rw [hw0]; exact (Below.refl _ _).alloc (Nat.le_refl _) _ : Below w.heap.size w w0)
  have HT0 : Hid (w0.heap[w.heap.size]? = some (.cells #[.slice a C.length cap, .int .i64 loops, .slice (some ⟨gF, 0, none⟩) N cF, .slice (some ⟨gT, 0, none⟩) N cT] 88 (0, 0))) := (by rw [hw0]; exact alloc_at rfl : w0.heap[w.heap.size]? = some (.cells #[.slice a C.length cap, .int .i64 loops, .slice (some ⟨gF, 0, none⟩) N cF, .slice (some ⟨gT, 0, none⟩) N cT] 88 (0, 0)))
  clear hw0
  go_enter Try.func153, Try.ntmps153
  go_wp2_with (first | (at_make; refine wpList_make_full _ rfl _ _ 36 rfl (w.heap.size + 1) 3 i2 (.int .i64 0) 1 Try.underlying36 hk hx0 hx1 .i64 .i64 _ _ N rfl rfl rfl rfl (by rw [hx2]; omega) (by unfold maxLen; omega) (by simp) ?_; intro w1 hrow hg1; refine Hid.out ?_))
  refine Lib.hid ?_
  rw [← HW0.out] at hrow hg1
  rw [made_zeroN, hs0, labTo_zero] at hrow
  have HP0 : Hid (UnAt w N #[.slice a C.length cap, .int .i64 loops, .slice (some ⟨gF, 0, none⟩) N cF, .slice (some ⟨gT, 0, none⟩) N cT] (labTo N 0) w1) := ⟨(hg1.block _ (by omega) (by simp)).trans HT0.out, hrow, HB0.out.grown hg1 (by omega) (fun k hk => by cases hk)⟩
  clear hrow hg1 HT0 HB0 hs0 HW0
  go_wp2
  go_loopw [19] (fun v5 wr => ∃ i : Nat, i ≤ N ∧ v5 = .int .i64 (i : Nat) ∧ Hid (UnAt w N #[.slice a C.length cap, .int .i64 loops, .slice (some ⟨gF, 0, none⟩) N cF, .slice (some ⟨gT, 0, none⟩) N cT] (labTo N i) wr)) (fun v5 _ => N - (intOf v5).toNat)
  case atStart => exact ⟨0, Nat.zero_le _, rfl, HP0.out⟩
  case round =>
    clear HP0
    rename World => W1
    obtain ⟨i, hin, rfl, hp⟩ := hrel
    have hlt := hp.out.lt
    by_cases hil : i < N
    · have HST : Hid (UnAt w N #[.slice a C.length cap, .int .i64 loops, .slice (some ⟨gF, 0, none⟩) N cF, .slice (some ⟨gT, 0, none⟩) N cT] (labTo N (i + 1)) (W1.setCell ⟨w.heap.size + 1, i, none⟩ (.int .i64 (i : Nat)))) := hp.out.set (labTo_next N i)
      have e0 := hp.out.at_ (by simp [labTo]) i hil
      have z0 := hp.out.fz i
      generalize (labTo N i).getD i 0 = u at e0
      go_wp2
      go_roundw
      case rel => exact ⟨i + 1, by omega, by go_num, HST.out⟩
      case measure => simp only [intOf]; omega
    · obtain rfl : N = i := by omega
      have HP1 : Hid (UnAt w N #[.slice a C.length cap, .int .i64 loops, .slice (some ⟨gF, 0, none⟩) N cF, .slice (some ⟨gT, 0, none⟩) N cT] (mers (List.range N) (uTo C (sx C) G 0)) W1) := (by have h := hp.out; rw [labTo_all] at h; exact h : UnAt w N #[.slice a C.length cap, .int .i64 loops, .slice (some ⟨gF, 0, none⟩) N cF, .slice (some ⟨gT, 0, none⟩) N cT] (mers (List.range N) (uTo C (sx C) G 0)) W1)
      have hdn : decide ((N : Int) < (N : Int)) = false := by simp
      have hdn2 : decide (N < N) = false := by simp
      clear hp
      go_wp2
      go_loopw [9] (fun v9 wr => ∃ k : Nat, k < N ∧ v9 = .int .i64 ((k + 1 : Nat) : Int) ∧ Hid (UnAt w N #[.slice a C.length cap, .int .i64 loops, .slice (some ⟨gF, 0, none⟩) N cF, .slice (some ⟨gT, 0, none⟩) N cT] (mers (List.range N) (uTo C (sx C) G k)) wr)) (fun v9 _ => N + 1 - (intOf v9).toNat)
      case atStart => exact ⟨0, by omega, rfl, HP1.out⟩
      case round =>
        clear HP1
        rename World => W2
        obtain ⟨k, hkN, rfl, hp⟩ := hrel
        obtain ⟨x, hxk⟩ : ∃ x, x = k + 1 := ⟨_, rfl⟩
        have HXK : Hid (x = k + 1) := hxk
        rw [← hxk]
        have hx1' : 1 ≤ x := by omega
        have hxN1 : x ≤ N := by omega
        have HLL : Hid ((mers (List.range N) (uTo C (sx C) G k)).length = N) := (by rw [mers_len]; simp : (mers (List.range N) (uTo C (sx C) G k)).length = N)
        have HLV : Hid (mers (List.range N) (uTo C (sx C) G x) = if toC C x ∈ G then mer (mers (List.range N) (uTo C (sx C) G k)) x (sx C x) else mers (List.range N) (uTo C (sx C) G k)) := (by rw [hxk]; exact mers_uTo C (sx C) G _ k : mers (List.range N) (uTo C (sx C) G x) = if toC C x ∈ G then mer (mers (List.range N) (uTo C (sx C) G k)) x (sx C x) else mers (List.range N) (uTo C (sx C) G k))
        have HDN : Hid (x = N → mers (List.range N) (uTo C (sx C) G k) = uniM C (sx C) G) := (fun e => by unfold uniM; rw [← HN.out]; have : k = 2 * C.length := by have := HN.out; omega
                                                                                                          rw [this] : x = N → mers (List.range N) (uTo C (sx C) G k) = uniM C (sx C) G)
        clear hxk
        obtain ⟨L, hL⟩ : ∃ L, mers (List.range N) (uTo C (sx C) G k) = L := ⟨_, rfl⟩
        rw [hL] at HLL HLV HDN hp
        clear hL hkN
        have HP : Hid (UnAt w N #[.slice a C.length cap, .int .i64 loops, .slice (some ⟨gF, 0, none⟩) N cF, .slice (some ⟨gT, 0, none⟩) N cT] L W2) := hp.out
        have hs2 := hp.out.bel.size
        have hbx := hp.out.box
        have t0 : W2.cell? ⟨w.heap.size, 0, none⟩ = some (.slice a C.length cap) := block_cell hbx rfl
        have t1 : W2.cell? ⟨w.heap.size, 1, none⟩ = some (.int .i64 loops) := block_cell hbx rfl
        have t2 : W2.cell? ⟨w.heap.size, 2, none⟩ = some (.slice (some ⟨gF, 0, none⟩) N cF) := block_cell hbx rfl
        have t3 : W2.cell? ⟨w.heap.size, 3, none⟩ = some (.slice (some ⟨gT, 0, none⟩) N cT) := block_cell hbx rfl
        have lt2 : w.heap.size < W2.heap.size := (Array.getElem?_eq_some_iff.1 hbx).1
        clear hbx hp
        by_cases hxl : x < N
        · have HHB : Hid (hasB C (x : Int) = true) := (by have := HN.out; simp [hasB]; omega : hasB C (x : Int) = true)
          have hx2' : x ≤ 2 * C.length := by have := HN.out; omega
          go_wp2_with (go_at_call 69; refine (HHS.out x _).mono ?_; rw [HHB.out]; rintro e9 w3 ⟨rfl, hb3⟩; refine Hid.out ?_)
          refine Lib.hid ?_
          have HP3 : Hid (UnAt w N #[.slice a C.length cap, .int .i64 loops, .slice (some ⟨gF, 0, none⟩) N cF, .slice (some ⟨gT, 0, none⟩) N cT] L w3) := HP.out.on hb3
          have hs3 := HP3.out.bel.size
          have HTO := (HD.out.on HP3.out.bel).toAt HM.out x hx1' hx2'
          have c3 : w3.cell? ⟨w.heap.size, 3, none⟩ = some (.slice (some ⟨gT, 0, none⟩) N cT) := block_cell HP3.out.box rfl
          have c4 := HTO.1
          have HG3 : Hid (GonAt w3 bG G) := HG.out.on HP3.out.bel
          have lt3 : w.heap.size < w3.heap.size := (Array.getElem?_eq_some_iff.1 HP3.out.box).1
          have hgT : gT < w3.heap.size := (HD.out.on HP3.out.bel).ltT
          clear hb3 HTO t0 t1 t2 t3
          by_cases hg : toC C x ∈ G
          · have HH : Hid (hasG G (toC C x : Nat) = true) := (by rw [hasG_nat]; simpa using hg : hasG G (toC C x : Nat) = true)
            rw [if_pos hg] at HLV
            clear hg
            go_wp2_with (go_at_call 154; refine (containsG_any bG 0 cG G _ _ (by omega) HG3.out.1 HG3.out.2).mono ?_; rw [HH.out]; rintro e9 w4 ⟨rfl, hb4⟩; refine Hid.out ?_)
            refine Lib.hid ?_
            have HP4 : Hid (UnAt w N #[.slice a C.length cap, .int .i64 loops, .slice (some ⟨gF, 0, none⟩) N cF, .slice (some ⟨gT, 0, none⟩) N cT] L w4) := HP3.out.on hb4
            clear hb4 c3 c4
            have HD4 : Hid (∀ W, Below w4.heap.size w4 W → Dr W a cap C gF gT) := fun W hW => HD.out.on (HP4.out.on hW).bel
            have HD1 : Hid (Below w4.heap.size w4 w4.drew) := (Below.refl _ _).drew
            have hsxc := sx_closed HM.out x hx1' hx2'
            obtain ⟨y, hy⟩ : ∃ y, sx C x = y := ⟨_, rfl⟩
            have HY : Hid (sx C x = y) := hy
            rw [hy] at hsxc HLV
            have hyN : y < N := by have := HN.out; omega
            clear hy
            obtain ⟨p, hpx⟩ : ∃ p, L.getD x 0 = p := ⟨_, rfl⟩
            obtain ⟨q, hqx⟩ : ∃ q, L.getD y 0 = q := ⟨_, rfl⟩
            have HPQ : Hid (L.getD x 0 = p ∧ L.getD y 0 = q) := ⟨hpx, hqx⟩
            have HQ : Hid (∀ W, Below w4.heap.size w4 W → W.cell? ⟨w.heap.size + 1, x, none⟩ = some (.int .i64 (p : Nat)) ∧ W.cell? ⟨w.heap.size + 1, y, none⟩ = some (.int .i64 (q : Nat))) := fun W hW => by
              have h := HP4.out.on hW
              exact ⟨by rw [h.at_ HLL.out x hxl, HPQ.out.1], by rw [h.at_ HLL.out y hyN, HPQ.out.2]⟩
            clear hpx hqx
            have ix0 : (0 : Int) ≤ (x : Int) := by omega
            have ix1 : (x : Int) < (N : Int) := by omega
            have iy0 : (0 : Int) ≤ (y : Int) := by omega
            have iy1 : (y : Int) < (N : Int) := by omega
            go_wp2
            go_region_held3 (fun w' => w'.cell? ⟨w.heap.size + 1, x, none⟩ = some (.int .i64 (p : Nat)) ∧ w'.cell? ⟨w.heap.size + 1, y, none⟩ = some (.int .i64 (q : Nat))) (first | exact HQ.out _ HZ.out | exact HQ.out _ HD1.out | exact HQ.out _ (Below.refl _ _)) (first | (go_at_call 104; refine (HAS.out x _ hx1' hx2' (HD4.out _ HD1.out)).mono ?_; rw [HY.out]; rintro e9 w5 ⟨rfl, hb5⟩; have HZ : Hid (Below w4.heap.size w4 w5) := HD1.out.trans (hb5.mono HD1.out.size); clear hb5))
            have HP5 : Hid (UnAt w N #[.slice a C.length cap, .int .i64 loops, .slice (some ⟨gF, 0, none⟩) N cF, .slice (some ⟨gT, 0, none⟩) N cT] (merTo L x y 0) w5) := (by rw [merTo_zero]; exact HP4.out.on HZ.out : UnAt w N #[.slice a C.length cap, .int .i64 loops, .slice (some ⟨gF, 0, none⟩) N cF, .slice (some ⟨gT, 0, none⟩) N cT] (merTo L x y 0) w5)
            obtain ⟨lo, hlo⟩ : ∃ lo, min p q = lo := ⟨_, rfl⟩
            obtain ⟨hi, hhi⟩ : ∃ hi, max p q = hi := ⟨_, rfl⟩
            have E1 : (if q < p then (q : Int) else (p : Int)) = (lo : Int) := by rw [← hlo]; split <;> omega
            have E2 : (if p < q then (q : Int) else (p : Int)) = (hi : Int) := by rw [← hhi]; split <;> omega
            have HLH : Hid (min p q = lo ∧ max p q = hi) := ⟨hlo, hhi⟩
            clear hlo hhi
            have HME : Hid (∀ v, v < N → (mer L x y).getD v 0 = if L.getD v 0 = hi then lo else L.getD v 0) := fun v hv => by rw [mer_at L x y v (by rw [HLL.out]; exact hv), HPQ.out.1, HPQ.out.2, HLH.out.1, HLH.out.2]
            have hdx : decide ((x : Int) < (N : Int)) = true := by simp; omega
            clear HP HP3 HP4 HQ HD4 HD1 HZ HPQ HLH HG3
            go_wp2
            go_loopw [53] (fun v53 wr => ∃ j : Nat, j ≤ N ∧ v53 = .int .i64 (j : Nat) ∧ Hid (UnAt w N #[.slice a C.length cap, .int .i64 loops, .slice (some ⟨gF, 0, none⟩) N cF, .slice (some ⟨gT, 0, none⟩) N cT] (merTo L x y j) wr)) (fun v53 _ => N - (intOf v53).toNat)
            case atStart => exact ⟨0, Nat.zero_le _, rfl, HP5.out⟩
            case round =>
              clear HP5
              rename World => W3
              obtain ⟨j, hjn, rfl, hq⟩ := hrel
              have hg3 := hq.out.lt
              by_cases hjl : j < N
              · have f0 : W3.cell? ⟨w.heap.size + 1, j, none⟩ = some (.int .i64 (L.getD j 0 : Nat)) := by
                  rw [hq.out.at_ (by rw [merTo_len, HLL.out]) j hjl, merTo_at _ _ _ _ _ (by rw [HLL.out]; exact hjl), if_neg (by omega)]
                obtain ⟨z, hz⟩ : ∃ z, L.getD j 0 = z := ⟨_, rfl⟩
                have HZ : Hid (L.getD j 0 = z) := hz
                rw [hz] at f0
                clear hz
                by_cases hzh : z = hi
                · subst hzh
                  have HST : Hid (UnAt w N #[.slice a C.length cap, .int .i64 loops, .slice (some ⟨gF, 0, none⟩) N cF, .slice (some ⟨gT, 0, none⟩) N cT] (merTo L x y (j + 1)) (W3.setCell ⟨w.heap.size + 1, j, none⟩ (.int .i64 (lo : Nat)))) := hq.out.set (merTo_next L x y j lo (by rw [HLL.out]; exact hjl) (by rw [HME.out j hjl, HZ.out, if_pos rfl]))
                  have z0 := hq.out.fz j
                  have hzz : ((z : Int) == (z : Int)) = true := by simp
                  go_wp2
                  go_roundw
                  case rel => exact ⟨j + 1, by omega, by go_num, HST.out⟩
                  case measure => simp only [intOf]; omega
                · have hzz : ((z : Int) == (hi : Int)) = false := by simp; omega
                  have hzz2 : (z == hi) = false := by simp; omega
                  have HST : Hid (UnAt w N #[.slice a C.length cap, .int .i64 loops, .slice (some ⟨gF, 0, none⟩) N cF, .slice (some ⟨gT, 0, none⟩) N cT] (merTo L x y (j + 1)) W3) := (by rw [← merTo_same L x y j (by rw [HLL.out]; exact hjl) (by rw [HME.out j hjl, HZ.out, if_neg hzh])]; exact hq.out : UnAt w N #[.slice a C.length cap, .int .i64 loops, .slice (some ⟨gF, 0, none⟩) N cF, .slice (some ⟨gT, 0, none⟩) N cT] (merTo L x y (j + 1)) W3)
                  go_wp2
                  go_roundw
                  case rel => exact ⟨j + 1, by omega, by go_num, HST.out⟩
                  case measure => simp only [intOf]; omega
              · obtain rfl : N = j := by omega
                have HST : Hid (UnAt w N #[.slice a C.length cap, .int .i64 loops, .slice (some ⟨gF, 0, none⟩) N cF, .slice (some ⟨gT, 0, none⟩) N cT] (mers (List.range N) (uTo C (sx C) G x)) W3) := (by have h := hq.out; rw [← HLL.out, merTo_all, HLL.out] at h; rw [HLV.out]; exact h : UnAt w N #[.slice a C.length cap, .int .i64 loops, .slice (some ⟨gF, 0, none⟩) N cF, .slice (some ⟨gT, 0, none⟩) N cT] (mers (List.range N) (uTo C (sx C) G x)) W3)
                clear hq
                go_wp2
                go_roundw
                case rel => exact ⟨x, hxl, by go_num, HST.out⟩
                case measure => simp only [intOf]; omega
          · have HH : Hid (hasG G (toC C x : Nat) = false) := (by rw [hasG_nat]; simpa using hg : hasG G (toC C x : Nat) = false)
            rw [if_neg hg] at HLV
            clear hg
            go_wp2_with (go_at_call 154; refine (containsG_any bG 0 cG G _ _ (by omega) HG3.out.1 HG3.out.2).mono ?_; rw [HH.out]; rintro e9 w4 ⟨rfl, hb4⟩; refine Hid.out ?_)
            refine Lib.hid ?_
            have HST : Hid (UnAt w N #[.slice a C.length cap, .int .i64 loops, .slice (some ⟨gF, 0, none⟩) N cF, .slice (some ⟨gT, 0, none⟩) N cT] (mers (List.range N) (uTo C (sx C) G x)) w4) := (by rw [HLV.out]; exact HP3.out.on hb4 : UnAt w N #[.slice a C.length cap, .int .i64 loops, .slice (some ⟨gF, 0, none⟩) N cF, .slice (some ⟨gT, 0, none⟩) N cT] (mers (List.range N) (uTo C (sx C) G x)) w4)
            clear hb4 c3 c4
            go_wp2
            go_roundw
            case rel => exact ⟨x, hxl, by go_num, HST.out⟩
            case measure => simp only [intOf]; omega
        · obtain rfl : N = x := by omega
          have HDE : Hid (L = uniM C (sx C) G) := HDN.out rfl
          clear HDN
          have HHB : Hid (hasB C (N : Int) = false) := (by have := HN.out; simp [hasB]; omega : hasB C (N : Int) = false)
          go_wp2_with (go_at_call 69; refine (HHS.out N _).mono ?_; rw [HHB.out]; rintro e9 w3 ⟨rfl, hb3⟩; refine Hid.out ?_)
          refine Lib.hid ?_
          have HP3 : Hid (UnAt w N #[.slice a C.length cap, .int .i64 loops, .slice (some ⟨gF, 0, none⟩) N cF, .slice (some ⟨gT, 0, none⟩) N cT] (uniM C (sx C) G) w3) := (by rw [← HDE.out]; exact HP.out.on hb3 : UnAt w N #[.slice a C.length cap, .int .i64 loops, .slice (some ⟨gF, 0, none⟩) N cF, .slice (some ⟨gT, 0, none⟩) N cT] (uniM C (sx C) G) w3)
          clear hb3
          go_wp2
          go_ret
          exact ⟨_, rfl, own_low HP3.out.row (by omega), HP3.out.bel⟩
end Go.Proofs.Ytajmogojekichaa
