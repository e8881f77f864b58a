/- Several texts of the proof, one behind the other. -/
import Derived.Test.YtagaajlbkfkaiaaF2P
import Derived.Test.YtagaajlbkfkaiaaJ1P
import Derived.Test.YtagaajlbkfkaiaaW2P
import Derived.Test.YtagaajlbkfkaiaaTK1P
/- The walk of ref.PlanarIs. -/
namespace Go.Proofs.Ytagaajlbkfkaiaa
open Go.RowKit

end Go.Proofs.Ytagaajlbkfkaiaa
/- The walk of Drawing.united, with the arc on which the other strand goes on. -/
namespace Go.Proofs.Ytagaajlbkfkaiaa
open Go.RowKit

/-- The drawing's box, the labels under way. -/
structure UnAt (w : World) (N : Nat) (box : Array Value) (L : List Nat) (wr : World) : Prop where
  box : wr.heap[w.heap.size]? = some (.cells box 61 (0, 0))
  row : wr.ownsRow (w.heap.size + 1) 3 1 (.slice (some ⟨w.heap.size + 1, 0, none⟩) N N) N (nats L)
  bel : Below w.heap.size w wr
theorem UnAt.on {w wr w' : World} {N : Nat} {box : Array Value} {L : List Nat} (h : UnAt w N box L wr) (hb : Below wr.heap.size wr w') : UnAt w N box L w' :=
  ⟨(hb.block _ (Array.getElem?_eq_some_iff.1 h.box).1).trans h.box, own_any h.row (grown_below hb none), h.bel.trans (hb.mono h.bel.size)⟩
theorem UnAt.set {w wr : World} {N : Nat} {box : Array Value} {L M : List Nat} {i z : Nat} (h : UnAt w N box L wr) (e : L.set i z = M) : UnAt w N box M (wr.setCell ⟨w.heap.size + 1, i, none⟩ (.int .i64 (z : Nat))) := by
  have hst := h.row.stored i (.int .i64 (z : Nat))
  rw [nats_set, e] at hst
  have hlt := h.row.lt (w.heap.size + 1) rfl
  exact ⟨(hst.2.block _ (by omega) (fun e => by have : w.heap.size = w.heap.size + 1 := Option.some.inj e; omega)).trans h.box, hst.1, h.bel.grown hst.2 h.bel.size (fun q hq => by have := Option.some.inj hq; omega)⟩
theorem UnAt.at_ {w wr : World} {N : Nat} {box : Array Value} {L : List Nat} (h : UnAt w N box L wr) (hl : L.length = N) (i : Nat) (hi : i < N) : wr.cell? ⟨w.heap.size + 1, i, none⟩ = some (.int .i64 (L.getD i 0 : Nat)) := by
  rw [h.row.cellAt i (by omega)]; exact nats_get _ i (by omega)
theorem UnAt.fz {w wr : World} {N : Nat} {box : Array Value} {L : List Nat} (h : UnAt w N box L wr) (i : Nat) : wr.frozen? ⟨w.heap.size + 1, i, none⟩ = false := h.row.frozenAt i
theorem UnAt.lt {w wr : World} {N : Nat} {box : Array Value} {L : List Nat} (h : UnAt w N box L wr) : w.heap.size + 1 < wr.heap.size := (h.row.lt (w.heap.size + 1) rfl).2
/-- The numbers of the crossings that are gone. -/
def GonAt (w : World) (b : Nat) (G : List Nat) : Prop := b < w.heap.size ∧ ∀ i, i < G.length → w.cell? ⟨b, 0 + i, none⟩ = some (.int .i64 (G.getD i 0 : Nat))
theorem GonAt.on {w w' : World} {b : Nat} {G : List Nat} (h : GonAt w b G) (hb : Below w.heap.size w w') : GonAt w' b G := ⟨Nat.lt_of_lt_of_le h.1 hb.size, fun i hi => bcell hb h.1 (h.2 i hi)⟩
theorem mers_uTo (C : List Cr) (f : Nat → Nat) (G : List Nat) (V : List Nat) (a : Nat) : mers V (uTo C f G (a + 1)) = if toC C (a + 1) ∈ G then mer (mers V (uTo C f G a)) (a + 1) (f (a + 1)) else mers V (uTo C f G a) := by
  rw [uTo, mers_app]
  split <;> rfl

set_option maxHeartbeats 16000000 in
set_option maxRecDepth 100000 in
theorem united_ahead (a : Option Addr) (cap : Nat) (C : List Cr) (loops : Int) (gF cF gT cT : Nat) (bG cG : Nat) (G : List Nat) (w : World) (hm : mayD C loops = true) (hD : Dr w a cap C gF gT) (hG1 : G.length ≤ 16) (hG : GonAt w bG G) :
    Calls Try.prog 132 #[drV a cap C loops gF cF gT cT, .func (.func 97) #[drV a cap C loops gF cF gT cT] #[], .slice (some ⟨bG, 0, none⟩) G.length cG] w fun e w' => ∃ g, e = .returned (.slice (some ⟨g, 0, none⟩) (2 * C.length + 1) (2 * C.length + 1)) ∧ w'.ownsRow w.heap.size 3 1 (.slice (some ⟨g, 0, none⟩) (2 * C.length + 1) (2 * C.length + 1)) (2 * C.length + 1) (nats (uniM C (nx C) G)) ∧ Below w.heap.size w w' := by
  obtain ⟨s1, -, -, -⟩ := sizeB_iff (may_size hm)
  obtain ⟨i2, hk, hx0, hx1, hx2⟩ := info_parts infoInt
  have HM : Hid (mayD C loops = true) := hm
  have HD : Hid (Dr w a cap C gF gT) := hD
  have HG : Hid (GonAt w bG G) := hG
  have hbG := hG.1
  have HAS : Hid (∀ x W, 1 ≤ x → x ≤ 2 * C.length → Dr W a cap C gF gT → Calls Try.prog 97 #[drV a cap C loops gF cF gT cT, .int .i64 x] W fun e w' => e = .returned (.int .i64 (nx C x : Nat)) ∧ Below W.heap.size W w') := fun x W h1 h2 hW => ahead_any a cap C loops gF cF gT cT x W HM.out h1 h2 hW
  have HHS : Hid (∀ (x : Nat) W, Calls Try.prog 104 #[drV a cap C loops gF cF gT cT, .int .i64 (x : Nat)] W fun e w' => e = .returned (.bool (hasB C x)) ∧ Below W.heap.size W w') := fun x W => has_any a cap C loops gF cF gT cT x W s1
  unfold drV at HAS HHS ⊢
  obtain ⟨N, hN⟩ : ∃ N, N = 2 * C.length + 1 := ⟨_, rfl⟩
  have HN : Hid (N = 2 * C.length + 1) := hN
  have hN1 : 1 ≤ N := by omega
  have hN2 : N ≤ 33 := by omega
  rw [← hN] at HAS HHS ⊢
  clear hN hm hD hG
  obtain ⟨w0, hw0⟩ : ∃ w0, w0 = w.alloc (.cells #[.slice a C.length cap, .int .i64 loops, .slice (some ⟨gF, 0, none⟩) N cF, .slice (some ⟨gT, 0, none⟩) N cT] 61) := ⟨_, rfl⟩
  have HW0 : Hid (w0 = w.alloc (.cells #[.slice a C.length cap, .int .i64 loops, .slice (some ⟨gF, 0, none⟩) N cF, .slice (some ⟨gT, 0, none⟩) N cT] 61)) := hw0
  have hs0 : w0.heap.size = w.heap.size + 1 := by rw [hw0]; simp
  have HB0 : Hid (Below w.heap.size w w0) := (by rw [hw0]; exact (Below.refl _ _).alloc (Nat.le_refl _) _ : Below w.heap.size w w0)
  have HT0 : Hid (w0.heap[w.heap.size]? = some (.cells #[.slice a C.length cap, .int .i64 loops, .slice (some ⟨gF, 0, none⟩) N cF, .slice (some ⟨gT, 0, none⟩) N cT] 61 (0, 0))) := (by rw [hw0]; exact alloc_at rfl : w0.heap[w.heap.size]? = some (.cells #[.slice a C.length cap, .int .i64 loops, .slice (some ⟨gF, 0, none⟩) N cF, .slice (some ⟨gT, 0, none⟩) N cT] 61 (0, 0)))
  clear hw0
  go_enter Try.func132, Try.ntmps132
  go_wp2_with (first | (at_make; refine wpList_make_full _ rfl _ _ 46 rfl (w.heap.size + 1) 3 i2 (.int .i64 0) 1 Try.underlying46 hk hx0 hx1 .i64 .i64 _ _ N rfl rfl rfl rfl (by rw [hx2]; omega) (by unfold maxLen; omega) (by simp) ?_; intro w1 hrow hg1; refine Hid.out ?_))
  refine Lib.hid ?_
  rw [← HW0.out] at hrow hg1
  rw [made_zeroN, hs0, labTo_zero] at hrow
  have HP0 : Hid (UnAt w N #[.slice a C.length cap, .int .i64 loops, .slice (some ⟨gF, 0, none⟩) N cF, .slice (some ⟨gT, 0, none⟩) N cT] (labTo N 0) w1) := ⟨(hg1.block _ (by omega) (by simp)).trans HT0.out, hrow, HB0.out.grown hg1 (by omega) (fun k hk => by cases hk)⟩
  clear hrow hg1 HT0 HB0 hs0 HW0
  go_wp2
  go_loopw [19] (fun v5 wr => ∃ i : Nat, i ≤ N ∧ v5 = .int .i64 (i : Nat) ∧ Hid (UnAt w N #[.slice a C.length cap, .int .i64 loops, .slice (some ⟨gF, 0, none⟩) N cF, .slice (some ⟨gT, 0, none⟩) N cT] (labTo N i) wr)) (fun v5 _ => N - (intOf v5).toNat)
  case atStart => exact ⟨0, Nat.zero_le _, rfl, HP0.out⟩
  case round =>
    clear HP0
    rename World => W1
    obtain ⟨i, hin, rfl, hp⟩ := hrel
    have hlt := hp.out.lt
    by_cases hil : i < N
    · have HST : Hid (UnAt w N #[.slice a C.length cap, .int .i64 loops, .slice (some ⟨gF, 0, none⟩) N cF, .slice (some ⟨gT, 0, none⟩) N cT] (labTo N (i + 1)) (W1.setCell ⟨w.heap.size + 1, i, none⟩ (.int .i64 (i : Nat)))) := hp.out.set (labTo_next N i)
      have e0 := hp.out.at_ (by simp [labTo]) i hil
      have z0 := hp.out.fz i
      generalize (labTo N i).getD i 0 = u at e0
      go_wp2
      go_roundw
      case rel => exact ⟨i + 1, by omega, by go_num, HST.out⟩
      case measure => simp only [intOf]; omega
    · obtain rfl : N = i := by omega
      have HP1 : Hid (UnAt w N #[.slice a C.length cap, .int .i64 loops, .slice (some ⟨gF, 0, none⟩) N cF, .slice (some ⟨gT, 0, none⟩) N cT] (mers (List.range N) (uTo C (nx C) G 0)) W1) := (by have h := hp.out; rw [labTo_all] at h; exact h : UnAt w N #[.slice a C.length cap, .int .i64 loops, .slice (some ⟨gF, 0, none⟩) N cF, .slice (some ⟨gT, 0, none⟩) N cT] (mers (List.range N) (uTo C (nx C) G 0)) W1)
      have hdn : decide ((N : Int) < (N : Int)) = false := by simp
      have hdn2 : decide (N < N) = false := by simp
      clear hp
      go_wp2
      go_loopw [9] (fun v9 wr => ∃ k : Nat, k < N ∧ v9 = .int .i64 ((k + 1 : Nat) : Int) ∧ Hid (UnAt w N #[.slice a C.length cap, .int .i64 loops, .slice (some ⟨gF, 0, none⟩) N cF, .slice (some ⟨gT, 0, none⟩) N cT] (mers (List.range N) (uTo C (nx C) G k)) wr)) (fun v9 _ => N + 1 - (intOf v9).toNat)
      case atStart => exact ⟨0, by omega, rfl, HP1.out⟩
      case round =>
        clear HP1
        rename World => W2
        obtain ⟨k, hkN, rfl, hp⟩ := hrel
        obtain ⟨x, hxk⟩ : ∃ x, x = k + 1 := ⟨_, rfl⟩
        have HXK : Hid (x = k + 1) := hxk
        rw [← hxk]
        have hx1' : 1 ≤ x := by omega
        have hxN1 : x ≤ N := by omega
        have HLL : Hid ((mers (List.range N) (uTo C (nx C) G k)).length = N) := (by rw [mers_len]; simp : (mers (List.range N) (uTo C (nx C) G k)).length = N)
        have HLV : Hid (mers (List.range N) (uTo C (nx C) G x) = if toC C x ∈ G then mer (mers (List.range N) (uTo C (nx C) G k)) x (nx C x) else mers (List.range N) (uTo C (nx C) G k)) := (by rw [hxk]; exact mers_uTo C (nx C) G _ k : mers (List.range N) (uTo C (nx C) G x) = if toC C x ∈ G then mer (mers (List.range N) (uTo C (nx C) G k)) x (nx C x) else mers (List.range N) (uTo C (nx C) G k))
        have HDN : Hid (x = N → mers (List.range N) (uTo C (nx C) G k) = uniM C (nx C) G) := (fun e => by unfold uniM; rw [← HN.out]; have : k = 2 * C.length := by have := HN.out; omega
                                                                                                          rw [this] : x = N → mers (List.range N) (uTo C (nx C) G k) = uniM C (nx C) G)
        clear hxk
        obtain ⟨L, hL⟩ : ∃ L, mers (List.range N) (uTo C (nx C) G k) = L := ⟨_, rfl⟩
        rw [hL] at HLL HLV HDN hp
        clear hL hkN
        have HP : Hid (UnAt w N #[.slice a C.length cap, .int .i64 loops, .slice (some ⟨gF, 0, none⟩) N cF, .slice (some ⟨gT, 0, none⟩) N cT] L W2) := hp.out
        have hs2 := hp.out.bel.size
        have hbx := hp.out.box
        have t0 : W2.cell? ⟨w.heap.size, 0, none⟩ = some (.slice a C.length cap) := block_cell hbx rfl
        have t1 : W2.cell? ⟨w.heap.size, 1, none⟩ = some (.int .i64 loops) := block_cell hbx rfl
        have t2 : W2.cell? ⟨w.heap.size, 2, none⟩ = some (.slice (some ⟨gF, 0, none⟩) N cF) := block_cell hbx rfl
        have t3 : W2.cell? ⟨w.heap.size, 3, none⟩ = some (.slice (some ⟨gT, 0, none⟩) N cT) := block_cell hbx rfl
        have lt2 : w.heap.size < W2.heap.size := (Array.getElem?_eq_some_iff.1 hbx).1
        clear hbx hp
        by_cases hxl : x < N
        · have HHB : Hid (hasB C (x : Int) = true) := (by have := HN.out; simp [hasB]; omega : hasB C (x : Int) = true)
          have hx2' : x ≤ 2 * C.length := by have := HN.out; omega
          go_wp2_with (go_at_call 104; refine (HHS.out x _).mono ?_; rw [HHB.out]; rintro e9 w3 ⟨rfl, hb3⟩; refine Hid.out ?_)
          refine Lib.hid ?_
          have HP3 : Hid (UnAt w N #[.slice a C.length cap, .int .i64 loops, .slice (some ⟨gF, 0, none⟩) N cF, .slice (some ⟨gT, 0, none⟩) N cT] L w3) := HP.out.on hb3
          have hs3 := HP3.out.bel.size
          have HTO := (HD.out.on HP3.out.bel).toAt HM.out x hx1' hx2'
          have c3 : w3.cell? ⟨w.heap.size, 3, none⟩ = some (.slice (some ⟨gT, 0, none⟩) N cT) := block_cell HP3.out.box rfl
          have c4 := HTO.1
          have HG3 : Hid (GonAt w3 bG G) := HG.out.on HP3.out.bel
          have lt3 : w.heap.size < w3.heap.size := (Array.getElem?_eq_some_iff.1 HP3.out.box).1
          have hgT : gT < w3.heap.size := (HD.out.on HP3.out.bel).ltT
          clear hb3 HTO t0 t1 t2 t3
          by_cases hg : toC C x ∈ G
          · have HH : Hid (hasG G (toC C x : Nat) = true) := (by rw [hasG_nat]; simpa using hg : hasG G (toC C x : Nat) = true)
            rw [if_pos hg] at HLV
            clear hg
            go_wp2_with (go_at_call 133; refine (containsG_any bG 0 cG G _ _ (by omega) HG3.out.1 HG3.out.2).mono ?_; rw [HH.out]; rintro e9 w4 ⟨rfl, hb4⟩; refine Hid.out ?_)
            refine Lib.hid ?_
            have HP4 : Hid (UnAt w N #[.slice a C.length cap, .int .i64 loops, .slice (some ⟨gF, 0, none⟩) N cF, .slice (some ⟨gT, 0, none⟩) N cT] L w4) := HP3.out.on hb4
            clear hb4 c3 c4
            have HD4 : Hid (∀ W, Below w4.heap.size w4 W → Dr W a cap C gF gT) := fun W hW => HD.out.on (HP4.out.on hW).bel
            have HD1 : Hid (Below w4.heap.size w4 w4.drew) := (Below.refl _ _).drew
            have hsxc := nx_closed HM.out x hx1' hx2'
            obtain ⟨y, hy⟩ : ∃ y, nx C x = y := ⟨_, rfl⟩
            have HY : Hid (nx C x = y) := hy
            rw [hy] at hsxc HLV
            have hyN : y < N := by have := HN.out; omega
            clear hy
            obtain ⟨p, hpx⟩ : ∃ p, L.getD x 0 = p := ⟨_, rfl⟩
            obtain ⟨q, hqx⟩ : ∃ q, L.getD y 0 = q := ⟨_, rfl⟩
            have HPQ : Hid (L.getD x 0 = p ∧ L.getD y 0 = q) := ⟨hpx, hqx⟩
            have HQ : Hid (∀ W, Below w4.heap.size w4 W → W.cell? ⟨w.heap.size + 1, x, none⟩ = some (.int .i64 (p : Nat)) ∧ W.cell? ⟨w.heap.size + 1, y, none⟩ = some (.int .i64 (q : Nat))) := fun W hW => by
              have h := HP4.out.on hW
              exact ⟨by rw [h.at_ HLL.out x hxl, HPQ.out.1], by rw [h.at_ HLL.out y hyN, HPQ.out.2]⟩
            clear hpx hqx
            have ix0 : (0 : Int) ≤ (x : Int) := by omega
            have ix1 : (x : Int) < (N : Int) := by omega
            have iy0 : (0 : Int) ≤ (y : Int) := by omega
            have iy1 : (y : Int) < (N : Int) := by omega
            go_wp2
            go_region_held3 (fun w' => w'.cell? ⟨w.heap.size + 1, x, none⟩ = some (.int .i64 (p : Nat)) ∧ w'.cell? ⟨w.heap.size + 1, y, none⟩ = some (.int .i64 (q : Nat))) (first | exact HQ.out _ HZ.out | exact HQ.out _ HD1.out | exact HQ.out _ (Below.refl _ _)) (first | (go_at_call 97; refine (HAS.out x _ hx1' hx2' (HD4.out _ HD1.out)).mono ?_; rw [HY.out]; rintro e9 w5 ⟨rfl, hb5⟩; have HZ : Hid (Below w4.heap.size w4 w5) := HD1.out.trans (hb5.mono HD1.out.size); clear hb5))
            have HP5 : Hid (UnAt w N #[.slice a C.length cap, .int .i64 loops, .slice (some ⟨gF, 0, none⟩) N cF, .slice (some ⟨gT, 0, none⟩) N cT] (merTo L x y 0) w5) := (by rw [merTo_zero]; exact HP4.out.on HZ.out : UnAt w N #[.slice a C.length cap, .int .i64 loops, .slice (some ⟨gF, 0, none⟩) N cF, .slice (some ⟨gT, 0, none⟩) N cT] (merTo L x y 0) w5)
            obtain ⟨lo, hlo⟩ : ∃ lo, min p q = lo := ⟨_, rfl⟩
            obtain ⟨hi, hhi⟩ : ∃ hi, max p q = hi := ⟨_, rfl⟩
            have E1 : (if q < p then (q : Int) else (p : Int)) = (lo : Int) := by rw [← hlo]; split <;> omega
            have E2 : (if p < q then (q : Int) else (p : Int)) = (hi : Int) := by rw [← hhi]; split <;> omega
            have HLH : Hid (min p q = lo ∧ max p q = hi) := ⟨hlo, hhi⟩
            clear hlo hhi
            have HME : Hid (∀ v, v < N → (mer L x y).getD v 0 = if L.getD v 0 = hi then lo else L.getD v 0) := fun v hv => by rw [mer_at L x y v (by rw [HLL.out]; exact hv), HPQ.out.1, HPQ.out.2, HLH.out.1, HLH.out.2]
            have hdx : decide ((x : Int) < (N : Int)) = true := by simp; omega
            clear HP HP3 HP4 HQ HD4 HD1 HZ HPQ HLH HG3
            go_wp2
            go_loopw [53] (fun v53 wr => ∃ j : Nat, j ≤ N ∧ v53 = .int .i64 (j : Nat) ∧ Hid (UnAt w N #[.slice a C.length cap, .int .i64 loops, .slice (some ⟨gF, 0, none⟩) N cF, .slice (some ⟨gT, 0, none⟩) N cT] (merTo L x y j) wr)) (fun v53 _ => N - (intOf v53).toNat)
            case atStart => exact ⟨0, Nat.zero_le _, rfl, HP5.out⟩
            case round =>
              clear HP5
              rename World => W3
              obtain ⟨j, hjn, rfl, hq⟩ := hrel
              have hg3 := hq.out.lt
              by_cases hjl : j < N
              · have f0 : W3.cell? ⟨w.heap.size + 1, j, none⟩ = some (.int .i64 (L.getD j 0 : Nat)) := by
                  rw [hq.out.at_ (by rw [merTo_len, HLL.out]) j hjl, merTo_at _ _ _ _ _ (by rw [HLL.out]; exact hjl), if_neg (by omega)]
                obtain ⟨z, hz⟩ : ∃ z, L.getD j 0 = z := ⟨_, rfl⟩
                have HZ : Hid (L.getD j 0 = z) := hz
                rw [hz] at f0
                clear hz
                by_cases hzh : z = hi
                · subst hzh
                  have HST : Hid (UnAt w N #[.slice a C.length cap, .int .i64 loops, .slice (some ⟨gF, 0, none⟩) N cF, .slice (some ⟨gT, 0, none⟩) N cT] (merTo L x y (j + 1)) (W3.setCell ⟨w.heap.size + 1, j, none⟩ (.int .i64 (lo : Nat)))) := hq.out.set (merTo_next L x y j lo (by rw [HLL.out]; exact hjl) (by rw [HME.out j hjl, HZ.out, if_pos rfl]))
                  have z0 := hq.out.fz j
                  have hzz : ((z : Int) == (z : Int)) = true := by simp
                  go_wp2
                  go_roundw
                  case rel => exact ⟨j + 1, by omega, by go_num, HST.out⟩
                  case measure => simp only [intOf]; omega
                · have hzz : ((z : Int) == (hi : Int)) = false := by simp; omega
                  have hzz2 : (z == hi) = false := by simp; omega
                  have HST : Hid (UnAt w N #[.slice a C.length cap, .int .i64 loops, .slice (some ⟨gF, 0, none⟩) N cF, .slice (some ⟨gT, 0, none⟩) N cT] (merTo L x y (j + 1)) W3) := (by rw [← merTo_same L x y j (by rw [HLL.out]; exact hjl) (by rw [HME.out j hjl, HZ.out, if_neg hzh])]; exact hq.out : UnAt w N #[.slice a C.length cap, .int .i64 loops, .slice (some ⟨gF, 0, none⟩) N cF, .slice (some ⟨gT, 0, none⟩) N cT] (merTo L x y (j + 1)) W3)
                  go_wp2
                  go_roundw
                  case rel => exact ⟨j + 1, by omega, by go_num, HST.out⟩
                  case measure => simp only [intOf]; omega
              · obtain rfl : N = j := by omega
                have HST : Hid (UnAt w N #[.slice a C.length cap, .int .i64 loops, .slice (some ⟨gF, 0, none⟩) N cF, .slice (some ⟨gT, 0, none⟩) N cT] (mers (List.range N) (uTo C (nx C) G x)) W3) := (by have h := hq.out; rw [← HLL.out, merTo_all, HLL.out] at h; rw [HLV.out]; exact h : UnAt w N #[.slice a C.length cap, .int .i64 loops, .slice (some ⟨gF, 0, none⟩) N cF, .slice (some ⟨gT, 0, none⟩) N cT] (mers (List.range N) (uTo C (nx C) G x)) W3)
                clear hq
                go_wp2
                go_roundw
                case rel => exact ⟨x, hxl, by go_num, HST.out⟩
                case measure => simp only [intOf]; omega
          · have HH : Hid (hasG G (toC C x : Nat) = false) := (by rw [hasG_nat]; simpa using hg : hasG G (toC C x : Nat) = false)
            rw [if_neg hg] at HLV
            clear hg
            go_wp2_with (go_at_call 133; refine (containsG_any bG 0 cG G _ _ (by omega) HG3.out.1 HG3.out.2).mono ?_; rw [HH.out]; rintro e9 w4 ⟨rfl, hb4⟩; refine Hid.out ?_)
            refine Lib.hid ?_
            have HST : Hid (UnAt w N #[.slice a C.length cap, .int .i64 loops, .slice (some ⟨gF, 0, none⟩) N cF, .slice (some ⟨gT, 0, none⟩) N cT] (mers (List.range N) (uTo C (nx C) G x)) w4) := (by rw [HLV.out]; exact HP3.out.on hb4 : UnAt w N #[.slice a C.length cap, .int .i64 loops, .slice (some ⟨gF, 0, none⟩) N cF, .slice (some ⟨gT, 0, none⟩) N cT] (mers (List.range N) (uTo C (nx C) G x)) w4)
            clear hb4 c3 c4
            go_wp2
            go_roundw
            case rel => exact ⟨x, hxl, by go_num, HST.out⟩
            case measure => simp only [intOf]; omega
        · obtain rfl : N = x := by omega
          have HDE : Hid (L = uniM C (nx C) G) := HDN.out rfl
          clear HDN
          have HHB : Hid (hasB C (N : Int) = false) := (by have := HN.out; simp [hasB]; omega : hasB C (N : Int) = false)
          go_wp2_with (go_at_call 104; refine (HHS.out N _).mono ?_; rw [HHB.out]; rintro e9 w3 ⟨rfl, hb3⟩; refine Hid.out ?_)
          refine Lib.hid ?_
          have HP3 : Hid (UnAt w N #[.slice a C.length cap, .int .i64 loops, .slice (some ⟨gF, 0, none⟩) N cF, .slice (some ⟨gT, 0, none⟩) N cT] (uniM C (nx C) G) w3) := (by rw [← HDE.out]; exact HP.out.on hb3 : UnAt w N #[.slice a C.length cap, .int .i64 loops, .slice (some ⟨gF, 0, none⟩) N cF, .slice (some ⟨gT, 0, none⟩) N cT] (uniM C (nx C) G) w3)
          clear hb3
          go_wp2
          go_ret
          exact ⟨_, rfl, own_low HP3.out.row (by omega), HP3.out.bel⟩
end Go.Proofs.Ytagaajlbkfkaiaa
/- Plain mathematics: the faces of what is left are the straight rings that meet it. -/
namespace Go.Proofs.Ytagaajlbkfkaiaa

theorem fs_bij {C : List Cr} {loops : Int} (hm : mayD C loops = true) (G : List Nat) : Bij (up0 (fs C G)) (4 * C.length + 1) := by
  refine bij_up0 (fun a h1 h2 => fs_may hm G h1 h2) fun x y x1 x2 y1 y2 e => ?_
  obtain ⟨g1, g2, g3⟩ := ein_onto hm x1 x2
  obtain ⟨k1, k2, k3⟩ := ein_onto hm y1 y2
  have form : ∀ k s, k < C.length → s < 4 → fs C G (ein C k s) = pd C (4 * k + (s + if k ∈ G then 2 else 3) % 4) := fun k s hk hs => by
    by_cases q : k ∈ G
    · rw [fs_in hm hk hs q, if_pos q]
    · obtain ⟨-, -, e1, -, -, e5⟩ := ein_at hm k s hk hs
      rw [fs_out (by rw [e1]; exact q), e5, if_neg q]
  rw [g3, k3, form _ _ g1 g2, form _ _ k1 k2] at e
  rw [g3, k3]
  generalize dC C x = k at *
  generalize dS C x = s at *
  generalize dC C y = j at *
  generalize dS C y = t at *
  have l1 := (pd_at hm k ((s + if k ∈ G then 2 else 3) % 4) g1 (Nat.mod_lt _ (by decide))).2.1
  have l2 := (pd_at hm j ((t + if j ∈ G then 2 else 3) % 4) k1 (Nat.mod_lt _ (by decide))).2.1
  rw [e, l2] at l1
  subst l1
  have := pd_ne hm k1 (Nat.mod_lt _ (by decide)) (Nat.mod_lt _ (by decide)) e
  have est : s = t := by
    revert this
    split <;> intro this <;> omega
  rw [est]
/-- A dart that leads to a crossing that is left, as a dart of what is left. -/
def Rd (C : List Cr) (G L : List Nat) (P : Nat → Bool) (j : Nat) : Nat := ein (lft C G L P) (posG G (dC C j)) (dS C j)
theorem Lft.same {C : List Cr} {loops : Int} {G L : List Nat} {P : Nat → Bool} (h : Lft C loops G L P) {j w : Nat} (j1 : 1 ≤ j) (j2 : j ≤ 4 * C.length) (w1 : 1 ≤ w) (w2 : w ≤ 4 * C.length) (hj : dC C j ∉ G) (hw : dC C w ∉ G) (e : L.getD (dA j) 0 = L.getD (dA w) 0) (ed : dB j = dB w) : j = w := by
  obtain ⟨g1, g2, g3⟩ := ein_onto h.hm j1 j2
  obtain ⟨k1, k2, k3⟩ := ein_onto h.hm w1 w2
  obtain ⟨a1, a2⟩ := ein_arc h.hm g1 g2
  obtain ⟨b1, b2⟩ := ein_arc h.hm k1 k2
  rw [← g3] at a1 a2
  rw [← k3] at b1 b2
  rw [a1, b1] at e
  rw [a2, b2] at ed
  obtain ⟨q1, q2⟩ := h.one g1 hj g2 k1 hw k2 e (by revert ed; cases (C.getD (dC C j) Cr.none).comes (dS C j) <;> cases (C.getD (dC C w) Cr.none).comes (dS C w) <;> intro ed <;> first | rfl | cases ed)
  rw [g3, k3, q1, q2]
theorem Lft.rd {C : List Cr} {loops lo : Int} {G L : List Nat} {P : Nat → Bool} (h : Lft C loops G L P) (hD : mayD (lft C G L P) lo = true) {j : Nat} (j1 : 1 ≤ j) (j2 : j ≤ 4 * C.length) (hj : dC C j ∉ G) :
    1 ≤ Rd C G L P j ∧ Rd C G L P j ≤ 4 * (lft C G L P).length ∧ Rd C G L P j = mkD (cntB P (L.getD (dA j) 0) + 1) (dB j) := by
  obtain ⟨g1, g2, g3⟩ := ein_onto h.hm j1 j2
  have hp : posG G (dC C j) < (lft C G L P).length := by rw [Lft.len]; exact posG_lt g1 hj
  obtain ⟨e1, e2, -⟩ := ein_at hD _ _ hp g2
  refine ⟨e1, e2, ?_⟩
  obtain ⟨a1, a2⟩ := ein_arc hD hp g2
  obtain ⟨b1, b2⟩ := ein_arc h.hm g1 g2
  rw [← g3] at b1 b2
  have m := mk_d (j := Rd C G L P j) e1
  rw [← m]
  show mkD (dA (ein (lft C G L P) (posG G (dC C j)) (dS C j))) (dB (ein (lft C G L P) (posG G (dC C j)) (dS C j))) = _
  rw [a1, a2, h.arc g1 hj g2, (h.at g1 hj g2).2.2.2, b1, b2]
theorem Lft.rd_inj {C : List Cr} {loops lo : Int} {G L : List Nat} {P : Nat → Bool} (h : Lft C loops G L P) (hD : mayD (lft C G L P) lo = true) {j w : Nat} (j1 : 1 ≤ j) (j2 : j ≤ 4 * C.length) (hj : dC C j ∉ G) (w1 : 1 ≤ w) (w2 : w ≤ 4 * C.length) (hw : dC C w ∉ G) (e : Rd C G L P j = Rd C G L P w) : j = w := by
  obtain ⟨g1, g2, g3⟩ := ein_onto h.hm j1 j2
  obtain ⟨k1, k2, k3⟩ := ein_onto h.hm w1 w2
  obtain ⟨q1, q2⟩ := ein_inj hD (by rw [Lft.len]; exact posG_lt g1 hj) g2 (by rw [Lft.len]; exact posG_lt k1 hw) k2 e
  rw [g3, k3, posG_inj hj hw q1, q2]
theorem Lft.rd_onto {C : List Cr} {loops lo : Int} {G L : List Nat} {P : Nat → Bool} (h : Lft C loops G L P) (hD : mayD (lft C G L P) lo = true) {x : Nat} (x1 : 1 ≤ x) (x2 : x ≤ 4 * (lft C G L P).length) : ∃ j, 1 ≤ j ∧ j ≤ 4 * C.length ∧ dC C j ∉ G ∧ Rd C G L P j = x := by
  obtain ⟨g1, g2, g3⟩ := ein_onto hD x1 x2
  rw [Lft.len] at g1
  obtain ⟨k, k1, k2, k3⟩ := posG_onto g1
  obtain ⟨e1, e2, e3, e4, -⟩ := ein_at h.hm k _ k1 g2
  refine ⟨ein C k (dS (lft C G L P) x), e1, e2, by rw [e3]; exact k2, ?_⟩
  unfold Rd
  rw [e3, e4, k3]
  exact g3.symm
/-- A face of what is left goes on as the straight ring does. -/
theorem Lft.turn {C : List Cr} {loops lo : Int} {G L : List Nat} {P : Nat → Bool} (h : Lft C loops G L P) (hD : mayD (lft C G L P) lo = true) {j w : Nat} (j1 : 1 ≤ j) (j2 : j ≤ 4 * C.length) (hj : dC C j ∉ G) (w1 : 1 ≤ w) (w2 : w ≤ 4 * C.length) (hw : dC C w ∉ G)
    (e : L.getD (dA w) 0 = L.getD (dA (fd C j)) 0) (ed : dB w = dB (fd C j)) : fd (lft C G L P) (Rd C G L P j) = Rd C G L P w := by
  obtain ⟨g1, g2, g3⟩ := ein_onto h.hm j1 j2
  have hp : posG G (dC C j) < (lft C G L P).length := by rw [Lft.len]; exact posG_lt g1 hj
  have s3 : (dS C j + 3) % 4 < 4 := Nat.mod_lt _ (by decide)
  rw [(h.rd hD w1 w2 hw).2.2, e, ed]
  have f1 := (ein_at h.hm _ _ g1 g2).2.2.2.2.2
  rw [← g3] at f1
  have p := (en_side h.hm _ _ g1 s3).2.2.1
  rw [f1, (pd_at h.hm _ _ g1 s3).1, dA_mk p, dB_mk p]
  show fd (lft C G L P) (ein (lft C G L P) (posG G (dC C j)) (dS C j)) = _
  rw [(ein_at hD _ _ hp g2).2.2.2.2.2, (pd_at hD _ _ hp s3).1, h.arc g1 hj s3, (h.at g1 hj s3).2.2.2]
/-- The next dart of a straight ring that leads to a crossing that is left. -/
theorem Lft.next {C : List Cr} {loops : Int} {G L : List Nat} {P : Nat → Bool} (h : Lft C loops G L P) {j : Nat} (j1 : 1 ≤ j) (j2 : j ≤ 4 * C.length) (hj : dC C j ∉ G) :
    ∃ i, (1 ≤ it (up0 (fs C G)) (i + 1) j ∧ it (up0 (fs C G)) (i + 1) j ≤ 4 * C.length) ∧ dC C (it (up0 (fs C G)) (i + 1) j) ∉ G ∧ L.getD (dA (it (up0 (fs C G)) (i + 1) j)) 0 = L.getD (dA (fd C j)) 0 ∧ dB (it (up0 (fs C G)) (i + 1) j) = dB (fd C j) := by
  have hB := fs_bij h.hm G
  have hin : ∀ i, 1 ≤ it (up0 (fs C G)) i j ∧ it (up0 (fs C G)) i j ≤ 4 * C.length := fun i => by
    induction i with
    | zero => exact ⟨j1, j2⟩
    | succ i ih => show 1 ≤ up0 (fs C G) (it (up0 (fs C G)) i j) ∧ up0 (fs C G) (it (up0 (fs C G)) i j) ≤ _; rw [up0_pos _ ih.1]; exact fs_may h.hm G ih.1 ih.2
  obtain ⟨p, h0, hp⟩ := period hB (x := j) (by omega)
  obtain ⟨i, hi, hmin⟩ := first_of (P := fun i => dC C (it (up0 (fs C G)) (i + 1) j) ∉ G) ⟨p - 1, by rw [show p - 1 + 1 = p by omega, hp]; exact hj⟩
  refine ⟨i, hin _, hi, ?_⟩
  have key : ∀ m, m ≤ i → L.getD (dA (it (up0 (fs C G)) (m + 1) j)) 0 = L.getD (dA (fd C j)) 0 ∧ dB (it (up0 (fs C G)) (m + 1) j) = dB (fd C j) := by
    intro m
    induction m with
    | zero =>
      intro _
      have e : it (up0 (fs C G)) (0 + 1) j = fd C j := by show up0 (fs C G) j = _; rw [up0_pos _ j1, fs_out hj]
      rw [e]
      exact ⟨rfl, rfl⟩
    | succ m ih =>
      intro hm
      obtain ⟨i1, i2⟩ := ih (by omega)
      have hg := Classical.not_not.1 (hmin m (by omega))
      obtain ⟨s1, s2⟩ := h.straight (hin (m + 1)).1 (hin (m + 1)).2 hg
      have e : it (up0 (fs C G)) (m + 1 + 1) j = fs C G (it (up0 (fs C G)) (m + 1) j) := by show up0 (fs C G) (it (up0 (fs C G)) (m + 1) j) = _; rw [up0_pos _ (hin (m + 1)).1]
      rw [e, s1, s2]
      exact ⟨i1, i2⟩
  exact key i (Nat.le_refl _)
/-- Darts of one face of what is left lie in one straight ring. -/
theorem Lft.con {C : List Cr} {loops lo : Int} {G L : List Nat} {P : Nat → Bool} (h : Lft C loops G L P) (hD : mayD (lft C G L P) lo = true) {j w : Nat} (j1 : 1 ≤ j) (j2 : j ≤ 4 * C.length) (hj : dC C j ∉ G) (w1 : 1 ≤ w) (w2 : w ≤ 4 * C.length) (hw : dC C w ∉ G)
    (hc : Con (eds (up0 (fd (lft C G L P))) (4 * (lft C G L P).length + 1)) (Rd C G L P j) (Rd C G L P w)) : Con (eds (up0 (fs C G)) (4 * C.length + 1)) j w := fun S hS hSj => by
  have hT : Closed (eds (up0 (fd (lft C G L P))) (4 * (lft C G L P).length + 1)) fun x => ∃ z, (1 ≤ z ∧ z ≤ 4 * C.length ∧ dC C z ∉ G) ∧ Rd C G L P z = x ∧ S z := closed_eds.2 fun x hx => by
    rcases Nat.eq_zero_or_pos x with rfl | hx0
    · exact Iff.rfl
    · obtain ⟨z, z1, z2, z3, rfl⟩ := h.rd_onto hD hx0 (by omega)
      obtain ⟨i, ⟨n1, n2⟩, n3, n4, n5⟩ := h.next z1 z2 z3
      have ht := h.turn hD z1 z2 z3 n1 n2 n3 n4 n5
      rw [up0_pos _ hx0, ht]
      have hs : S z ↔ S (it (up0 (fs C G)) (i + 1) z) := ⟨fun q => con_it (fs_bij h.hm G) (by omega) (i + 1) S hS q, fun q => (con_it (fs_bij h.hm G) (by omega) (i + 1)).symm S hS q⟩
      constructor
      · rintro ⟨y, ⟨y1, y2, y3⟩, ye, ys⟩
        rw [h.rd_inj hD y1 y2 y3 z1 z2 z3 ye] at ys
        exact ⟨_, ⟨n1, n2, n3⟩, rfl, hs.1 ys⟩
      · rintro ⟨y, ⟨y1, y2, y3⟩, ye, ys⟩
        rw [h.rd_inj hD y1 y2 y3 n1 n2 n3 ye] at ys
        exact ⟨z, ⟨z1, z2, z3⟩, rfl, hs.2 ys⟩
  obtain ⟨z, ⟨z1, z2, z3⟩, ze, zs⟩ := hc _ hT ⟨j, ⟨j1, j2, hj⟩, rfl, hSj⟩
  rw [h.rd_inj hD z1 z2 z3 w1 w2 hw ze] at zs
  exact zs
end Go.Proofs.Ytagaajlbkfkaiaa
/- Plain mathematics: straight rings and pieces against those of what is left. -/
namespace Go.Proofs.Ytagaajlbkfkaiaa

theorem cnt_split (P Q : Nat → Bool) : ∀ l : List Nat, l.countP P = l.countP (fun v => P v && Q v) + l.countP fun v => P v && !Q v
  | [] => rfl
  | v :: l => by
    rw [List.countP_cons, List.countP_cons, List.countP_cons, cnt_split P Q l]
    cases P v <;> cases Q v <;> simp <;> omega
/-- Does a straight ring, or a piece, meet what is left? -/
def Mt (C : List Cr) (G : List Nat) (E : List (Nat × Nat)) (v : Nat) : Prop := ∃ j, (1 ≤ j ∧ j ≤ 4 * C.length ∧ dC C j ∉ G) ∧ Con E v j
noncomputable def mtB (C : List Cr) (G : List Nat) (E : List (Nat × Nat)) (v : Nat) : Bool := @decide (Mt C G E v) (Classical.propDecidable _)
theorem mtB_iff {C : List Cr} {G : List Nat} {E : List (Nat × Nat)} {v : Nat} : mtB C G E v = true ↔ Mt C G E v := @decide_eq_true_iff _ (Classical.propDecidable _)
def rootB (W : List Nat) (v : Nat) : Bool := decide (W.getD v 0 = v) && decide (1 ≤ v)
/-- Rings that meet what is left: no more than its faces. -/
theorem Lft.rings {C : List Cr} {loops lo : Int} {G L : List Nat} {P : Nat → Bool} (h : Lft C loops G L P) (hD : mayD (lft C G L P) lo = true) :
    (List.range (4 * C.length + 1)).countP (fun v => rootB (cyW (up0 (fs C G)) (4 * C.length + 1)) v && mtB C G (eds (up0 (fs C G)) (4 * C.length + 1)) v) ≤ (facesM (lft C G L P)).length := by
  have hW := cyW_least (fs_bij h.hm G).lt
  have hV := cyW_least (fd_bij hD).lt
  have hF := cyA_fd hD
  unfold cyA cyN at hF
  rw [rq_pos hV, rq_eq] at hF
  rw [← Nat.add_right_cancel hF]
  have hw : ∀ v, ∃ j, mtB C G (eds (up0 (fs C G)) (4 * C.length + 1)) v = true → (1 ≤ j ∧ j ≤ 4 * C.length ∧ dC C j ∉ G) ∧ Con (eds (up0 (fs C G)) (4 * C.length + 1)) v j := fun v => by
    by_cases q : Mt C G (eds (up0 (fs C G)) (4 * C.length + 1)) v
    · obtain ⟨j, hj⟩ := q
      exact ⟨j, fun _ => hj⟩
    · exact ⟨0, fun e => absurd (mtB_iff.1 e) q⟩
  obtain ⟨w, hw⟩ := Classical.axiomOfChoice hw
  refine inj_cnt (fun v => (cyW (up0 (fd (lft C G L P))) (4 * (lft C G L P).length + 1)).getD (Rd C G L P (w v)) 0) (fun v hv hP => ?_) fun u v hu hv hPu hPv e => ?_
  · rw [Bool.and_eq_true] at hP
    obtain ⟨⟨j1, j2, j3⟩, -⟩ := hw v hP.2
    obtain ⟨r1, r2, -⟩ := h.rd hD j1 j2 j3
    have hl : Rd C G L P (w v) < 4 * (lft C G L P).length + 1 := by omega
    refine ⟨hV.lt hl, ?_⟩
    rw [Bool.and_eq_true]
    refine ⟨decide_eq_true (hV.root hl), decide_eq_true (Nat.pos_of_ne_zero fun q => ?_)⟩
    have := (hV.2 _ hl).1
    rw [q] at this
    exact zero_apart (fd_closed hD) r1 this
  · rw [Bool.and_eq_true] at hPu hPv
    obtain ⟨⟨j1, j2, j3⟩, jc⟩ := hw u hPu.2
    obtain ⟨⟨k1, k2, k3⟩, kc⟩ := hw v hPv.2
    obtain ⟨r1, r2, -⟩ := h.rd hD j1 j2 j3
    obtain ⟨s1, s2, -⟩ := h.rd hD k1 k2 k3
    have c := h.con hD j1 j2 j3 k1 k2 k3 ((hV.same (by omega) (by omega)).1 e)
    have c2 := (hW.same hu hv).2 (jc.trans (c.trans kc.symm))
    have ru := hPu.1
    have rv := hPv.1
    unfold rootB at ru rv
    rw [Bool.and_eq_true, decide_eq_true_eq] at ru rv
    rw [ru.1, rv.1] at c2
    exact c2
/-- Two sides of what is left with one strand lie in one piece of it. -/
theorem Lft.piece {C : List Cr} {loops lo : Int} {G L : List Nat} {P : Nat → Bool} (h : Lft C loops G L P) (hD : mayD (lft C G L P) lo = true) {T : Nat → Prop} (hT : Closed (arcE (lft C G L P)) T) {k s j t : Nat} (hk : k < C.length) (hG : k ∉ G) (hs : s < 4) (hj : j < C.length) (hH : j ∉ G) (ht : t < 4)
    (e : L.getD (aAt C k s) 0 = L.getD (aAt C j t) 0) : T (posG G k) ↔ T (posG G j) := by
  by_cases ec : (C.getD k Cr.none).comes s = (C.getD j Cr.none).comes t
  · rw [(h.one hk hG hs hj hH ht e ec).1]
  · have hp : posG G k < (lft C G L P).length := by rw [Lft.len]; exact posG_lt hk hG
    have hq : posG G j < (lft C G L P).length := by rw [Lft.len]; exact posG_lt hj hH
    obtain ⟨a1, -, a3, a4⟩ := en_side hD _ s hp hs
    obtain ⟨b1, -, -, -⟩ := en_side hD _ t hq ht
    rw [(h.at hk hG hs).2.2.2] at a1
    rw [(h.at hj hH ht).2.2.2, h.arc hj hH ht, ← e, ← h.arc hk hG hs] at b1
    have ed := hT _ (mem_arcE a3 a4)
    revert ec a1 b1
    cases (C.getD k Cr.none).comes s <;> cases (C.getD j Cr.none).comes t <;> intro ec a1 b1
    · exact absurd rfl ec
    · rw [a1, b1] at ed; exact ed.symm
    · rw [a1, b1] at ed; exact ed
    · exact absurd rfl ec
/-- Pieces that meet what is left: no fewer than its pieces. -/
theorem Lft.pieces {C : List Cr} {loops lo : Int} {G L : List Nat} {P : Nat → Bool} (h : Lft C loops G L P) (hD : mayD (lft C G L P) lo = true) {k j : Nat} (hk : k < C.length) (hG : k ∉ G) (hj : j < C.length) (hH : j ∉ G)
    (hc : Con (edb (up0 (fs C G)) al (4 * C.length + 1)) (ein C k 0) (ein C j 0)) : Con (arcE (lft C G L P)) (posG G k) (posG G j) := fun T hT hTk => by
  have hS : Closed (edb (up0 (fs C G)) al (4 * C.length + 1)) fun z => 1 ≤ z ∧ ∃ k s, (k < C.length ∧ k ∉ G ∧ s < 4) ∧ L.getD (aAt C k s) 0 = L.getD (dA z) 0 ∧ T (posG G k) := by
    refine closed_edb.2 ⟨fun z hz => ?_, fun z hz => ?_⟩
    · rcases Nat.eq_zero_or_pos z with rfl | z1
      · exact Iff.rfl
      · rw [up0_pos _ z1]
        have f1 := (fs_may h.hm G z1 (by omega)).1
        by_cases hg : dC C z ∈ G
        · rw [(h.straight z1 (by omega) hg).1]
          exact ⟨fun q => ⟨f1, q.2⟩, fun q => ⟨z1, q.2⟩⟩
        · obtain ⟨g1, g2, g3⟩ := ein_onto h.hm z1 (by omega)
          have s3 : (dS C z + 3) % 4 < 4 := Nat.mod_lt _ (by decide)
          have a := (ein_arc h.hm g1 g2).1
          rw [← g3] at a
          have f := (ein_at h.hm _ _ g1 g2).2.2.2.2.2
          rw [← g3] at f
          have b : dA (fs C G z) = aAt C (dC C z) ((dS C z + 3) % 4) := by rw [fs_out hg, f, (pd_at h.hm _ _ g1 s3).1, dA_mk (en_side h.hm _ _ g1 s3).2.2.1]
          rw [a, b]
          constructor
          · rintro ⟨-, m, s, ⟨m1, m2, m3⟩, me, mt⟩
            exact ⟨f1, dC C z, (dS C z + 3) % 4, ⟨g1, hg, s3⟩, rfl, (h.piece hD hT m1 m2 m3 g1 hg g2 me).1 mt⟩
          · rintro ⟨-, m, s, ⟨m1, m2, m3⟩, me, mt⟩
            exact ⟨z1, dC C z, dS C z, ⟨g1, hg, g2⟩, rfl, (h.piece hD hT m1 m2 m3 g1 hg s3 me).1 mt⟩
    · rcases Nat.eq_zero_or_pos z with rfl | z1
      · exact Iff.rfl
      · obtain ⟨a1, -, a3, -⟩ := al_may (n := C.length) z1 (by omega)
        rw [a3]
        exact ⟨fun q => ⟨a1, q.2⟩, fun q => ⟨z1, q.2⟩⟩
  obtain ⟨e0, -⟩ := ein_at h.hm k 0 hk (by decide)
  obtain ⟨-, m, s, ⟨m1, m2, m3⟩, me, mt⟩ := hc _ hS ⟨e0, k, 0, ⟨hk, hG, by decide⟩, by rw [(ein_arc h.hm hk (by decide)).1], hTk⟩
  rw [(ein_arc h.hm hj (by decide)).1] at me
  exact (h.piece hD hT m1 m2 m3 hj hH (by decide) me).1 mt
end Go.Proofs.Ytagaajlbkfkaiaa
/- Plain mathematics: straight rings that meet nothing that is left; what is left is planar. -/
namespace Go.Proofs.Ytagaajlbkfkaiaa

theorem fs_it {C : List Cr} {loops : Int} (hm : mayD C loops = true) (G : List Nat) {v : Nat} (h1 : 1 ≤ v) (h2 : v ≤ 4 * C.length) : ∀ i, 1 ≤ it (up0 (fs C G)) i v ∧ it (up0 (fs C G)) i v ≤ 4 * C.length := fun i => by
  induction i with
  | zero => exact ⟨h1, h2⟩
  | succ i ih => show 1 ≤ up0 (fs C G) (it (up0 (fs C G)) i v) ∧ up0 (fs C G) (it (up0 (fs C G)) i v) ≤ _; rw [up0_pos _ ih.1]; exact fs_may hm G ih.1 ih.2
/-- Straight back. -/
theorem fs_back {C : List Cr} {loops : Int} (hm : mayD C loops = true) {G : List Nat} {y : Nat} (h1 : 1 ≤ y) (h2 : y ≤ 4 * C.length) (hg : dC C y ∈ G) : dC C (al (fs C G y)) = dC C y ∧ fs C G (al (fs C G y)) = al y := by
  obtain ⟨g1, g2, g3⟩ := ein_onto hm h1 h2
  have s2 : (dS C y + 2) % 4 < 4 := Nat.mod_lt _ (by decide)
  have f : al (fs C G y) = ein C (dC C y) ((dS C y + 2) % 4) := by
    have := fs_in hm g1 g2 hg
    rw [← g3] at this
    rw [this]
    rfl
  have a := (ein_at hm _ _ g1 g2).2.2.2.2.1
  rw [← g3] at a
  rw [f, (ein_at hm _ _ g1 s2).2.2.1, fs_in hm g1 s2 hg, show ((dS C y + 2) % 4 + 2) % 4 = dS C y by omega, a]
  exact ⟨rfl, rfl⟩
/-- A ring that meets nothing: its darts. -/
theorem Lft.alone {C : List Cr} {loops : Int} {G L : List Nat} {P : Nat → Bool} (h : Lft C loops G L P) {v : Nat} (h1 : 1 ≤ v) (h2 : v ≤ 4 * C.length) (hn : ¬ Mt C G (eds (up0 (fs C G)) (4 * C.length + 1)) v) :
    ∀ i, dC C (it (up0 (fs C G)) i v) ∈ G ∧ dB (it (up0 (fs C G)) i v) = dB v := fun i => by
  have hg : ∀ i, dC C (it (up0 (fs C G)) i v) ∈ G := fun i => Classical.byContradiction fun q => hn ⟨_, ⟨(fs_it h.hm G h1 h2 i).1, (fs_it h.hm G h1 h2 i).2, q⟩, con_it (fs_bij h.hm G) (by omega) i⟩
  refine ⟨hg i, ?_⟩
  induction i with
  | zero => rfl
  | succ i ih =>
    have r := fs_it h.hm G h1 h2 i
    show dB (up0 (fs C G) (it (up0 (fs C G)) i v)) = _
    rw [up0_pos _ r.1, (h.straight r.1 r.2 (hg i)).2, ih]
theorem it_more {f : Nat → Nat} {M : Nat} (h : Bij f M) {v y : Nat} (hv : v < M) (hc : Con (eds f M) v y) : ∃ i, it f (i + 1) v = y := by
  obtain ⟨i, hi⟩ := it_con h hv hc
  obtain ⟨p, p0, hp⟩ := period h hv
  refine ⟨i + p - 1, ?_⟩
  rw [show i + p - 1 + 1 = i + p by omega, it_add, hp, hi]
/-- Its piece: itself, and itself turned round. -/
theorem Lft.both {C : List Cr} {loops : Int} {G L : List Nat} {P : Nat → Bool} (h : Lft C loops G L P) {v : Nat} (h1 : 1 ≤ v) (h2 : v ≤ 4 * C.length) (hn : ¬ Mt C G (eds (up0 (fs C G)) (4 * C.length + 1)) v) {j : Nat}
    (hc : Con (edb (up0 (fs C G)) al (4 * C.length + 1)) v j) : Con (eds (up0 (fs C G)) (4 * C.length + 1)) v j ∨ Con (eds (up0 (fs C G)) (4 * C.length + 1)) v (al j) := by
  have hB := fs_bij h.hm G
  have fw : ∀ z, z < 4 * C.length + 1 → (Con (eds (up0 (fs C G)) (4 * C.length + 1)) v z ∨ Con (eds (up0 (fs C G)) (4 * C.length + 1)) v (al z)) → (Con (eds (up0 (fs C G)) (4 * C.length + 1)) v (up0 (fs C G) z) ∨ Con (eds (up0 (fs C G)) (4 * C.length + 1)) v (al (up0 (fs C G) z))) := fun z hz q => by
    rcases q with q | q
    · exact Or.inl (q.trans (con_f hz))
    · obtain ⟨i, hi⟩ := it_more hB (by omega) q
      have r := fs_it h.hm G h1 h2 i
      have hg := (h.alone h1 h2 hn i).1
      have e : fs C G (it (up0 (fs C G)) i v) = al z := by rw [← hi]; show _ = up0 (fs C G) (it (up0 (fs C G)) i v); rw [up0_pos _ r.1]
      have b := (fs_back h.hm r.1 r.2 hg).2
      rw [e, al_back] at b
      have z1 : 1 ≤ z := by
        rcases Nat.eq_zero_or_pos z with rfl | hp
        · have := (fs_it h.hm G h1 h2 (i + 1)).1
          rw [hi, al_zero] at this
          omega
        · exact hp
      rw [up0_pos _ z1, b, al_back]
      exact Or.inr (con_it hB (by omega) i)
  refine hc (fun z => Con (eds (up0 (fs C G)) (4 * C.length + 1)) v z ∨ Con (eds (up0 (fs C G)) (4 * C.length + 1)) v (al z)) (closed_edb.2 ⟨fun z hz => ⟨fw z hz, fun q => ?_⟩, fun z hz => ?_⟩) (Or.inl (Con.refl _ _))
  · obtain ⟨p, p0, hp⟩ := period hB hz
    have key : ∀ i, Con (eds (up0 (fs C G)) (4 * C.length + 1)) v (it (up0 (fs C G)) (i + 1) z) ∨ Con (eds (up0 (fs C G)) (4 * C.length + 1)) v (al (it (up0 (fs C G)) (i + 1) z)) := fun i => by
      induction i with
      | zero => exact q
      | succ i ih => exact fw _ (it_lt hB hz (i + 1)) ih
    have := key (p - 1)
    rw [show p - 1 + 1 = p by omega, hp] at this
    exact this
  · show _ ∨ _ ↔ Con _ v (al z) ∨ Con _ v (al (al z))
    rw [al_back]
    exact Or.comm
theorem Lft.apart {C : List Cr} {loops : Int} {G L : List Nat} {P : Nat → Bool} (h : Lft C loops G L P) {v : Nat} (h1 : 1 ≤ v) (h2 : v ≤ 4 * C.length) (hn : ¬ Mt C G (eds (up0 (fs C G)) (4 * C.length + 1)) v) : ¬ Mt C G (edb (up0 (fs C G)) al (4 * C.length + 1)) v := by
  rintro ⟨j, ⟨j1, j2, j3⟩, hc⟩
  rcases h.both h1 h2 hn hc with q | q
  · exact hn ⟨j, ⟨j1, j2, j3⟩, q⟩
  · obtain ⟨i, hi⟩ := it_more (fs_bij h.hm G) (by omega) q
    have r := fs_it h.hm G h1 h2 i
    have hg := (h.alone h1 h2 hn i).1
    have e : fs C G (it (up0 (fs C G)) i v) = al j := by rw [← hi]; show _ = up0 (fs C G) (it (up0 (fs C G)) i v); rw [up0_pos _ r.1]
    have b := (fs_back h.hm r.1 r.2 hg).1
    rw [e, al_back] at b
    exact j3 (b ▸ hg)
/-- Rings that meet nothing: at most two in a piece. -/
theorem Lft.lone {C : List Cr} {loops : Int} {G L : List Nat} {P : Nat → Bool} (h : Lft C loops G L P) {WE : List Nat} (lE : Least (edb (up0 (fs C G)) al (4 * C.length + 1)) (4 * C.length + 1) WE) (b : Bool) :
    (List.range (4 * C.length + 1)).countP (fun v => (rootB (cyW (up0 (fs C G)) (4 * C.length + 1)) v && !mtB C G (eds (up0 (fs C G)) (4 * C.length + 1)) v) && decide (dB v = b)) ≤ (List.range (4 * C.length + 1)).countP fun v => rootB WE v && !mtB C G (edb (up0 (fs C G)) al (4 * C.length + 1)) v := by
  have hB := fs_bij h.hm G
  have hW := cyW_least hB.lt
  have un : ∀ v, ((rootB (cyW (up0 (fs C G)) (4 * C.length + 1)) v && !mtB C G (eds (up0 (fs C G)) (4 * C.length + 1)) v) && decide (dB v = b)) = true → (cyW (up0 (fs C G)) (4 * C.length + 1)).getD v 0 = v ∧ 1 ≤ v ∧ (¬ Mt C G (eds (up0 (fs C G)) (4 * C.length + 1)) v) ∧ dB v = b := fun v q => by
    rw [Bool.and_eq_true, Bool.and_eq_true] at q
    unfold rootB at q
    rw [Bool.and_eq_true, decide_eq_true_eq, decide_eq_true_eq, decide_eq_true_eq] at q
    refine ⟨q.1.1.1, q.1.1.2, fun m => ?_, q.2⟩
    have := q.1.2
    rw [mtB_iff.2 m] at this
    cases this
  refine inj_cnt (fun v => WE.getD v 0) (fun v hv hP => ?_) fun u v hu hv hPu hPv e => ?_
  · obtain ⟨-, v1, vn, -⟩ := un v hP
    refine ⟨lE.lt hv, ?_⟩
    have hc := (lE.2 v hv).1
    rw [Bool.and_eq_true]
    refine ⟨?_, ?_⟩
    · unfold rootB
      rw [Bool.and_eq_true]
      refine ⟨decide_eq_true (lE.root hv), decide_eq_true ?_⟩
      refine hc (fun z => 1 ≤ z) (closed_edb.2 ⟨fun z hz => ?_, fun z hz => ?_⟩) v1
      · rcases Nat.eq_zero_or_pos z with rfl | z1
        · exact Iff.rfl
        · rw [up0_pos _ z1]; exact ⟨fun _ => (fs_may h.hm G z1 (by omega)).1, fun _ => z1⟩
      · rcases Nat.eq_zero_or_pos z with rfl | z1
        · exact Iff.rfl
        · exact ⟨fun _ => (al_may (n := C.length) z1 (by omega)).1, fun _ => z1⟩
    · rw [Bool.not_eq_true']
      refine Bool.eq_false_iff.2 fun q => h.apart v1 (by omega) vn ?_
      obtain ⟨j, hj, hjc⟩ := mtB_iff.1 q
      exact ⟨j, hj, hc.trans hjc⟩
  · obtain ⟨u0, u1, un', ub⟩ := un u hPu
    obtain ⟨v0, v1, -, vb⟩ := un v hPv
    have hc := (lE.same hu hv).1 e
    rcases h.both u1 (by omega) un' hc with q | q
    · have := (hW.same hu hv).2 q
      rw [u0, v0] at this
      exact this
    · obtain ⟨i, hi⟩ := it_con hB hu q
      have d := (h.alone u1 (by omega) un' i).2
      rw [hi, (al_may (n := C.length) v1 (by omega)).2.2.2, vb, ub] at d
      cases b <;> cases d
/-- What is left is planar, where straight rings and pieces say so. -/
theorem Lft.planar {C : List Cr} {loops lo : Int} {G L : List Nat} {P : Nat → Bool} (h : Lft C loops G L P) (hD : mayD (lft C G L P) lo = true) {m : Nat} (hm : posG G C.length + m = C.length)
    (hq : C.length + 2 * kN (edb (up0 (fs C G)) al (4 * C.length + 1)) (4 * C.length + 1) ≤ cyA (up0 (fs C G)) (4 * C.length + 1) + m + 1) : planarB (lft C G L P) = true := by
  refine (planar_sum hD).2.2 ?_
  have hB := fs_bij h.hm G
  have hW := cyW_least hB.lt
  have hE : ∀ e, e ∈ edb (up0 (fs C G)) al (4 * C.length + 1) → e.1 < 4 * C.length + 1 ∧ e.2 < 4 * C.length + 1 := edb_lt hB.lt fun x hx => al_lt (n := C.length) hx
  have lE := levR_least hE (4 * C.length + 1) (Nat.le_refl _)
  unfold kN cyA cyN at hq
  rw [rq_pos lE, rq_pos hW, rq_eq, rq_eq] at hq
  have r1 := h.rings hD
  have l1 := h.lone lE true
  have l2 := h.lone lE false
  have s1 := cnt_split (rootB (cyW (up0 (fs C G)) (4 * C.length + 1))) (mtB C G (eds (up0 (fs C G)) (4 * C.length + 1))) (List.range (4 * C.length + 1))
  have s2 := cnt_split (rootB (levR (List.range (4 * C.length + 1)) (edb (up0 (fs C G)) al (4 * C.length + 1)) (4 * C.length + 1))) (mtB C G (edb (up0 (fs C G)) al (4 * C.length + 1))) (List.range (4 * C.length + 1))
  have s3 := cnt_split (fun v => rootB (cyW (up0 (fs C G)) (4 * C.length + 1)) v && !mtB C G (eds (up0 (fs C G)) (4 * C.length + 1)) v) (fun v => decide (dB v = true)) (List.range (4 * C.length + 1))
  have s4 : (List.range (4 * C.length + 1)).countP (fun v => (rootB (cyW (up0 (fs C G)) (4 * C.length + 1)) v && !mtB C G (eds (up0 (fs C G)) (4 * C.length + 1)) v) && !decide (dB v = true)) = (List.range (4 * C.length + 1)).countP (fun v => (rootB (cyW (up0 (fs C G)) (4 * C.length + 1)) v && !mtB C G (eds (up0 (fs C G)) (4 * C.length + 1)) v) && decide (dB v = false)) := List.countP_congr fun v _ => by cases dB v <;> simp
  rw [s4] at s3
  have p1 : pcN (lft C G L P) ≤ (List.range (4 * C.length + 1)).countP fun v => rootB (levR (List.range (4 * C.length + 1)) (edb (up0 (fs C G)) al (4 * C.length + 1)) (4 * C.length + 1)) v && mtB C G (edb (up0 (fs C G)) al (4 * C.length + 1)) v := by
    rw [pcN_eq, Lft.len]
    have hw : ∀ i, ∃ k, i < posG G C.length → k < C.length ∧ k ∉ G ∧ posG G k = i := fun i => by
      by_cases q : i < posG G C.length
      · obtain ⟨k, hk⟩ := posG_onto q
        exact ⟨k, fun _ => hk⟩
      · exact ⟨0, fun q' => absurd q' q⟩
    obtain ⟨w, hw⟩ := Classical.axiomOfChoice hw
    have hWD := whoM_least hD
    rw [Lft.len] at hWD
    refine inj_cnt (fun i => (levR (List.range (4 * C.length + 1)) (edb (up0 (fs C G)) al (4 * C.length + 1)) (4 * C.length + 1)).getD (ein C (w i) 0) 0) (fun i hi _ => ?_) fun i j hi hj hPi hPj e => ?_
    · obtain ⟨k1, k2, k3⟩ := hw i hi
      obtain ⟨e0, e1, e2, -⟩ := ein_at h.hm (w i) 0 k1 (by decide)
      have hl : ein C (w i) 0 < 4 * C.length + 1 := by omega
      have hc := (lE.2 _ hl).1
      refine ⟨lE.lt hl, ?_⟩
      rw [Bool.and_eq_true]
      unfold rootB
      rw [Bool.and_eq_true]
      refine ⟨⟨decide_eq_true (lE.root hl), decide_eq_true ?_⟩, mtB_iff.2 ⟨_, ⟨e0, e1, by rw [e2]; exact k2⟩, hc.symm⟩⟩
      refine hc (fun z => 1 ≤ z) (closed_edb.2 ⟨fun z hz => ?_, fun z hz => ?_⟩) e0
      · rcases Nat.eq_zero_or_pos z with rfl | z1
        · exact Iff.rfl
        · rw [up0_pos _ z1]; exact ⟨fun _ => (fs_may h.hm G z1 (by omega)).1, fun _ => z1⟩
      · rcases Nat.eq_zero_or_pos z with rfl | z1
        · exact Iff.rfl
        · exact ⟨fun _ => (al_may (n := C.length) z1 (by omega)).1, fun _ => z1⟩
    · obtain ⟨k1, k2, k3⟩ := hw i hi
      obtain ⟨j1, j2, j3⟩ := hw j hj
      obtain ⟨e0, e1, -⟩ := ein_at h.hm (w i) 0 k1 (by decide)
      obtain ⟨f0, f1, -⟩ := ein_at h.hm (w j) 0 j1 (by decide)
      have c := h.pieces hD k1 k2 j1 j2 ((lE.same (by omega) (by omega)).1 e)
      rw [k3, j3] at c
      have := (hWD.same hi hj).2 c
      rw [of_decide_eq_true hPi, of_decide_eq_true hPj] at this
      exact this
  have t1 : (List.range (4 * C.length + 1)).countP (fun v => decide ((cyW (up0 (fs C G)) (4 * C.length + 1)).getD v 0 = v) && decide (1 ≤ v)) = (List.range (4 * C.length + 1)).countP (rootB (cyW (up0 (fs C G)) (4 * C.length + 1))) := rfl
  have t2 : (List.range (4 * C.length + 1)).countP (fun v => decide ((levR (List.range (4 * C.length + 1)) (edb (up0 (fs C G)) al (4 * C.length + 1)) (4 * C.length + 1)).getD v 0 = v) && decide (1 ≤ v)) = (List.range (4 * C.length + 1)).countP (rootB (levR (List.range (4 * C.length + 1)) (edb (up0 (fs C G)) al (4 * C.length + 1)) (4 * C.length + 1))) := rfl
  rw [t1, t2] at hq
  rw [Lft.len]
  omega
end Go.Proofs.Ytagaajlbkfkaiaa
/- Plain mathematics: taking out a curl, or the crossings of a face of two, keeps a planar diagram planar. -/
namespace Go.Proofs.Ytagaajlbkfkaiaa

theorem posG_one {k : Nat} : ∀ n, posG [k] n + (if k < n then 1 else 0) = n := by
  intro n
  induction n with
  | zero => rfl
  | succ n ih =>
    rw [posG_next]
    by_cases e : n = k
    · rw [if_pos (List.mem_singleton.2 e), if_pos (by omega)]
      rw [if_neg (by omega)] at ih
      omega
    · rw [if_neg (by simpa using e)]
      by_cases hl : k < n
      · rw [if_pos hl] at ih; rw [if_pos (by omega)]; omega
      · rw [if_neg hl] at ih; rw [if_neg (by omega)]; omega
theorem posG_two {p q : Nat} {G : List Nat} (hpq : p ≠ q) (hG : ∀ k, k ∈ G ↔ k = p ∨ k = q) : ∀ n, posG G n + (if p < n then 1 else 0) + (if q < n then 1 else 0) = n := by
  intro n
  induction n with
  | zero => rfl
  | succ n ih =>
    rw [posG_next]
    by_cases e : n ∈ G
    · rw [if_pos e]
      rcases (hG n).1 e with e | e
      · rw [if_neg (show ¬ p < n by omega)] at ih
        rw [if_pos (show p < n + 1 by omega)]
        by_cases hl : q < n
        · rw [if_pos hl] at ih; rw [if_pos (show q < n + 1 by omega)]; omega
        · rw [if_neg hl] at ih; rw [if_neg (show ¬ q < n + 1 by omega)]; omega
      · rw [if_neg (show ¬ q < n by omega)] at ih
        rw [if_pos (show q < n + 1 by omega)]
        by_cases hl : p < n
        · rw [if_pos hl] at ih; rw [if_pos (show p < n + 1 by omega)]; omega
        · rw [if_neg hl] at ih; rw [if_neg (show ¬ p < n + 1 by omega)]; omega
    · rw [if_neg e]
      have e1 : n ≠ p := fun q => e ((hG n).2 (Or.inl q))
      have e2 : n ≠ q := fun q => e ((hG n).2 (Or.inr q))
      by_cases hl : p < n
      · rw [if_pos hl] at ih
        rw [if_pos (show p < n + 1 by omega)]
        by_cases hk : q < n
        · rw [if_pos hk] at ih; rw [if_pos (show q < n + 1 by omega)]; omega
        · rw [if_neg hk] at ih; rw [if_neg (show ¬ q < n + 1 by omega)]; omega
      · rw [if_neg hl] at ih
        rw [if_neg (show ¬ p < n + 1 by omega)]
        by_cases hk : q < n
        · rw [if_pos hk] at ih; rw [if_pos (show q < n + 1 by omega)]; omega
        · rw [if_neg hk] at ih; rw [if_neg (show ¬ q < n + 1 by omega)]; omega
/-- What is left, as the walks tell it. -/
theorem lft_tak {C : List Cr} {loops : Int} (hm : mayD C loops = true) (G : List Nat) : Lft C loops G (uniM C (nx C) G) (ltB (uniM C (nx C) G) (stB C G (uniM C (nx C) G) (2 * C.length + 1))) where
  hm := hm
  go := nx_goes hm
  hL := rfl
  hP := fun v h1 => by
    rw [st_th hm (nx_goes hm) G v h1]
    unfold ltB
    rw [Bool.and_eq_true, decide_eq_true_eq, stB_iff]
/-- A curl taken out. -/
theorem curl_planar {C : List Cr} {loops lo : Int} (hm : mayD C loops = true) (hp : planarB C = true) {k s : Nat} (hk : k < C.length) (hs : s < 4) (e : (C.getD k Cr.none).arc s = (C.getD k Cr.none).arc ((s + 1) % 4))
    (hz : sizeB (reTo C [k] (numM (uniM C (nx C) [k]) (ltB (uniM C (nx C) [k]) (stB C [k] (uniM C (nx C) [k]) (2 * C.length + 1)))) C.length) lo = true) :
    mayD (reTo C [k] (numM (uniM C (nx C) [k]) (ltB (uniM C (nx C) [k]) (stB C [k] (uniM C (nx C) [k]) (2 * C.length + 1)))) C.length) lo = true ∧ planarB (reTo C [k] (numM (uniM C (nx C) [k]) (ltB (uniM C (nx C) [k]) (stB C [k] (uniM C (nx C) [k]) (2 * C.length + 1)))) C.length) = true := by
  have h := lft_tak hm [k]
  have hD := h.may hz
  have hn := posG_one (k := k) C.length
  rw [if_pos hk] at hn
  exact ⟨hD, h.planar hD hn (curl_euler hm hp hk hs e)⟩
/-- The crossings of a face of two taken out. -/
theorem pull_planar {C : List Cr} {loops lo : Int} (hm : mayD C loops = true) (hpl : planarB C = true) {X Y : Nat} (x1 : 1 ≤ X) (x2 : X ≤ 4 * C.length) (y1 : 1 ≤ Y) (y2 : Y ≤ 4 * C.length) (fX : fd C X = Y) (fY : fd C Y = X) (hne : dC C Y ≠ dC C X) (G : List Nat) (hG : ∀ k, k ∈ G ↔ k = dC C Y ∨ k = dC C X)
    (hz : sizeB (reTo C G (numM (uniM C (nx C) G) (ltB (uniM C (nx C) G) (stB C G (uniM C (nx C) G) (2 * C.length + 1)))) C.length) lo = true) :
    mayD (reTo C G (numM (uniM C (nx C) G) (ltB (uniM C (nx C) G) (stB C G (uniM C (nx C) G) (2 * C.length + 1)))) C.length) lo = true ∧ planarB (reTo C G (numM (uniM C (nx C) G) (ltB (uniM C (nx C) G) (stB C G (uniM C (nx C) G) (2 * C.length + 1)))) C.length) = true := by
  have h := lft_tak hm G
  have hD := h.may hz
  obtain ⟨a1, a2, a3⟩ := ein_onto hm x1 x2
  obtain ⟨b1, b2, b3⟩ := ein_onto hm y1 y2
  have hn := posG_two hne hG C.length
  rw [if_pos a1, if_pos b1] at hn
  have q := pull_euler hm hpl b1 a1 hne b2 a2 (by rw [← a3, ← b3]; exact fX) (by rw [← a3, ← b3]; exact fY) G hG
  exact ⟨hD, h.planar hD (m := 2) (by omega) q⟩
end Go.Proofs.Ytagaajlbkfkaiaa
/- Plain mathematics: a face of two; how many loops are left. -/
namespace Go.Proofs.Ytagaajlbkfkaiaa

theorem two_ring {C : List Cr} {loops : Int} (hm : mayD C loops = true) {l : List Nat} (hl : l ∈ facesM C) (h2 : l.length = 2) : ∃ x y, l = [x, y] ∧ (1 ≤ x ∧ x ≤ 4 * C.length) ∧ (1 ≤ y ∧ y ≤ 4 * C.length) ∧ y = fd C x ∧ x = fd C y := by
  have hc := (rings_closed (fd_closed hm) (fun a b p q r s t => fd_inj hm a b p q r s t) (4 * C.length) (Nat.le_refl _)).2.2 l hl
  have hr := (walksTo_mem (fd_closed hm) (4 * C.length) (Nat.le_refl _) l hl).2.2
  match l, h2 with
  | [x, y], _ =>
    refine ⟨x, y, rfl, hr x (by simp), hr y (by simp), ?_, ?_⟩
    · exact hc.1 0 (by simp)
    · exact hc.2.symm
/-- Where nothing is left, a loop is. -/
theorem loops_left {C : List Cr} {loops : Int} (hm : mayD C loops = true) (G : List Nat) (h0 : 0 < C.length) (hn : posG G C.length = 0) : 1 ≤ cntB (lfB (uniM C (nx C) G) (stB C G (uniM C (nx C) G) (2 * C.length + 1))) (2 * C.length + 1) := by
  have h := lft_tak hm G
  have hall : ∀ k, k < C.length → k ∈ G := fun k hk => Classical.byContradiction fun q => by have := posG_lt hk q; omega
  have l1 := h.pos (a := 1) (Nat.le_refl _) (by omega)
  have l2 := h.least.le (v := 1) (by omega)
  have e : (uniM C (nx C) G).getD 1 0 = 1 := by omega
  have hs : stB C G (uniM C (nx C) G) (2 * C.length + 1) 1 = false := by
    refine Bool.eq_false_iff.2 fun q => ?_
    obtain ⟨a, ha, ea, hg⟩ := stB_iff.1 q
    have a1 : 1 ≤ a := by
      rcases Nat.eq_zero_or_pos a with rfl | hp
      · have := h.least.le (v := 0) (by omega); omega
      · exact hp
    unfold goneB at hg
    rw [if_neg (by omega)] at hg
    have := hall _ (to_may hm a a1 (by omega)).2.1
    simp [this] at hg
  have hP : lfB (uniM C (nx C) G) (stB C G (uniM C (nx C) G) (2 * C.length + 1)) 1 = true := by unfold lfB; rw [e, hs]; rfl
  have := cntB_lt (Nat.le_refl 1) hP (show 1 < 2 * C.length + 1 by omega)
  omega
/-- The sizes of what is left. -/
theorem size_left {C : List Cr} {loops lo : Int} (hm : mayD C loops = true) (G : List Nat) (h0 : 0 < C.length) (hlo : lo = loops + (cntB (lfB (uniM C (nx C) G) (stB C G (uniM C (nx C) G) (2 * C.length + 1))) (2 * C.length + 1) : Nat)) (h16 : lo ≤ 16) (h : Nat → Nat) : sizeB (reTo C G h C.length) lo = true := by
  have hs : sizeB C loops = true := by
    cases q : sizeB C loops with
    | true => rfl
    | false => rw [mayD_size q] at hm; cases hm
  have hs := sizeB_iff hs
  unfold sizeB
  simp only [Bool.and_eq_true, decide_eq_true_eq, Bool.not_eq_true', Bool.and_eq_false_iff, decide_eq_false_iff_not]
  have hl := reTo_len C G h C.length
  refine ⟨⟨⟨by omega, by omega⟩, h16⟩, ?_⟩
  by_cases hn : (reTo C G h C.length).length = 0
  · right
    rw [reTo_pos] at hn
    have := loops_left hm G h0 hn
    omega
  · left
    exact hn
/-- The two crossings of a face of two taken out, as the tests tell it. -/
theorem pull_two {C : List Cr} {loops lo : Int} (hm : mayD C loops = true) (hpl : planarB C = true) {l : List Nat} (hl : l ∈ facesM C) (h2 : l.length = 2) {x y : Nat} (hxy : x ≠ y) (hc : dC C (l.getD 0 0) = x ∧ dC C (l.getD 1 0) = y ∨ dC C (l.getD 0 0) = y ∧ dC C (l.getD 1 0) = x)
    (hlo : lo = loops + (cntB (lfB (uniM C (nx C) [x, y]) (stB C [x, y] (uniM C (nx C) [x, y]) (2 * C.length + 1))) (2 * C.length + 1) : Nat)) (h16 : lo ≤ 16) :
    mayD (reTo C [x, y] (numM (uniM C (nx C) [x, y]) (ltB (uniM C (nx C) [x, y]) (stB C [x, y] (uniM C (nx C) [x, y]) (2 * C.length + 1)))) C.length) lo = true ∧ planarB (reTo C [x, y] (numM (uniM C (nx C) [x, y]) (ltB (uniM C (nx C) [x, y]) (stB C [x, y] (uniM C (nx C) [x, y]) (2 * C.length + 1)))) C.length) = true := by
  obtain ⟨X, Y, rfl, hX, hY, e1, e2⟩ := two_ring hm hl h2
  have hc : dC C X = x ∧ dC C Y = y ∨ dC C X = y ∧ dC C Y = x := hc
  refine pull_planar hm hpl hX.1 hX.2 hY.1 hY.2 e1.symm e2.symm (by omega) [x, y] (fun k => ?_) (size_left hm [x, y] (by have := hX; omega) hlo h16 _)
  simp only [List.mem_cons, List.not_mem_nil, or_false]
  omega
/-- A curl taken out, as the test tells it. -/
theorem curl_one {C : List Cr} {loops lo : Int} (hm : mayD C loops = true) (hp : planarB C = true) {k : Nat} (hk : k < C.length) (hc : ((List.range 4).any fun s => decide ((C.getD k Cr.none).arc s = (C.getD k Cr.none).arc ((s + 1) % 4))) = true)
    (hlo : lo = loops + (cntB (lfB (uniM C (nx C) [k]) (stB C [k] (uniM C (nx C) [k]) (2 * C.length + 1))) (2 * C.length + 1) : Nat)) (h16 : lo ≤ 16) :
    mayD (reTo C [k] (numM (uniM C (nx C) [k]) (ltB (uniM C (nx C) [k]) (stB C [k] (uniM C (nx C) [k]) (2 * C.length + 1)))) C.length) lo = true ∧ planarB (reTo C [k] (numM (uniM C (nx C) [k]) (ltB (uniM C (nx C) [k]) (stB C [k] (uniM C (nx C) [k]) (2 * C.length + 1)))) C.length) = true := by
  obtain ⟨s, hs, e⟩ := List.any_eq_true.1 hc
  exact curl_planar hm hp hk (List.mem_range.1 hs) (of_decide_eq_true e) (size_left hm [k] (by omega) hlo h16 _)
end Go.Proofs.Ytagaajlbkfkaiaa
