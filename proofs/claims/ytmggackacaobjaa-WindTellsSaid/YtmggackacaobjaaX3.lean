/- The walk of wind.links. -/
import Derived.Test.YtmggackacaobjaaX1
import Derived.Test.YtmggackacaobjaaX2
import Derived.Test.YtmggackacaobjaaTab
namespace Go.Proofs.Ytmggackacaobjaa
open Go.RowKit

/-- The walk in which side s of crossing k lies. -/
def pA (C : List Cr) (k s : Nat) : Nat := pt (walksM C) ((C.getD k Cr.none).arc s).toNat
/-- How often walk i and walk j wind around one another, by the first k crossings. -/
def lkM (C : List Cr) (i j : Nat) : Nat → Int
  | 0 => 0
  | k + 1 => lkM C i j k + if (pA C k 0 = i ∧ pA C k 1 = j) ∨ (i ≠ j ∧ pA C k 0 = j ∧ pA C k 1 = i) then sgn (C.getD k Cr.none).plus else 0
theorem lkM_bound (C : List Cr) (i j k : Nat) : -(k : Int) ≤ lkM C i j k ∧ lkM C i j k ≤ (k : Int) := by
  induction k with
  | zero => simp [lkM]
  | succ k ih =>
    have := sgn_bound (C.getD k Cr.none).plus
    simp only [lkM]
    split <;> omega
/-- Halved off the diagonal. -/
def hf (i j : Nat) (x : Int) : Int := if i = j then x else x.tdiv 2
theorem tdiv_le16 (x : Int) (h : -16 ≤ x ∧ x ≤ 16) : -9223372036854775808 ≤ x.tdiv 2 ∧ x.tdiv 2 ≤ 9223372036854775807 := by
  rcases Int.le_total 0 x with h0 | h0
  · rw [Int.tdiv_eq_ediv_of_nonneg h0]; omega
  · have e : x.tdiv 2 = -((-x).tdiv 2) := by rw [Int.neg_tdiv, Int.neg_neg]
    rw [e, Int.tdiv_eq_ediv_of_nonneg (by omega)]
    omega
/-- Halved: the first r rows, and the first c places of row r. -/
def hT (C : List Cr) (r c x y : Nat) : Int := if x < r ∨ (x = r ∧ y < c) then hf x y (lkM C x y C.length) else lkM C x y C.length
theorem hT_put (C : List Cr) (r c x y : Nat) : hT C r (c + 1) x y = if x = r ∧ y = c then hf r c (lkM C r c C.length) else hT C r c x y := by
  unfold hT
  by_cases h : x = r ∧ y = c
  · obtain ⟨rfl, rfl⟩ := h
    rw [if_pos (Or.inr ⟨rfl, by omega⟩), if_pos ⟨rfl, rfl⟩]
  · rw [if_neg h]
    by_cases h2 : x < r ∨ (x = r ∧ y < c)
    · rw [if_pos h2, if_pos (by omega)]
    · rw [if_neg h2, if_neg (by omega)]
theorem hT_at (C : List Cr) (r c : Nat) : hT C r c r c = lkM C r c C.length := by
  unfold hT
  rw [if_neg (by omega)]
theorem hT_row (C : List Cr) (r m x y : Nat) (hy : y < m) : hT C (r + 1) 0 x y = hT C r m x y := by
  unfold hT
  by_cases h2 : x < r ∨ (x = r ∧ y < m)
  · rw [if_pos h2, if_pos (by omega)]
  · rw [if_neg h2, if_neg (by omega)]
/-- Ways that go on alike. -/
theorem cut_alike {T G : Prop} (h : Hid T → G) (hT : T) : G := h hT
theorem walks_le {C : List Cr} {loops : Int} (hm : mayD C loops = true) (j : Nat) (hj : j < (walksM C).length) (k : Nat) (hk : k < ((walksM C).getD j []).length) : ((walksM C).getD j []).getD k 0 ≤ 2 * C.length := by
  have h1 : (walksM C).getD j [] ∈ walksM C := by rw [List.getD_eq_getElem?_getD, List.getElem?_eq_getElem hj]; exact List.getElem_mem hj
  have h2 : ((walksM C).getD j []).getD k 0 ∈ (walksM C).getD j [] := by rw [List.getD_eq_getElem?_getD (l := (walksM C).getD j []), List.getElem?_eq_getElem hk]; exact List.getElem_mem hk
  exact ((walksTo_mem (nx_closed hm) (2 * C.length) (Nat.le_refl _) _ h1).2.2 _ h2).2
theorem walks_count {C : List Cr} {loops : Int} (hm : mayD C loops = true) (y : Nat) (hy : y ∈ (walksM C).flatten) : (walksM C).flatten.count y = 1 := by
  obtain ⟨l, h1, h2⟩ := List.mem_flatten.1 hy
  have h3 := (walksTo_mem (nx_closed hm) (2 * C.length) (Nat.le_refl _) _ h1).2.2 _ h2
  exact walks_once _ _ _ h3.1 h3.2
set_option maxHeartbeats 8000000 in
set_option maxRecDepth 100000 in
theorem links_any (a : Option Addr) (cap : Nat) (C : List Cr) (loops : Int) (gF cF gT cT : Nat) (w : World) (hm : mayD C loops = true) (hD : Dr w a cap C gF gT) :
    Calls Try.prog 108 #[drV a cap C loops gF cF gT cT] w fun e w' => ∃ gt gs, e = .returned (.slice (some ⟨gt, 0, none⟩) (walksM C).length (walksM C).length) ∧ TabAt w.heap.size gt (walksM C).length gs (walksM C).length (fun i j => hf i j (lkM C i j C.length)) w' ∧ Below w.heap.size w w' := by
  obtain ⟨s1, -, -, -⟩ := sizeB_iff (may_size hm)
  obtain ⟨i0, hi, hz0, hz1, hz2⟩ := info_parts infoInt
  obtain ⟨i1, hj, hy0, hy1, hy2⟩ := info_parts infoInts
  have HM : Hid (mayD C loops = true) := hm
  have HD : Hid (Dr w a cap C gF gT) := hD
  obtain ⟨m, hmm⟩ : ∃ m, (walksM C).length = m := ⟨_, rfl⟩
  have HMM : Hid ((walksM C).length = m) := hmm
  have hml : m ≤ 2 * C.length := by rw [← hmm]; exact walksTo_count _ _ _
  rw [hmm]
  clear hm hD hmm
  obtain ⟨w0, hw0⟩ : ∃ w0, w0 = w.alloc (.cells #[.slice a C.length cap, .int .i64 loops, .slice (some ⟨gF, 0, none⟩) (2 * C.length + 1) cF, .slice (some ⟨gT, 0, none⟩) (2 * C.length + 1) cT] 87) := ⟨_, rfl⟩
  have HW0 : Hid (w0 = w.alloc (.cells #[.slice a C.length cap, .int .i64 loops, .slice (some ⟨gF, 0, none⟩) (2 * C.length + 1) cF, .slice (some ⟨gT, 0, none⟩) (2 * C.length + 1) cT] 87)) := hw0
  have hs0 : w0.heap.size = w.heap.size + 1 := by rw [hw0]; simp
  have HB0 : Hid (Below w.heap.size w w0) := (by rw [hw0]; exact (Below.refl _ _).alloc (Nat.le_refl _) _ : Below w.heap.size w w0)
  have HT0 : Hid (w0.heap[w.heap.size]? = some (.cells #[.slice a C.length cap, .int .i64 loops, .slice (some ⟨gF, 0, none⟩) (2 * C.length + 1) cF, .slice (some ⟨gT, 0, none⟩) (2 * C.length + 1) cT] 87 (0, 0))) := (by rw [hw0]; exact alloc_at rfl : w0.heap[w.heap.size]? = some (.cells #[.slice a C.length cap, .int .i64 loops, .slice (some ⟨gF, 0, none⟩) (2 * C.length + 1) cF, .slice (some ⟨gT, 0, none⟩) (2 * C.length + 1) cT] 87 (0, 0)))
  clear hw0
  unfold drV
  go_enter Try.func108, Try.ntmps108
  go_wp2_with (go_at_call 67; rw [← HW0.out]; refine (walks_any a cap C loops gF cF gT cT _ HM.out (HD.out.on HB0.out)).mono ?_; rintro e9 w1 ⟨vw, rfl, hvw, hb1⟩; refine Hid.out ?_)
  refine Lib.hid ?_
  have hrd := hvw.rd
  obtain ⟨aw, cw, ew⟩ := hrd.len
  rw [HMM.out] at ew
  subst ew
  have HRD : Hid (NatsRd w1 w1.heap.size (.slice aw m cw) (walksM C)) := hrd
  have HB1 : Hid (Below w0.heap.size w0 w1) := hb1
  have hs1 := hb1.size
  clear hvw hrd hb1
  go_wp2_with (first | (at_make; refine wpList_make_full _ rfl _ _ 25 rfl w1.heap.size 37 i1 (.slice none 0 0) 1 Try.underlying25 hj hy0 hy1 .i64 .i64 _ _ m rfl rfl rfl rfl (by rw [hy2]; omega) (by unfold maxLen; omega) (by simp) ?_; intro w2 hrow2 hg2; refine Hid.out ?_))
  refine Lib.hid ?_
  rw [made_nils] at hrow2
  obtain ⟨gt, hgt⟩ : ∃ gt, w1.heap.size = gt := ⟨_, rfl⟩
  rw [hgt] at hrow2 ⊢
  have HT2 : Hid (TabAt (w.heap.size + 1) gt m (fun _ => 0) 0 (fun _ _ => 0) w2) := ⟨own_low hrow2 (by omega), fun i hi => absurd hi (Nat.not_lt_zero _), fun i j hi => absurd hi (Nat.not_lt_zero _)⟩
  have HB2 : Hid (Below w1.heap.size w1 w2) := (Below.refl _ _).grown hg2 (Nat.le_refl _) (fun k hk => by cases hk)
  have hs2 := HB2.out.size
  clear hrow2 hg2
  go_wp2
  have HBX : Hid (∀ W, Below w1.heap.size w1 W → W.heap[w.heap.size]? = some (.cells #[.slice a C.length cap, .int .i64 loops, .slice (some ⟨gF, 0, none⟩) (2 * C.length + 1) cF, .slice (some ⟨gT, 0, none⟩) (2 * C.length + 1) cT] 87 (0, 0)) ∧ Below w.heap.size w W ∧ w.heap.size < W.heap.size) := fun W hb => by
    have h1 := (hb.block w.heap.size (by omega)).trans ((HB1.out.block _ (by omega)).trans HT0.out)
    exact ⟨h1, (HB0.out.trans (HB1.out.mono (by omega))).trans (hb.mono (by omega)), (Array.getElem?_eq_some_iff.1 h1).1⟩
  go_loopw [21] (fun v21 wr => ∃ (i : Nat) (gs : Nat → Nat), i ≤ m ∧ v21 = .int .i64 (i : Nat) ∧ Hid (TabAt (w.heap.size + 1) gt m gs i (fun _ _ => 0) wr) ∧ Hid (Below w1.heap.size w1 wr)) (fun v21 _ => m - (intOf v21).toNat)
  case atStart => exact ⟨0, fun _ => 0, Nat.zero_le _, rfl, HT2.out, HB2.out⟩
  case round =>
    clear HT2 HB2 hs2
    rename World => W1
    obtain ⟨i, gs, hin, rfl, htab, hbW⟩ := hrel
    have hsW := hbW.out.size
    by_cases hil : i < m
    · have hii : (i : Int) < (m : Int) := by omega
      go_wp2_with (first | (at_make; refine wpList_make_full _ rfl _ _ 37 rfl (w.heap.size + 1) 3 i0 (.int .i64 0) 1 Try.underlying37 hi hz0 hz1 .i64 .i64 _ _ m rfl rfl rfl rfl (by rw [hz2]; omega) (by unfold maxLen; omega) (by omega) ?_; intro w4 hrow4 hg4; refine Hid.out ?_))
      refine Lib.hid ?_
      obtain ⟨g, hg⟩ : ∃ g, W1.heap.size = g := ⟨_, rfl⟩
      rw [made_zero, hg] at hrow4
      rw [hg]
      have hmore := htab.out.more hg4 (by rw [mapI_zero m (fun _ => 0) (fun _ _ => rfl)]; exact hrow4) (by omega)
      have HMO : Hid (TabAt (w.heap.size + 1) gt m (fun j => if j = i then g else gs j) (i + 1) (fun _ _ => 0) (w4.setCell ⟨gt, i, none⟩ (.slice (some ⟨g, 0, none⟩) m m))) := hmore.1
      have ho4 := own_any htab.out.outer hg4
      have e0 := ho4.cellAt i (by omega)
      rw [outC0_get m gs i i hil, if_neg (by omega)] at e0
      have z0 := ho4.frozenAt i
      have hl4 := (ho4.lt gt rfl).2
      have HBN : Hid (Below w1.heap.size w1 (w4.setCell ⟨gt, i, none⟩ (.slice (some ⟨g, 0, none⟩) m m))) := (hbW.out.grown hg4 hsW (fun k hk => by cases hk)).grown hmore.2 (Nat.le_trans hsW hg4.size) (fun k hk => by have : gt = k := Option.some.inj hk; omega)
      clear hrow4 hg4 hmore ho4 hg
      go_wp2
      go_roundw
      case rel => exact ⟨i + 1, _, by omega, by go_num, HMO.out, HBN.out⟩
      case measure => simp only [intOf]; omega
    · obtain rfl : i = m := by omega
      obtain ⟨hbx, hbel, hlw⟩ := HBX.out W1 hbW.out
      have HTB : Hid (TabAt (w.heap.size + 1) gt i gs i (fun _ _ => 0) W1) := htab
      have HBB : Hid (Below w.heap.size w W1) := hbel
      have k0 : W1.cell? ⟨w.heap.size, 0, none⟩ = some (.slice a C.length cap) := block_cell hbx rfl
      have k1 : W1.cell? ⟨w.heap.size, 1, none⟩ = some (.int .i64 loops) := block_cell hbx rfl
      have k2 : W1.cell? ⟨w.heap.size, 2, none⟩ = some (.slice (some ⟨gF, 0, none⟩) (2 * C.length + 1) cF) := block_cell hbx rfl
      have k3 : W1.cell? ⟨w.heap.size, 3, none⟩ = some (.slice (some ⟨gT, 0, none⟩) (2 * C.length + 1) cT) := block_cell hbx rfl
      have HPC : Hid (∀ W, NatsRd W W.heap.size (.slice aw i cw) (walksM C) → Calls Try.prog 139 #[.agg #[.slice a C.length cap, .int .i64 loops, .slice (some ⟨gF, 0, none⟩) (2 * C.length + 1) cF, .slice (some ⟨gT, 0, none⟩) (2 * C.length + 1) cT], .slice aw i cw] W fun e w' => ∃ g, e = .returned (.slice (some ⟨g, 0, none⟩) (2 * C.length + 1) (2 * C.length + 1)) ∧ w'.ownsRow W.heap.size 3 1 (.slice (some ⟨g, 0, none⟩) (2 * C.length + 1) (2 * C.length + 1)) (2 * C.length + 1) (intsV (mapI (2 * C.length + 1) (paint (walksM C) (walksM C).length 0))) ∧ Below W.heap.size W w') := fun W hW => by
        have hW2 : NatsRd W W.heap.size (.slice aw (walksM C).length cw) (walksM C) := by rw [HMM.out]; exact hW
        have := partsOf_any (.slice a C.length cap) (.int .i64 loops) (.slice (some ⟨gF, 0, none⟩) (2 * C.length + 1) cF) gT cT C.length aw cw (walksM C) W s1 hW2 (by rw [HMM.out]; omega) (fun j hj => ?_) (fun y hy => ?_)
        · rw [HMM.out] at this ⊢
          exact this
        · obtain ⟨f1, f2⟩ := walksM_facts HM.out
          exact ⟨by have := (f2 j hj); omega, fun k hk => walks_le HM.out j hj k hk⟩
        · exact walks_count HM.out y hy
      clear hbx hbel htab
      go_wp2_with (go_at_call 139; refine (HPC.out _ (HRD.out.up hbW.out)).mono ?_; rintro e9 w5 ⟨gp, rfl, hrow5, hb5⟩; refine Hid.out ?_)
      refine Lib.hid ?_
      have HGS : Hid (∀ x, x < i → gs x < W1.heap.size ∧ w.heap.size + 1 ≤ gs x) := fun x hx => ⟨((HTB.out.rows x hx).lt (gs x) rfl).2, ((HTB.out.rows x hx).lt (gs x) rfl).1⟩
      have hgp := hrow5.lt gp rfl
      have hn5 := grown_below hb5 none
      have HI5 : Hid (TabAt (w.heap.size + 1) gt i gs i (fun x y => lkM C x y 0) w5 ∧ w5.ownsRow W1.heap.size 3 1 (.slice (some ⟨gp, 0, none⟩) (2 * C.length + 1) (2 * C.length + 1)) (2 * C.length + 1) (intsV (mapI (2 * C.length + 1) (paint (walksM C) (walksM C).length 0))) ∧ w5.heap[w.heap.size]? = some (.cells #[.slice a C.length cap, .int .i64 loops, .slice (some ⟨gF, 0, none⟩) (2 * C.length + 1) cF, .slice (some ⟨gT, 0, none⟩) (2 * C.length + 1) cT] 87 (0, 0)) ∧ Below w.heap.size w w5) := ⟨HTB.out.any hn5, hrow5, (hb5.block _ hlw).trans (HBX.out W1 hbW.out).1, HBB.out.trans (hb5.mono HBB.out.size)⟩
      clear hrow5 hb5 hn5 k0 k1 k2 k3 HPC
      have k0 : w5.cell? ⟨w.heap.size, 0, none⟩ = some (.slice a C.length cap) := block_cell HI5.out.2.2.1 rfl
      go_wp2
      go_loopw [38] (fun v38 wr => ∃ k : Nat, k ≤ C.length ∧ v38 = .int .i64 (k : Nat) ∧ Hid (TabAt (w.heap.size + 1) gt i gs i (fun x y => lkM C x y k) wr ∧ wr.ownsRow W1.heap.size 3 1 (.slice (some ⟨gp, 0, none⟩) (2 * C.length + 1) (2 * C.length + 1)) (2 * C.length + 1) (intsV (mapI (2 * C.length + 1) (paint (walksM C) (walksM C).length 0))) ∧ wr.heap[w.heap.size]? = some (.cells #[.slice a C.length cap, .int .i64 loops, .slice (some ⟨gF, 0, none⟩) (2 * C.length + 1) cF, .slice (some ⟨gT, 0, none⟩) (2 * C.length + 1) cT] 87 (0, 0)) ∧ Below w.heap.size w wr)) (fun v38 _ => C.length - (intOf v38).toNat)
      case atStart => exact ⟨0, Nat.zero_le _, rfl, HI5.out⟩
      case round =>
        clear HI5 k0
        rename World => W3
        obtain ⟨k, hkn, rfl, hinv⟩ := hrel
        by_cases hkl : k < C.length
        · as_aux_lemma =>
            obtain ⟨b, off, ea, hbw, hC⟩ := HD.out.cross (by omega)
            obtain rfl := ea
            obtain ⟨e0, e1, e2, e3, e4⟩ := (hC.on hinv.out.2.2.2 hbw) k hkl
            have hf0 := may_fit HM.out k 0 hkl (by omega)
            have hf1 := may_fit HM.out k 1 hkl (by omega)
            have HP0 : Hid (pA C k 0 = pt (walksM C) ((C.getD k Cr.none).arc 0).toNat) := (rfl : pA C k 0 = pt (walksM C) ((C.getD k Cr.none).arc 0).toNat)
            have HP1 : Hid (pA C k 1 = pt (walksM C) ((C.getD k Cr.none).arc 1).toNat) := (rfl : pA C k 1 = pt (walksM C) ((C.getD k Cr.none).arc 1).toNat)
            have HLK : Hid (∀ x y, lkM C x y (k + 1) = lkM C x y k + if (pA C k 0 = x ∧ pA C k 1 = y) ∨ (x ≠ y ∧ pA C k 0 = y ∧ pA C k 1 = x) then sgn (C.getD k Cr.none).plus else 0) := fun x y => rfl
            have HBD : Hid (∀ x y, -16 ≤ lkM C x y k ∧ lkM C x y k ≤ 16) := fun x y => by have := lkM_bound C x y k; omega
            obtain ⟨c, hc⟩ : ∃ c, C.getD k Cr.none = c := ⟨_, rfl⟩
            rw [hc] at e0 e1 e2 e3 e4 HP0 HP1 HLK
            have g0 : 1 ≤ c.a ∧ c.a ≤ 2 * (C.length : Int) := by have h1 := hf0.1; have h2 := hf0.2.1; rw [hc] at h1 h2; exact ⟨h1, h2⟩
            have g1 : 1 ≤ c.b ∧ c.b ≤ 2 * (C.length : Int) := by have h1 := hf1.1; have h2 := hf1.2.1; rw [hc] at h1 h2; exact ⟨h1, h2⟩
            obtain ⟨ca, cb, cc, cd, cp⟩ := c
            simp only at e0 e1 e2 e3 e4 g0 g1
            obtain ⟨A, rfl⟩ : ∃ A : Nat, ca = (A : Int) := ⟨ca.toNat, by omega⟩
            obtain ⟨Bn, rfl⟩ : ∃ Bn : Nat, cb = (Bn : Int) := ⟨cb.toNat, by omega⟩
            have HP0' : Hid (pA C k 0 = pt (walksM C) A) := (by rw [HP0.out]; rfl : pA C k 0 = pt (walksM C) A)
            have HP1' : Hid (pA C k 1 = pt (walksM C) Bn) := (by rw [HP1.out]; rfl : pA C k 1 = pt (walksM C) Bn)
            have HON : Hid (∀ y : Nat, 1 ≤ y → y ≤ 2 * C.length → (walksM C).flatten.count y = 1) := fun y h1 h2 => walks_once _ _ _ h1 h2
            have HPA : Hid (∀ y : Nat, 1 ≤ y → y ≤ 2 * C.length → W3.cell? ⟨gp, y, none⟩ = some (.int .i64 (pt (walksM C) y : Nat)) ∧ pt (walksM C) y < i) := fun y h1 h2 => by
              refine ⟨?_, by rw [← HMM.out]; exact pt_lt (HON.out y h1 h2)⟩
              rw [hinv.out.2.1.cellAt y (by omega), intsV_get _ y (by rw [mapI_len]; omega), mapI_at _ _ _ (by omega)]
              unfold paint
              rw [upN_all, if_pos (List.one_le_count_iff.1 (Nat.le_of_eq (HON.out y h1 h2).symm))]
            obtain ⟨q0, hp0⟩ := HPA.out A (by omega) (by omega)
            obtain ⟨q1, hp1⟩ := HPA.out Bn (by omega) (by omega)
            rw [← HP0'.out] at q0 hp0
            rw [← HP1'.out] at q1 hp1
            obtain ⟨p0, hp0'⟩ : ∃ p0, pA C k 0 = p0 := ⟨_, rfl⟩
            obtain ⟨p1, hp1'⟩ : ∃ p1, pA C k 1 = p1 := ⟨_, rfl⟩
            rw [hp0'] at q0 hp0 HLK
            rw [hp1'] at q1 hp1 HLK
            obtain ⟨sg', hsg⟩ : ∃ sg', sgn cp = sg' := ⟨_, rfl⟩
            have HSG : Hid (sgn cp = sg') := hsg
            have hsb : sg' = 1 ∨ sg' = -1 := by rw [← hsg]; exact sgn_bound cp
            have hsb2 : -1 ≤ sg' ∧ sg' ≤ 1 := by omega
            have HLK2 : Hid (∀ x y, lkM C x y (k + 1) = lkM C x y k + if (p0 = x ∧ p1 = y) ∨ (x ≠ y ∧ p0 = y ∧ p1 = x) then sg' else 0) := fun x y => by rw [← hsg]; exact HLK.out x y
            have hsW3 := hinv.out.2.2.2.size
            have hbW3 : b < W3.heap.size := by omega
            have hgp3 := (hinv.out.2.1.lt gp rfl).2
            have hki : (k : Int) < (C.length : Int) := by omega
            have E0 : Hid (_ = _) := e0
            have E1 : Hid (_ = _) := e1
            have E2 : Hid (_ = _) := e2
            have E3 : Hid (_ = _) := e3
            have E4 : Hid (_ = _) := e4
            clear HP0 HP1 HLK hc hf0 hf1 hC HP0' HP1' HPA HON hp0' hp1' hsg hsb
            obtain ⟨W4, hW4⟩ : ∃ W4, W4 = W3.alloc (.cells #[.int .i64 (A : Nat), .int .i64 (Bn : Nat), .int .i64 cc, .int .i64 cd, .bool cp] 64) := ⟨_, rfl⟩
            have HW4 : Hid (W4 = W3.alloc (.cells #[.int .i64 (A : Nat), .int .i64 (Bn : Nat), .int .i64 cc, .int .i64 cd, .bool cp] 64)) := hW4
            have hs4 : W4.heap.size = W3.heap.size + 1 := by rw [hW4]; simp
            have HB34 : Hid (Below W3.heap.size W3 W4) := (by rw [hW4]; exact (Below.refl _ _).alloc (Nat.le_refl _) _ : Below W3.heap.size W3 W4)
            have HBOX : Hid (W4.heap[W3.heap.size]? = some (.cells #[.int .i64 (A : Nat), .int .i64 (Bn : Nat), .int .i64 cc, .int .i64 cd, .bool cp] 64 (0, 0))) := (by rw [hW4]; exact alloc_at rfl : W4.heap[W3.heap.size]? = some (.cells #[.int .i64 (A : Nat), .int .i64 (Bn : Nat), .int .i64 cc, .int .i64 cd, .bool cp] 64 (0, 0)))
            have HF12 : Hid (∀ w', Below W4.heap.size W4 w' → w'.cell? ⟨W3.heap.size, 0, none⟩ = some (.int .i64 (A : Nat)) ∧ w'.cell? ⟨W3.heap.size, 1, none⟩ = some (.int .i64 (Bn : Nat)) ∧ w'.cell? ⟨gp, A, none⟩ = some (.int .i64 (p0 : Nat)) ∧ w'.cell? ⟨gp, Bn, none⟩ = some (.int .i64 (p1 : Nat))) := fun w' hb => by
              have gb := (hb.block _ (by omega)).trans HBOX.out
              have hb3 := HB34.out.trans (hb.mono (by omega))
              exact ⟨block_cell gb rfl, block_cell gb rfl, bcell hb3 hgp3 q0, bcell hb3 hgp3 q1⟩
            have HD4 : Hid (Below W4.heap.size W4 W4.drew) := (Below.refl _ _).drew
            obtain ⟨n0, n1, n2, n3⟩ := HF12.out W4 (Below.refl _ _)
            have hAi : (A : Int) < 2 * (C.length : Int) + 1 := by omega
            have hBi : (Bn : Int) < 2 * (C.length : Int) + 1 := by omega
            have hgp4 : gp < W4.heap.size := by omega
            clear hW4 q0 q1 e0 e1 e2 e3 e4
            have e0 : W3.cell? ⟨b, off + k * 5, none⟩ = some (.int .i64 (A : Nat)) := E0.out
            have e1 : W3.cell? ⟨b, off + k * 5 + 1, none⟩ = some (.int .i64 (Bn : Nat)) := E1.out
            have e2 : W3.cell? ⟨b, off + k * 5 + 2, none⟩ = some (.int .i64 cc) := E2.out
            have e3 : W3.cell? ⟨b, off + k * 5 + 3, none⟩ = some (.int .i64 cd) := E3.out
            have e4 : W3.cell? ⟨b, off + k * 5 + 4, none⟩ = some (.bool cp) := E4.out
            go_wp2
            rw [← HW4.out]
            clear e0 e1 e2 e3 e4
            go_region_held3 (fun w' => w'.cell? ⟨W3.heap.size, 0, none⟩ = some (.int .i64 (A : Nat)) ∧ w'.cell? ⟨W3.heap.size, 1, none⟩ = some (.int .i64 (Bn : Nat)) ∧ w'.cell? ⟨gp, A, none⟩ = some (.int .i64 (p0 : Nat)) ∧ w'.cell? ⟨gp, Bn, none⟩ = some (.int .i64 (p1 : Nat))) (first | exact HF12.out _ HD4.out | exact HF12.out _ (Below.refl _ _)) (fail)
            obtain ⟨W5, hW5⟩ : ∃ W5, W5 = W4.drew := ⟨_, rfl⟩
            rw [← hW5]
            have hs5 : W5.heap.size = W3.heap.size + 1 := by rw [hW5]; exact hs4
            have HB45 : Hid (Below W4.heap.size W4 W5) := (by rw [hW5]; exact HD4.out : Below W4.heap.size W4 W5)
            have HB35 : Hid (Below W3.heap.size W3 W5) := HB34.out.trans (HB45.out.mono (by omega))
            have HT5 : Hid (TabAt (w.heap.size + 1) gt i gs i (fun x y => lkM C x y k) W5) := hinv.out.1.any (grown_below HB35.out none)
            have HX5 : Hid (∀ w', Below W5.heap.size W5 w' → w'.heap[W3.heap.size]? = some (.cells #[.int .i64 (A : Nat), .int .i64 (Bn : Nat), .int .i64 cc, .int .i64 cd, .bool cp] 64 (0, 0))) := fun w' hb => (hb.block _ (by omega)).trans ((HB45.out.block _ (by omega)).trans HBOX.out)
            have t0 := HT5.out.cellO p0 hp0 hp0
            have t1 := HT5.out.cellR p0 p1 hp0 hp1
            have t2 := (HT5.out.rows p0 hp0).frozenAt p1
            have hx5 := HX5.out W5 (Below.refl _ _)
            have x0 : W5.cell? ⟨W3.heap.size, 0, none⟩ = some (.int .i64 (A : Nat)) := block_cell hx5 rfl
            have x1 : W5.cell? ⟨W3.heap.size, 1, none⟩ = some (.int .i64 (Bn : Nat)) := block_cell hx5 rfl
            have x2 : W5.cell? ⟨W3.heap.size, 2, none⟩ = some (.int .i64 cc) := block_cell hx5 rfl
            have x3 : W5.cell? ⟨W3.heap.size, 3, none⟩ = some (.int .i64 cd) := block_cell hx5 rfl
            have x4 : W5.cell? ⟨W3.heap.size, 4, none⟩ = some (.bool cp) := block_cell hx5 rfl
            have lg0 := ((HT5.out.rows p0 hp0).lt (gs p0) rfl).2
            have lgt := (HT5.out.outer.lt gt rfl).2
            have hz := HBD.out p0 p1
            obtain ⟨z, hzz⟩ : ∃ z, lkM C p0 p1 k = z := ⟨_, rfl⟩
            have HZ : Hid (lkM C p0 p1 k = z) := hzz
            have t1' : W5.cell? ⟨gs p0, p1, none⟩ = some (.int .i64 z) := by rw [← hzz]; exact t1
            rw [hzz] at hz
            have ew : IntKind.i64.wrap (z + sg') = z + sg' := IntWalk.i64_in _ (by omega)
            have hp0i : (p0 : Int) < (i : Int) := by omega
            have hp1i : (p1 : Int) < (i : Int) := by omega
            clear t1 hx5 hzz hW5 n0 n1 n2 n3
            have HD5 : Hid (Below W5.heap.size W5 W5.drew) := (Below.refl _ _).drew
            have HK5 : Hid (∀ w', Below W5.heap.size W5 w' → w'.cell? ⟨gt, p0, none⟩ = some (.slice (some ⟨gs p0, 0, none⟩) i i) ∧ w'.cell? ⟨gs p0, p1, none⟩ = some (.int .i64 z) ∧ w'.frozen? ⟨gs p0, p1, none⟩ = false ∧ w'.cell? ⟨W3.heap.size, 0, none⟩ = some (.int .i64 (A : Nat)) ∧ w'.cell? ⟨W3.heap.size, 1, none⟩ = some (.int .i64 (Bn : Nat)) ∧ w'.cell? ⟨W3.heap.size, 2, none⟩ = some (.int .i64 cc) ∧ w'.cell? ⟨W3.heap.size, 3, none⟩ = some (.int .i64 cd) ∧ w'.cell? ⟨W3.heap.size, 4, none⟩ = some (.bool cp) ∧ gs p0 < w'.heap.size ∧ gt < w'.heap.size) := fun w' hb => by
              have hT := HT5.out.any (grown_below hb none)
              have gb := HX5.out w' hb
              have r1 := hT.cellR p0 p1 hp0 hp1
              rw [HZ.out] at r1
              exact ⟨hT.cellO p0 hp0 hp0, r1, (hT.rows p0 hp0).frozenAt p1, block_cell gb rfl, block_cell gb rfl, block_cell gb rfl, block_cell gb rfl, block_cell gb rfl, ((hT.rows p0 hp0).lt (gs p0) rfl).2, (hT.outer.lt gt rfl).2⟩
            go_wp2
            apply cut_alike
            case h =>
              intro key
              go_region_with (go_at_call 107; refine (signW_any ⟨(A : Int), (Bn : Int), cc, cd, cp⟩ _).mono ?_; rw [HSG.out]; rintro e9 w6 ⟨rfl, hb6⟩; have HB6 : Hid (Below W5.heap.size W5 w6) := HD5.out.trans (hb6.mono HD5.out.size); obtain ⟨y0, y1, y2, y3, y4, y5, y6, y7, y8, y9⟩ := HK5.out w6 HB6.out; clear hb6)
              all_goals (clear y0 y1 y2 y3 y4 y5 y6 y7 y8 y9; revert HB6; revert w6; exact key.out)
            intro w6 HB6
            have HT6 : Hid (TabAt (w.heap.size + 1) gt i gs i (fun x y => lkM C x y k) w6) := HT5.out.any (grown_below HB6.out none)
            have hset := HT6.out.set (T' := fun x y => if x = p0 ∧ y = p1 then z + sg' else lkM C x y k) p0 p1 (z + sg') hp0 (fun _ _ _ _ => rfl)
            obtain ⟨W7, hW7⟩ : ∃ W7, W7 = w6.setCell ⟨gs p0, p1, none⟩ (.int .i64 (z + sg')) := ⟨_, rfl⟩
            rw [← hW7] at hset ⊢
            have HT7 : Hid (TabAt (w.heap.size + 1) gt i gs i (fun x y => if x = p0 ∧ y = p1 then z + sg' else lkM C x y k) W7) := hset.1
            have HG7 : Hid (w6.grownBy W7 (some (gs p0))) := hset.2
            have hgs0 := HGS.out p0 hp0
            have hs6 := HB6.out.size
            have hs7 := hset.2.size
            have HX7 : Hid (∀ w', Below W7.heap.size W7 w' → w'.heap[W3.heap.size]? = some (.cells #[.int .i64 (A : Nat), .int .i64 (Bn : Nat), .int .i64 cc, .int .i64 cd, .bool cp] 64 (0, 0))) := fun w' hb => (hb.block _ (by omega)).trans ((HG7.out.block _ (by omega) (fun e => by have : W3.heap.size = gs p0 := Option.some.inj e; omega)).trans (HX5.out w6 HB6.out))
            have HB56 : Hid (Below W3.heap.size W3 w6) := HB35.out.trans (HB6.out.mono (by omega))
            have HP7 : Hid (W7.ownsRow W1.heap.size 3 1 (.slice (some ⟨gp, 0, none⟩) (2 * C.length + 1) (2 * C.length + 1)) (2 * C.length + 1) (intsV (mapI (2 * C.length + 1) (paint (walksM C) (walksM C).length 0)))) := (own_any hinv.out.2.1 (grown_below HB56.out none)).kept HG7.out (Or.inr (fun e => by have : gp = gs p0 := Option.some.inj e; omega))
            have HQ7 : Hid (W7.heap[w.heap.size]? = some (.cells #[.slice (some ⟨b, off, none⟩) C.length cap, .int .i64 loops, .slice (some ⟨gF, 0, none⟩) (2 * C.length + 1) cF, .slice (some ⟨gT, 0, none⟩) (2 * C.length + 1) cT] 87 (0, 0))) := (HG7.out.block _ (by omega) (fun e => by have : w.heap.size = gs p0 := Option.some.inj e; omega)).trans ((HB56.out.block _ (by omega)).trans hinv.out.2.2.1)
            have HW7 : Hid (Below w.heap.size w W7) := (hinv.out.2.2.2.trans (HB56.out.mono hsW3)).grown HG7.out (by omega) (fun q hq => by have : gs p0 = q := Option.some.inj hq; omega)
            clear hset hW7 t0 t2 x0 x1 x2 x3 x4 t1'
            by_cases hpp : p0 = p1
            · subst hpp
              have HFI : Hid (∀ x y, (if x = p0 ∧ y = p0 then z + sg' else lkM C x y k) = lkM C x y (k + 1)) := fun x y => by
                rw [HLK2.out x y]
                by_cases h1 : p0 = x
                · subst h1
                  by_cases h2 : p0 = y
                  · subst h2
                    rw [if_pos ⟨rfl, rfl⟩, if_pos (Or.inl ⟨rfl, rfl⟩), HZ.out]
                  · rw [if_neg (fun h => h2 h.2.symm), if_neg (fun h => by rcases h with h | h; exact h2 h.2; exact h2 h.2.1), Int.add_zero]
                · rw [if_neg (fun h => h1 h.1.symm), if_neg (fun h => by rcases h with h | h; exact h1 h.1; exact h1 h.2.2), Int.add_zero]
              have HTN : Hid (TabAt (w.heap.size + 1) gt i gs i (fun x y => lkM C x y (k + 1)) W7) := (by
                have h := HT7.out
                rw [show (fun x y => lkM C x y (k + 1)) = (fun x y => if x = p0 ∧ y = p0 then z + sg' else lkM C x y k) from (by funext x y; exact (HFI.out x y).symm)]
                exact h : TabAt (w.heap.size + 1) gt i gs i (fun x y => lkM C x y (k + 1)) W7)
              have hpe : ((p0 : Int) == (p0 : Int)) = true := beq_self_eq_true _
              go_wp2
              go_roundw
              case rel => exact ⟨k + 1, by omega, by go_num, HTN.out, HP7.out, HQ7.out, HW7.out⟩
              case measure => simp only [intOf]; omega
            · as_aux_lemma =>
                have hpe : ((p0 : Int) == (p1 : Int)) = false := beq_eq_false_iff_ne.2 (by omega)
                have hpe2 : (p0 == p1) = false := beq_eq_false_iff_ne.2 hpp
                have hz2b := HBD.out p1 p0
                obtain ⟨z2, hzz2⟩ : ∃ z2, lkM C p1 p0 k = z2 := ⟨_, rfl⟩
                have HZ2 : Hid (lkM C p1 p0 k = z2) := hzz2
                rw [hzz2] at hz2b
                have ew2 : IntKind.i64.wrap (z2 + sg') = z2 + sg' := IntWalk.i64_in _ (by omega)
                clear hzz2
                have HD7 : Hid (Below W7.heap.size W7 W7.drew) := (Below.refl _ _).drew
                have HK7 : Hid (∀ w', Below W7.heap.size W7 w' → w'.cell? ⟨gt, p1, none⟩ = some (.slice (some ⟨gs p1, 0, none⟩) i i) ∧ w'.cell? ⟨gs p1, p0, none⟩ = some (.int .i64 z2) ∧ w'.frozen? ⟨gs p1, p0, none⟩ = false ∧ w'.cell? ⟨W3.heap.size, 0, none⟩ = some (.int .i64 (A : Nat)) ∧ w'.cell? ⟨W3.heap.size, 1, none⟩ = some (.int .i64 (Bn : Nat)) ∧ w'.cell? ⟨W3.heap.size, 2, none⟩ = some (.int .i64 cc) ∧ w'.cell? ⟨W3.heap.size, 3, none⟩ = some (.int .i64 cd) ∧ w'.cell? ⟨W3.heap.size, 4, none⟩ = some (.bool cp) ∧ gs p1 < w'.heap.size ∧ gt < w'.heap.size ∧ W3.heap.size < w'.heap.size) := fun w' hb => by
                  have hT := HT7.out.any (grown_below hb none)
                  have gb := HX7.out w' hb
                  have r1 := hT.cellR p1 p0 hp1 hp0
                  rw [if_neg (fun h => hpp h.1.symm), HZ2.out] at r1
                  exact ⟨hT.cellO p1 hp1 hp1, r1, (hT.rows p1 hp1).frozenAt p0, block_cell gb rfl, block_cell gb rfl, block_cell gb rfl, block_cell gb rfl, block_cell gb rfl, ((hT.rows p1 hp1).lt (gs p1) rfl).2, (hT.outer.lt gt rfl).2, (Array.getElem?_eq_some_iff.1 gb).1⟩
                obtain ⟨t0, t1, t2, x0, x1, x2, x3, x4, lh0, lh1, lh2⟩ := HK7.out W7 (Below.refl _ _)
                go_wp2
                apply cut_alike
                case h =>
                  intro key
                  go_region_with (go_at_call 107; refine (signW_any ⟨(A : Int), (Bn : Int), cc, cd, cp⟩ _).mono ?_; rw [HSG.out]; rintro e9 w8 ⟨rfl, hb8⟩; have HB8 : Hid (Below W7.heap.size W7 w8) := HD7.out.trans (hb8.mono HD7.out.size); obtain ⟨y0, y1, y2, y3, y4, y5, y6, y7, y8, y9, y10⟩ := HK7.out w8 HB8.out; clear hb8)
                  all_goals (clear y0 y1 y2 y3 y4 y5 y6 y7 y8 y9 y10; revert HB8; revert w8; exact key.out)
                intro w8 HB8
                clear t0 t1 t2 x0 x1 x2 x3 x4
                have HFI : Hid (∀ x y, lkM C x y (k + 1) = if x = p1 ∧ y = p0 then z2 + sg' else if x = p0 ∧ y = p1 then z + sg' else lkM C x y k) := fun x y => by
                  rw [HLK2.out x y]
                  by_cases h1 : x = p1 ∧ y = p0
                  · obtain ⟨rfl, rfl⟩ := h1
                    rw [if_pos (Or.inr ⟨fun e => hpp e.symm, rfl, rfl⟩), if_pos ⟨rfl, rfl⟩, HZ2.out]
                  · rw [if_neg h1]
                    by_cases h2 : x = p0 ∧ y = p1
                    · obtain ⟨rfl, rfl⟩ := h2
                      rw [if_pos (Or.inl ⟨rfl, rfl⟩), if_pos ⟨rfl, rfl⟩, HZ.out]
                    · rw [if_neg h2, if_neg (fun h => by rcases h with h | h; exact h2 ⟨h.1.symm, h.2.symm⟩; exact h1 ⟨h.2.2.symm, h.2.1.symm⟩), Int.add_zero]
                have hset := (HT7.out.any (grown_below HB8.out none)).set (T' := fun x y => lkM C x y (k + 1)) p1 p0 (z2 + sg') hp1 (fun x y _ _ => HFI.out x y)
                have hgs1 := HGS.out p1 hp1
                have hs8 := HB8.out.size
                have hsz := hset.2.size
                have HB78 : Hid (Below w.heap.size w w8) := HW7.out.trans (HB8.out.mono HW7.out.size)
                have HTN : Hid (TabAt (w.heap.size + 1) gt i gs i (fun x y => lkM C x y (k + 1)) (w8.setCell ⟨gs p1, p0, none⟩ (.int .i64 (z2 + sg')))) := hset.1
                have HPN : Hid ((w8.setCell ⟨gs p1, p0, none⟩ (.int .i64 (z2 + sg'))).ownsRow W1.heap.size 3 1 (.slice (some ⟨gp, 0, none⟩) (2 * C.length + 1) (2 * C.length + 1)) (2 * C.length + 1) (intsV (mapI (2 * C.length + 1) (paint (walksM C) (walksM C).length 0)))) := (own_any HP7.out (grown_below HB8.out none)).kept hset.2 (Or.inr (fun e => by have : gp = gs p1 := Option.some.inj e; omega))
                have HQN : Hid ((w8.setCell ⟨gs p1, p0, none⟩ (.int .i64 (z2 + sg'))).heap[w.heap.size]? = some (.cells #[.slice (some ⟨b, off, none⟩) C.length cap, .int .i64 loops, .slice (some ⟨gF, 0, none⟩) (2 * C.length + 1) cF, .slice (some ⟨gT, 0, none⟩) (2 * C.length + 1) cT] 87 (0, 0))) := (hset.2.block _ (by omega) (fun e => by have : w.heap.size = gs p1 := Option.some.inj e; omega)).trans ((HB8.out.block _ (by omega)).trans HQ7.out)
                have HWN : Hid (Below w.heap.size w (w8.setCell ⟨gs p1, p0, none⟩ (.int .i64 (z2 + sg')))) := HB78.out.grown hset.2 HB78.out.size (fun q hq => by have : gs p1 = q := Option.some.inj hq; omega)
                clear hset
                go_wp2
                go_roundw
                case rel => exact ⟨k + 1, by omega, by go_num, HTN.out, HPN.out, HQN.out, HWN.out⟩
                case measure => simp only [intOf]; omega
        · as_aux_lemma =>
            obtain rfl : k = C.length := by omega
            have HT3 : Hid (TabAt (w.heap.size + 1) gt i gs i (fun x y => lkM C x y C.length) W3) := hinv.out.1
            have HW3 : Hid (Below w.heap.size w W3) := hinv.out.2.2.2
            have HBD : Hid (∀ x y, -16 ≤ lkM C x y C.length ∧ lkM C x y C.length ≤ 16) := fun x y => by have := lkM_bound C x y C.length; omega
            clear hinv
            go_wp2
            have HT0' : Hid (TabAt (w.heap.size + 1) gt i gs i (hT C 0 0) W3) := HT3.out.congr (fun x y _ _ => by unfold hT; rw [if_neg (by omega)])
            go_loopw [80] (fun v80 wr => ∃ r : Nat, r ≤ i ∧ v80 = .int .i64 (r : Nat) ∧ Hid (TabAt (w.heap.size + 1) gt i gs i (hT C r 0) wr ∧ Below w.heap.size w wr)) (fun v80 _ => i - (intOf v80).toNat)
            case atStart => exact ⟨0, Nat.zero_le _, rfl, HT0'.out, HW3.out⟩
            case round =>
              clear HT0' HT3
              rename World => W4
              obtain ⟨r, hrn, rfl, htb⟩ := hrel
              by_cases hri : r < i
              · have c0 := htb.out.1.cellO r hri hri
                have lgt := (htb.out.1.outer.lt gt rfl).2
                have hrI : (r : Int) < (i : Int) := by omega
                have HTR : Hid (TabAt (w.heap.size + 1) gt i gs i (hT C r 0) W4 ∧ Below w.heap.size w W4) := htb
                clear htb
                go_wp2
                go_loopw [87] (fun v87 ws => ∃ c : Nat, c ≤ i ∧ v87 = .int .i64 (c : Nat) ∧ Hid (TabAt (w.heap.size + 1) gt i gs i (hT C r c) ws ∧ Below w.heap.size w ws)) (fun v87 _ => i - (intOf v87).toNat)
                case atStart => exact ⟨0, Nat.zero_le _, rfl, HTR.out⟩
                case round =>
                  clear HTR c0 lgt
                  rename World => W5
                  obtain ⟨c, hcn, rfl, htb⟩ := hrel
                  by_cases hci : c < i
                  · have hcI : (c : Int) < (i : Int) := by omega
                    by_cases hrc : r = c
                    · subst hrc
                      have HTN : Hid (TabAt (w.heap.size + 1) gt i gs i (hT C r (r + 1)) W5) := htb.out.1.congr (fun x y _ _ => by
                        rw [hT_put]
                        by_cases h : x = r ∧ y = r
                        · obtain ⟨rfl, rfl⟩ := h
                          rw [if_pos ⟨rfl, rfl⟩, hT_at]
                          unfold hf
                          rw [if_pos rfl]
                        · rw [if_neg h])
                      have hpe : ((r : Int) == (r : Int)) = true := beq_self_eq_true _
                      go_wp2
                      go_roundw
                      case rel => exact ⟨r + 1, by omega, by go_num, HTN.out, htb.out.2⟩
                      case measure => simp only [intOf]; omega
                    · have hpe : ((r : Int) == (c : Int)) = false := beq_eq_false_iff_ne.2 (by omega)
                      have hpe2 : (r == c) = false := beq_eq_false_iff_ne.2 hrc
                      have e0 := htb.out.1.cellR r c hri hci
                      rw [hT_at] at e0
                      have z0 := (htb.out.1.rows r hri).frozenAt c
                      have lg := (htb.out.1.rows r hri).lt (gs r) rfl
                      have hb := HBD.out r c
                      have hset := htb.out.1.set (T' := hT C r (c + 1)) r c ((lkM C r c C.length).tdiv 2) hri (fun x y _ _ => by
                        rw [hT_put]
                        by_cases h : x = r ∧ y = c
                        · rw [if_pos h, if_pos h]; unfold hf; rw [if_neg hrc]
                        · rw [if_neg h, if_neg h])
                      obtain ⟨z, hz⟩ : ∃ z, lkM C r c C.length = z := ⟨_, rfl⟩
                      rw [hz] at e0 hb hset
                      have ew : IntKind.i64.wrap (z.tdiv 2) = z.tdiv 2 := IntWalk.i64_in _ (tdiv_le16 z hb)
                      have HTN : Hid (TabAt (w.heap.size + 1) gt i gs i (hT C r (c + 1)) (W5.setCell ⟨gs r, c, none⟩ (.int .i64 (z.tdiv 2)))) := hset.1
                      have HBN : Hid (Below w.heap.size w (W5.setCell ⟨gs r, c, none⟩ (.int .i64 (z.tdiv 2)))) := htb.out.2.grown hset.2 htb.out.2.size (fun q hq => by have : gs r = q := Option.some.inj hq; omega)
                      have lg2 := lg.2
                      clear hset hz lg
                      go_wp2
                      go_roundw
                      case rel => exact ⟨c + 1, by omega, by go_num, HTN.out, HBN.out⟩
                      case measure => simp only [intOf]; omega
                  · obtain rfl : c = i := by omega
                    go_wp2
                    go_roundw
                    case rel => exact ⟨r + 1, by omega, by go_num, htb.out.1.congr (fun x y _ hy => hT_row C r c x y hy), htb.out.2⟩
                    case measure => simp only [intOf]; omega
              · obtain rfl : r = i := by omega
                go_wp2
                go_ret
                exact ⟨gt, gs, rfl, (htb.out.1.congr (fun x y hx _ => by unfold hT; rw [if_pos (Or.inl hx)])).low (by omega), htb.out.2⟩
end Go.Proofs.Ytmggackacaobjaa
