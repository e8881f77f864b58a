/- The walk of ref.LinkingOf. -/
import Derived.Test.YtmggackacaobjaaX3
import Derived.Test.YtmggackacaobjaaW4
import Derived.Test.YtmggackacaobjaaX5
import Derived.Deep.QuietTactic
import Derived.BigQuiet
import Derived.Sort.AtCall
namespace Go.Proofs.Ytmggackacaobjaa
open Go.RowKit

/-- The table of linking, as rows. -/
def lkL (C : List Cr) : List (List Int) := (List.range (walksM C).length).map fun i => mapI (walksM C).length fun j => hf i j (lkM C i j C.length)
/-- Lists of numbers that a call itself owns. -/
def IntsOwn (w : World) (B : Nat) (v : Value) (L : List (List Int)) : Prop :=
  ∃ ys : List Value, ys.length = L.length ∧ w.ownsRow B 37 1 v ys.length ys ∧ ∀ j, j < L.length → w.ownsRow B 3 1 (ys.getD j (.bool false)) (L.getD j []).length (intsV (L.getD j []))
/-- Does the number stand in the list? -/
def wi (l : List Nat) (z : Int) : Bool := l.any fun y => decide ((y : Int) = z)
theorem wi_yes {l : List Nat} {z : Int} {i : Nat} (hi : i < l.length) (h : ((l.getD i 0 : Nat) : Int) = z) : wi l z = true := by
  simp only [wi, List.any_eq_true, decide_eq_true_eq]
  refine ⟨l.getD i 0, ?_, h⟩
  rw [List.getD_eq_getElem?_getD, List.getElem?_eq_getElem hi]
  exact List.getElem_mem hi
theorem wi_no {l : List Nat} {z : Int} (h : ∀ i, i < l.length → ((l.getD i 0 : Nat) : Int) ≠ z) : wi l z = false := by
  cases hw : wi l z with
  | false => rfl
  | true =>
    simp only [wi, List.any_eq_true, decide_eq_true_eq] at hw
    obtain ⟨y, hy, rfl⟩ := hw
    obtain ⟨i, hi, rfl⟩ := List.getElem_of_mem hy
    have := h i hi
    rw [List.getD_eq_getElem?_getD, List.getElem?_eq_getElem hi] at this
    exact absurd rfl this
theorem wi_pt {C : List Cr} (A i : Nat) (h1 : 1 ≤ A) (h2 : A ≤ 2 * C.length) (hi : i < (walksM C).length) : wi ((walksM C).getD i []) (A : Int) = decide (pt (walksM C) A = i) := by
  have hc : (walksM C).flatten.count A = 1 := walks_once _ _ _ h1 h2
  have := pt_mem hc hi
  rw [Bool.eq_iff_iff, decide_eq_true_eq, ← this]
  simp only [wi, List.any_eq_true, decide_eq_true_eq]
  constructor
  · rintro ⟨y, hy, e⟩
    obtain rfl : y = A := by omega
    exact hy
  · intro h
    exact ⟨A, h, rfl⟩
set_option maxHeartbeats 2000000 in
set_option maxRecDepth 100000 in
theorem within_q (v : Value) (l : List Nat) (z : Int) (w : World) (hl : l.length ≤ 100) (h1 : Slots w w.heap.size v (nats l)) :
    Calls Try.prog 87 #[v, .int .i64 z] w fun e w' => e = .returned (.bool (wi l z)) ∧ w' = w := by
  obtain ⟨a1, c1, rfl, g1⟩ := h1
  rw [nats_len] at g1 ⊢
  have HG1 : Hid (0 < l.length → ∃ b off, a1 = some ⟨b, off, none⟩ ∧ b < w.heap.size ∧ ∀ i, i < l.length → w.cell? ⟨b, off + i, none⟩ = some ((nats l).getD i (.bool false))) := g1
  have HV : Hid (∀ i, i < l.length → (nats l).getD i (.bool false) = .int .i64 (l.getD i 0 : Nat)) := fun i hi => by rw [List.getD_eq_getElem?_getD, nats_get l i hi]; rfl
  clear g1
  go_enter Try.func87, Try.ntmps87
  go_wp2
  go_loopw [5] (fun v5 wr => ∃ k : Nat, k ≤ l.length ∧ v5 = .int .i64 k ∧ Hid (∀ j, j < k → ((l.getD j 0 : Nat) : Int) ≠ z) ∧ wr = w) (fun v5 _ => l.length - (intOf v5).toNat)
  case atStart => exact ⟨0, Nat.zero_le _, rfl, fun j hj => absurd hj (Nat.not_lt_zero _), rfl⟩
  case round =>
    obtain ⟨k, hk, rfl, hno, rfl⟩ := hrel
    rename World => wr
    by_cases hlt : k < l.length
    · obtain ⟨b1, o1, rfl, hb1, q1⟩ := HG1.out (by omega)
      have p1 := q1 k hlt
      rw [HV.out k hlt] at p1
      obtain ⟨y, hy⟩ : ∃ y, l.getD k 0 = y := ⟨_, rfl⟩
      rw [hy] at p1
      have HY : Hid (l.getD k 0 = y) := hy
      have hbw : b1 < wr.heap.size := by omega
      clear q1 hy
      by_cases hz : (y : Int) = z
      · have hd : ((y : Int) == z) = true := by simpa using hz
        have HW : Hid (wi l z = true) := wi_yes hlt (by rw [HY.out]; exact hz)
        go_wp2
        go_ret
        exact ⟨ret_bool HW.out, rfl⟩
      · have hd : ((y : Int) == z) = false := by rw [beq_eq_false_iff_ne]; exact hz
        go_wp2
        go_roundw
        case rel =>
          refine ⟨k + 1, by omega, by go_num, fun j hj => ?_, by first | rfl | trivial⟩
          by_cases e : j = k
          · rw [e, HY.out]; exact hz
          · exact hno.out j (by omega)
        case measure => simp [intOf]; omega
    · obtain rfl : k = l.length := by omega
      have HW : Hid (wi l z = false) := wi_no (fun j hj => hno.out j hj)
      go_wp2
      go_ret
      exact ⟨ret_bool HW.out, rfl⟩
theorem quiet_is {P : Program} {f : Nat} {args : Array Value} {W : World} {x : Nat} {v : Value} (h : Calls P f args (W.drewN x) fun e w' => e = .returned v ∧ w' = W.drewN x) : Calls P f args (W.drewN x) fun e w' => e = .returned v ∧ ∃ n, w' = W.drewN n :=
  h.mono fun _ _ ⟨h1, h2⟩ => ⟨h1, x, h2⟩
/-- Where LinkingOf stands behind the first i rows. -/
structure LkAt (B : Nat) (C : List Cr) (i : Nat) (v : Value) (zs : List Value) (wr : World) : Prop where
  len : zs.length = i
  rows : wr.ownsRow B 37 1 v i zs
  each : ∀ j, j < i → wr.ownsRow B 3 1 (zs.getD j (.bool false)) (walksM C).length (intsV (mapI (walksM C).length fun y => hf j y (lkM C j y C.length)))

theorem LkAt.any {B : Nat} {C : List Cr} {i : Nat} {v : Value} {zs : List Value} {wr ws : World} (h : LkAt B C i v zs wr) (hb : wr.grownBy ws none) : LkAt B C i v zs ws :=
  ⟨h.len, own_any h.rows hb, fun j hj => own_any (h.each j hj) hb⟩
/-- Row i, its first j places. -/
def rowTo (C : List Cr) (i j y : Nat) : Int := if y < j then hf i y (lkM C i y C.length) else 0
theorem rowTo_next (C : List Cr) (m i j : Nat) : (mapI m (rowTo C i j)).set j (hf i j (lkM C i j C.length)) = mapI m (rowTo C i (j + 1)) := by
  refine mapI_set _ _ _ _ _ fun y _ => ?_
  unfold rowTo
  by_cases e : y = j
  · subst e; rw [if_pos (by omega), if_pos rfl]
  · rw [if_neg e]
    by_cases h : y < j
    · rw [if_pos h, if_pos (by omega)]
    · rw [if_neg h, if_neg (by omega)]

set_option maxHeartbeats 8000000 in
set_option maxRecDepth 100000 in
theorem linkingOf_any (a : Option Addr) (cap : Nat) (C : List Cr) (loops : Int) (w : World) (hm : mayD C loops = true) (hD : Crs w w.heap.size (.slice a C.length cap) C) :
    Calls Try.prog 61 #[.agg #[.slice a C.length cap, .int .i64 loops]] w fun e w' => ∃ v, e = .returned v ∧ IntsOwn w' w.heap.size v (lkL C) ∧ Below w.heap.size w w' := by
  obtain ⟨s1, -, -, -⟩ := sizeB_iff (may_size hm)
  obtain ⟨i0, hi, hz0, hz1, hz2⟩ := info_parts infoInt
  obtain ⟨i1, hj, hy0, hy1, hy2⟩ := info_parts infoInts
  have HM : Hid (mayD C loops = true) := hm
  have HD : Hid (Crs w w.heap.size (.slice a C.length cap) C) := hD
  obtain ⟨m, hmm⟩ : ∃ m, (walksM C).length = m := ⟨_, rfl⟩
  have HMM : Hid ((walksM C).length = m) := hmm
  have hml : m ≤ 2 * C.length := by rw [← hmm]; exact walksTo_count _ _ _
  clear hm hD hmm
  obtain ⟨w0, hw0⟩ : ∃ w0, w0 = w.alloc (.cells #[.slice a C.length cap, .int .i64 loops] 24) := ⟨_, rfl⟩
  have HW0 : Hid (w0 = w.alloc (.cells #[.slice a C.length cap, .int .i64 loops] 24)) := hw0
  have hs0 : w0.heap.size = w.heap.size + 1 := by rw [hw0]; simp
  have HB0 : Hid (Below w.heap.size w w0) := (by rw [hw0]; exact (Below.refl _ _).alloc (Nat.le_refl _) _ : Below w.heap.size w w0)
  have HT0 : Hid (w0.heap[w.heap.size]? = some (.cells #[.slice a C.length cap, .int .i64 loops] 24 (0, 0))) := (by rw [hw0]; exact alloc_at rfl : w0.heap[w.heap.size]? = some (.cells #[.slice a C.length cap, .int .i64 loops] 24 (0, 0)))
  clear hw0
  go_enter Try.func61, Try.ntmps61
  go_wp2_with (go_at_call 23; rw [← HW0.out]; refine (strandsOf_any a cap C loops _ HM.out (HD.out.up HB0.out)).mono ?_; rintro e9 w1 ⟨vw, rfl, hvw, hb1⟩; refine Hid.out ?_)
  refine Lib.hid ?_
  have hrd := hvw.rd
  obtain ⟨aw, cw, ew⟩ := hrd.len
  rw [HMM.out] at ew
  subst ew
  have HRD : Hid (NatsRd w1 w1.heap.size (.slice aw m cw) (walksM C)) := hrd
  have HB1 : Hid (Below w0.heap.size w0 w1) := hb1
  have hs1 := hb1.size
  have HBX : Hid (∀ W, Below w1.heap.size w1 W → W.heap[w.heap.size]? = some (.cells #[.slice a C.length cap, .int .i64 loops] 24 (0, 0)) ∧ Below w.heap.size w W ∧ w.heap.size < W.heap.size) := fun W hb => by
    have h1 := (hb.block w.heap.size (by omega)).trans ((HB1.out.block _ (by omega)).trans HT0.out)
    exact ⟨h1, (HB0.out.trans (HB1.out.mono (by omega))).trans (hb.mono (by omega)), (Array.getElem?_eq_some_iff.1 h1).1⟩
  clear hvw hrd hb1
  go_wp2
  go_loopw [4, 5] (fun v4 v5 wr => ∃ (i : Nat) (zs : List Value), i ≤ m ∧ v5 = .int .i64 (i : Nat) ∧ Hid (LkAt w1.heap.size C i v4 zs wr) ∧ Hid (Below w1.heap.size w1 wr)) (fun _ v5 _ => m - (intOf v5).toNat)
  case atStart => exact ⟨0, [], Nat.zero_le _, rfl, ⟨rfl, World.ownsRow_nil _ _ _ _, fun j hj => absurd hj (Nat.not_lt_zero _)⟩, Below.refl _ _⟩
  case round =>
    rename World => W1
    obtain ⟨i, zs, hin, rfl, hlk, hbW⟩ := hrel
    obtain ⟨a4, c4, rfl⟩ := own_capS hlk.out.rows
    have hsW := hbW.out.size
    by_cases hil : i < m
    · have hii : (i : Int) < (m : Int) := by omega
      go_wp2_with (first | (at_make; refine wpList_make_full _ rfl _ _ 37 rfl W1.heap.size 3 i0 (.int .i64 0) 1 Try.underlying37 hi hz0 hz1 .i64 .i64 _ _ m rfl rfl rfl rfl (by rw [hz2]; omega) (by unfold maxLen; omega) (Nat.le_refl _) ?_; intro w4 hrow4 hg4; refine Hid.out ?_))
      refine Lib.hid ?_
      obtain ⟨g, hg⟩ : ∃ g, W1.heap.size = g := ⟨_, rfl⟩
      have HR4 : Hid (w4.ownsRow W1.heap.size 3 1 (.slice (some ⟨g, 0, none⟩) m m) m (intsV (mapI m (rowTo C i 0)))) := (by
        rw [mapI_zero m (rowTo C i 0) (fun y _ => by unfold rowTo; rw [if_neg (by omega)])]
        rw [made_zero, hg] at hrow4
        rw [hg]
        exact hrow4 : w4.ownsRow W1.heap.size 3 1 (.slice (some ⟨g, 0, none⟩) m m) m (intsV (mapI m (rowTo C i 0))))
      have HB4 : Hid (Below W1.heap.size W1 w4) := (Below.refl _ _).grown hg4 (Nat.le_refl _) (fun k hk => by cases hk)
      have HGG : Hid (W1.heap.size = g) := hg
      have hgW : W1.heap.size ≤ g := by omega
      rw [hg]
      clear hrow4 hg4 hg
      go_wp2
      go_loopw [7] (fun v7 ws => ∃ j : Nat, j ≤ m ∧ v7 = .int .i64 (j : Nat) ∧ Hid (ws.ownsRow W1.heap.size 3 1 (.slice (some ⟨g, 0, none⟩) m m) m (intsV (mapI m (rowTo C i j)))) ∧ Hid (Below W1.heap.size W1 ws)) (fun v7 _ => m - (intOf v7).toNat)
      case atStart => exact ⟨0, Nat.zero_le _, rfl, HR4.out, HB4.out⟩
      case round =>
        clear HR4 HB4
        rename World => W2
        obtain ⟨j, hjn, rfl, hrow, hb2⟩ := hrel
        by_cases hjl : j < m
        · have hji : (j : Int) < (m : Int) := by omega
          have HRJ : Hid (W2.ownsRow W1.heap.size 3 1 (.slice (some ⟨g, 0, none⟩) m m) m (intsV (mapI m (rowTo C i j)))) := hrow
          have HBJ : Hid (Below W1.heap.size W1 W2) := hb2
          clear hrow hb2
          go_wp2
          go_loopw [8, 9] (fun v8 v9 ws => ∃ k : Nat, k ≤ C.length ∧ v9 = .int .i64 (k : Nat) ∧ v8 = .int .i64 (lkM C i j k) ∧ Hid (ws.ownsRow W1.heap.size 3 1 (.slice (some ⟨g, 0, none⟩) m m) m (intsV (mapI m (rowTo C i j)))) ∧ Hid (Below W1.heap.size W1 ws)) (fun _ v9 _ => C.length - (intOf v9).toNat)
          case atStart => exact ⟨0, Nat.zero_le _, rfl, rfl, HRJ.out, HBJ.out⟩
          case round =>
            clear HRJ HBJ
            rename World => W3
            obtain ⟨k, hkn, rfl, rfl, hrow, hb3⟩ := hrel
            by_cases hkl : k < C.length
            · obtain ⟨b, off, ea, hbw, hC⟩ := crs_some HD.out (by omega)
              obtain rfl := ea
              have HB13 : Hid (Below w1.heap.size w1 W3) := hbW.out.trans (hb3.out.mono hsW)
              obtain ⟨hbx, hbel, hlw⟩ := HBX.out W3 HB13.out
              obtain ⟨e0, e1, e2, e3, e4⟩ := (hC.on hbel hbw) k hkl
              have hf0 := may_fit HM.out k 0 hkl (by omega)
              have hf1 := may_fit HM.out k 1 hkl (by omega)
              have HP0 : Hid (pA C k 0 = pt (walksM C) ((C.getD k Cr.none).arc 0).toNat) := (rfl : pA C k 0 = pt (walksM C) ((C.getD k Cr.none).arc 0).toNat)
              have HP1 : Hid (pA C k 1 = pt (walksM C) ((C.getD k Cr.none).arc 1).toNat) := (rfl : pA C k 1 = pt (walksM C) ((C.getD k Cr.none).arc 1).toNat)
              have HLK : Hid (lkM C i j (k + 1) = lkM C i j k + if (pA C k 0 = i ∧ pA C k 1 = j) ∨ (i ≠ j ∧ pA C k 0 = j ∧ pA C k 1 = i) then sgn (C.getD k Cr.none).plus else 0) := (rfl : lkM C i j (k + 1) = lkM C i j k + if (pA C k 0 = i ∧ pA C k 1 = j) ∨ (i ≠ j ∧ pA C k 0 = j ∧ pA C k 1 = i) then sgn (C.getD k Cr.none).plus else 0)
              have hzb := lkM_bound C i j k
              obtain ⟨c, hc⟩ : ∃ c, C.getD k Cr.none = c := ⟨_, rfl⟩
              rw [hc] at e0 e1 e2 e3 e4 HP0 HP1 HLK
              have g0 : 1 ≤ c.a ∧ c.a ≤ 2 * (C.length : Int) := by have h1 := hf0.1; have h2 := hf0.2.1; rw [hc] at h1 h2; exact ⟨h1, h2⟩
              have g1 : 1 ≤ c.b ∧ c.b ≤ 2 * (C.length : Int) := by have h1 := hf1.1; have h2 := hf1.2.1; rw [hc] at h1 h2; exact ⟨h1, h2⟩
              obtain ⟨ca, cb, cc, cd, cp⟩ := c
              simp only at e0 e1 e2 e3 e4 g0 g1
              obtain ⟨A, rfl⟩ : ∃ A : Nat, ca = (A : Int) := ⟨ca.toNat, by omega⟩
              obtain ⟨Bn, rfl⟩ : ∃ Bn : Nat, cb = (Bn : Int) := ⟨cb.toNat, by omega⟩
              have HP0' : Hid (pA C k 0 = pt (walksM C) A) := (by rw [HP0.out]; rfl : pA C k 0 = pt (walksM C) A)
              have HP1' : Hid (pA C k 1 = pt (walksM C) Bn) := (by rw [HP1.out]; rfl : pA C k 1 = pt (walksM C) Bn)
              have HRD2 : Hid (NatsRd w1 w1.heap.size (.slice aw (walksM C).length cw) (walksM C)) := (by rw [HMM.out]; exact HRD.out : NatsRd w1 w1.heap.size (.slice aw (walksM C).length cw) (walksM C))
              obtain ⟨bw, ow, ai, ci, eaw, hbw1, ri, hri⟩ := HRD2.out.row i (by rw [HMM.out]; exact hil)
              obtain ⟨bw', ow', aj, cj, eaw', -, rj, hrj⟩ := HRD2.out.row j (by rw [HMM.out]; exact hjl)
              rw [eaw] at eaw'
              injection eaw' with eaw2
              injection eaw2 with ew1 ew2 ew3
              subst ew1 ew2
              obtain rfl := eaw
              have HWF : Hid (∀ (x : Nat), x < m → ∀ (y : Nat), 1 ≤ y → y ≤ 2 * C.length → ∀ (ax : Option Addr) (cx : Nat), RdAt w1 w1.heap.size 1 (.slice ax ((walksM C).getD x []).length cx) ((walksM C).getD x []).length (nats ((walksM C).getD x [])) → ∀ W, Below w1.heap.size w1 W → Calls Try.prog 87 #[.slice ax ((walksM C).getD x []).length cx, .int .i64 (y : Nat)] W fun e w' => e = .returned (.bool (decide (pt (walksM C) y = x))) ∧ w' = W) := fun x hx y h1 h2 ax cx hr W hb => by
                have hl : ((walksM C).getD x []).length ≤ 100 := by
                  have := ((walksM_facts HM.out).2 x (by rw [HMM.out]; exact hx)).2.1
                  omega
                have hs : Slots W W.heap.size (.slice ax ((walksM C).getD x []).length cx) (nats ((walksM C).getD x [])) := ((hr.on hb).mono hb.size).slots (by rw [nats_len])
                have := within_q (.slice ax ((walksM C).getD x []).length cx) ((walksM C).getD x []) (y : Int) W hl hs
                rw [wi_pt y x h1 h2 (by rw [HMM.out]; exact hx)] at this
                exact this
              have K1 := fun W hb => HWF.out i hil A (by omega) (by omega) ai ci hri W hb
              have K2 := fun W hb => HWF.out j hjl Bn (by omega) (by omega) aj cj hrj W hb
              have K3 := fun W hb => HWF.out j hjl A (by omega) (by omega) aj cj hrj W hb
              have K4 := fun W hb => HWF.out i hil Bn (by omega) (by omega) ai ci hri W hb
              rw [← HP0'.out] at K1 K3
              rw [← HP1'.out] at K2 K4
              obtain ⟨ni, hni⟩ : ∃ ni, ((walksM C).getD i []).length = ni := ⟨_, rfl⟩
              obtain ⟨nj, hnj⟩ : ∃ nj, ((walksM C).getD j []).length = nj := ⟨_, rfl⟩
              rw [hni] at K1 K4 ri
              rw [hnj] at K2 K3 rj
              obtain ⟨p0, hp0'⟩ : ∃ p0, pA C k 0 = p0 := ⟨_, rfl⟩
              obtain ⟨p1, hp1'⟩ : ∃ p1, pA C k 1 = p1 := ⟨_, rfl⟩
              rw [hp0'] at K1 K3 HLK
              rw [hp1'] at K2 K4 HLK
              obtain ⟨bl, hbl⟩ : ∃ bl, decide (p0 = i) = bl := ⟨_, rfl⟩
              obtain ⟨ab, hab⟩ : ∃ ab, decide (p1 = j) = ab := ⟨_, rfl⟩
              obtain ⟨o1, ho1⟩ : ∃ o1, decide (p0 = j) = o1 := ⟨_, rfl⟩
              obtain ⟨o2, ho2⟩ : ∃ o2, decide (p1 = i) = o2 := ⟨_, rfl⟩
              rw [hbl] at K1
              rw [hab] at K2
              rw [ho1] at K3
              rw [ho2] at K4
              have H1 : Hid (∀ W, Below w1.heap.size w1 W → Calls Try.prog 87 #[.slice ai ni ci, .int .i64 (A : Nat)] W fun e w' => e = .returned (.bool bl) ∧ w' = W) := K1
              have H2 : Hid (∀ W, Below w1.heap.size w1 W → Calls Try.prog 87 #[.slice aj nj cj, .int .i64 (Bn : Nat)] W fun e w' => e = .returned (.bool ab) ∧ w' = W) := K2
              have H3 : Hid (∀ W, Below w1.heap.size w1 W → Calls Try.prog 87 #[.slice aj nj cj, .int .i64 (A : Nat)] W fun e w' => e = .returned (.bool o1) ∧ w' = W) := K3
              have H4 : Hid (∀ W, Below w1.heap.size w1 W → Calls Try.prog 87 #[.slice ai ni ci, .int .i64 (Bn : Nat)] W fun e w' => e = .returned (.bool o2) ∧ w' = W) := K4
              obtain ⟨sg', hsg⟩ : ∃ sg', sgn cp = sg' := ⟨_, rfl⟩
              have HSG : Hid (sgn cp = sg') := hsg
              have hsb : sg' = 1 ∨ sg' = -1 := by rw [← hsg]; exact sgn_bound cp
              have hsb2 : -1 ≤ sg' ∧ sg' ≤ 1 := by omega
              have HCO : Hid (lkM C i j (k + 1) = lkM C i j k + if ((bl && ab) || (o1 && o2 && decide (i ≠ j))) = true then sg' else 0) := (by
                rw [HLK.out]
                congr 1
                rw [← hbl, ← hab, ← ho1, ← ho2, ← hsg]
                simp only [Bool.or_eq_true, Bool.and_eq_true, decide_eq_true_eq]
                by_cases h : (p0 = i ∧ p1 = j) ∨ ((p0 = j ∧ p1 = i) ∧ i ≠ j)
                · rw [if_pos h, if_pos (by rcases h with h | h; exact Or.inl h; exact Or.inr ⟨h.2, h.1⟩)]
                · rw [if_neg h, if_neg (fun h2 => h (by rcases h2 with h2 | h2; exact Or.inl h2; exact Or.inr ⟨h2.2, h2.1⟩))] : lkM C i j (k + 1) = lkM C i j k + if ((bl && ab) || (o1 && o2 && decide (i ≠ j))) = true then sg' else 0)
              obtain ⟨z, hz⟩ : ∃ z, lkM C i j k = z := ⟨_, rfl⟩
              rw [hz] at hzb HCO ⊢
              have ew : IntKind.i64.wrap (z + sg') = z + sg' := IntWalk.i64_in _ (by omega)
              obtain ⟨W4, hW4⟩ : ∃ W4, W4 = W3.alloc (.cells #[.int .i64 (A : Nat), .int .i64 (Bn : Nat), .int .i64 cc, .int .i64 cd, .bool cp] 64) := ⟨_, rfl⟩
              have HW4 : Hid (W4 = W3.alloc (.cells #[.int .i64 (A : Nat), .int .i64 (Bn : Nat), .int .i64 cc, .int .i64 cd, .bool cp] 64)) := hW4
              have hs4 : W4.heap.size = W3.heap.size + 1 := by rw [hW4]; simp
              have HB34 : Hid (Below W3.heap.size W3 W4) := (by rw [hW4]; exact (Below.refl _ _).alloc (Nat.le_refl _) _ : Below W3.heap.size W3 W4)
              have HBOX : Hid (W4.heap[W3.heap.size]? = some (.cells #[.int .i64 (A : Nat), .int .i64 (Bn : Nat), .int .i64 cc, .int .i64 cd, .bool cp] 64 (0, 0))) := (by rw [hW4]; exact alloc_at rfl : W4.heap[W3.heap.size]? = some (.cells #[.int .i64 (A : Nat), .int .i64 (Bn : Nat), .int .i64 cc, .int .i64 cd, .bool cp] 64 (0, 0)))
              have HB14 : Hid (Below w1.heap.size w1 W4) := HB13.out.trans (HB34.out.mono HB13.out.size)
              have HRI : Hid (w1.cell? ⟨bw, ow + i, none⟩ = some (.slice ai ni ci)) := ri
              have HRJ2 : Hid (w1.cell? ⟨bw, ow + j, none⟩ = some (.slice aj nj cj)) := rj
              have HF : Hid (∀ w', Below W4.heap.size W4 w' → w'.cell? ⟨bw, ow + i, none⟩ = some (.slice ai ni ci) ∧ w'.cell? ⟨bw, ow + j, none⟩ = some (.slice aj nj cj) ∧ w'.cell? ⟨W3.heap.size, 0, none⟩ = some (.int .i64 (A : Nat)) ∧ w'.cell? ⟨W3.heap.size, 1, none⟩ = some (.int .i64 (Bn : Nat)) ∧ w'.cell? ⟨W3.heap.size, 2, none⟩ = some (.int .i64 cc) ∧ w'.cell? ⟨W3.heap.size, 3, none⟩ = some (.int .i64 cd) ∧ w'.cell? ⟨W3.heap.size, 4, none⟩ = some (.bool cp)) := fun w' hb => by
                have gb := (hb.block _ (by omega)).trans HBOX.out
                have hb1 := HB14.out.trans (hb.mono HB14.out.size)
                exact ⟨bcell hb1 hbw1 HRI.out, bcell hb1 hbw1 HRJ2.out, block_cell gb rfl, block_cell gb rfl, block_cell gb rfl, block_cell gb rfl, block_cell gb rfl⟩
              have HBW : Hid (∀ w', Below W4.heap.size W4 w' → Below w1.heap.size w1 w') := fun w' hb => HB14.out.trans (hb.mono HB14.out.size)
              have J1 : Hid (∀ x, Calls Try.prog 87 #[.slice ai ni ci, .int .i64 (A : Nat)] (W4.drewN x) fun e w' => e = .returned (.bool bl) ∧ ∃ n, w' = W4.drewN n) := fun x => quiet_is (H1.out _ (below_drewN HB14.out x))
              have J2 : Hid (∀ x, Calls Try.prog 87 #[.slice aj nj cj, .int .i64 (Bn : Nat)] (W4.drewN x) fun e w' => e = .returned (.bool ab) ∧ ∃ n, w' = W4.drewN n) := fun x => quiet_is (H2.out _ (below_drewN HB14.out x))
              have J3 : Hid (∀ x, Calls Try.prog 87 #[.slice aj nj cj, .int .i64 (A : Nat)] (W4.drewN x) fun e w' => e = .returned (.bool o1) ∧ ∃ n, w' = W4.drewN n) := fun x => quiet_is (H3.out _ (below_drewN HB14.out x))
              have J4 : Hid (∀ x, Calls Try.prog 87 #[.slice ai ni ci, .int .i64 (Bn : Nat)] (W4.drewN x) fun e w' => e = .returned (.bool o2) ∧ ∃ n, w' = W4.drewN n) := fun x => quiet_is (H4.out _ (below_drewN HB14.out x))
              have HGN : Hid (∀ w', Below W4.heap.size W4 w' → w'.ownsRow W1.heap.size 3 1 (.slice (some ⟨g, 0, none⟩) m m) m (intsV (mapI m (rowTo C i j))) ∧ Below W1.heap.size W1 w') := fun w' hb => by
                have hb3' := HB34.out.trans (hb.mono (by omega))
                exact ⟨own_any hrow.out (grown_below hb3' none), hb3.out.trans (hb3'.mono hb3.out.size)⟩
              have k0 : W3.cell? ⟨w.heap.size, 0, none⟩ = some (.slice (some ⟨b, off, none⟩) C.length cap) := block_cell hbx rfl
              have hbW3 : b < W3.heap.size := by have := hbel.size; omega
              have hki : (k : Int) < (C.length : Int) := by omega
              have hbw4 : bw < W4.heap.size := by have := HB14.out.size; omega
              clear HP0 HP1 HLK hc hf0 hf1 hC HP0' HP1' HWF K1 K2 K3 K4 hri hrj hni hnj hp0' hp1' hbl hab ho1 ho2 hsg hsb hz hW4 ri rj hbx hbel
              go_wp2
              rw [← HW4.out]
              obtain ⟨n0, n1, n2, n3, n4, n5, n6⟩ := HF.out W4 (Below.refl _ _)
              clear e0 e1 e2 e3 e4 k0
              go_quiet (first | (go_at_call_has 87 (Value.slice ai ni ci); exact J1.out _) | (go_at_call_has 87 (Value.slice aj nj cj); exact J2.out _))
              obtain ⟨W5, hW5⟩ : ∃ W5, W5 = W4.drewN nq := ⟨_, rfl⟩
              rw [← hW5]
              have HB45 : Hid (Below W4.heap.size W4 W5) := (by rw [hW5]; exact below_drewN (Below.refl _ _) nq : Below W4.heap.size W4 W5)
              have J5 : Hid (∀ x, Calls Try.prog 87 #[.slice aj nj cj, .int .i64 (A : Nat)] (W5.drewN x) fun e w' => e = .returned (.bool o1) ∧ ∃ n, w' = W5.drewN n) := fun x => quiet_is (H3.out _ (below_drewN (HBW.out W5 HB45.out) x))
              have J6 : Hid (∀ x, Calls Try.prog 87 #[.slice ai ni ci, .int .i64 (Bn : Nat)] (W5.drewN x) fun e w' => e = .returned (.bool o2) ∧ ∃ n, w' = W5.drewN n) := fun x => quiet_is (H4.out _ (below_drewN (HBW.out W5 HB45.out) x))
              have hbw5 : bw < W5.heap.size := by have := HB45.out.size; omega
              have hl5 : W3.heap.size < W5.heap.size := by have := HB45.out.size; omega
              clear n0 n1 n2 n3 n4 n5 n6 hW5
              obtain ⟨n0, n1, n2, n3, n4, n5, n6⟩ := HF.out W5 HB45.out
              cases o1 with
              | true =>
                go_wp2
                go_quiet (first | (go_at_call_has 87 (Value.slice aj nj cj); exact J5.out _) | (go_at_call_has 87 (Value.slice ai ni ci); exact J6.out _))
                cases bl
                · cases o2
                  · go_wp2
                    go_roundw
                    case rel => exact ⟨k + 1, by omega, by go_num, by rw [HCO.out, if_neg (by simp), Int.add_zero], (HGN.out _ (below_drewN HB45.out _)).1, (HGN.out _ (below_drewN HB45.out _)).2⟩
                    case measure => simp only [intOf]; omega
                  · by_cases hij : i = j
                    · have hje : ((i : Int) == (j : Int)) = true := by rw [beq_iff_eq]; omega
                      have hje2 : (i == j) = true := by rw [beq_iff_eq]; omega
                      have HIJ : Hid (i = j) := hij
                      clear hij
                      go_wp2
                      go_roundw
                      case rel => exact ⟨k + 1, by omega, by go_num, by rw [HCO.out, if_neg (by simp [HIJ.out]), Int.add_zero], (HGN.out _ (below_drewN HB45.out _)).1, (HGN.out _ (below_drewN HB45.out _)).2⟩
                      case measure => simp only [intOf]; omega
                    · have hje : ((i : Int) == (j : Int)) = false := by rw [beq_eq_false_iff_ne]; omega
                      have hje2 : (i == j) = false := by rw [beq_eq_false_iff_ne]; omega
                      go_wp2_with (go_at_call 110; refine (signOf_any ⟨(A : Int), (Bn : Int), cc, cd, cp⟩ _).mono ?_; rw [HSG.out]; rintro e9 w9 ⟨rfl, hb9⟩; have HB9 : Hid (Below W4.heap.size W4 w9) := (below_drewN HB45.out _).trans (hb9.mono (below_drewN HB45.out _).size); clear hb9)
                      go_roundw
                      case rel => exact ⟨k + 1, by omega, by go_num, by rw [HCO.out, if_pos (by simp [hij])], (HGN.out w9 HB9.out).1, (HGN.out w9 HB9.out).2⟩
                      case measure => simp only [intOf]; omega
                · cases ab
                  · cases o2
                    · go_wp2
                      go_roundw
                      case rel => exact ⟨k + 1, by omega, by go_num, by rw [HCO.out, if_neg (by simp), Int.add_zero], (HGN.out _ (below_drewN HB45.out _)).1, (HGN.out _ (below_drewN HB45.out _)).2⟩
                      case measure => simp only [intOf]; omega
                    · by_cases hij : i = j
                      · have hje : ((i : Int) == (j : Int)) = true := by rw [beq_iff_eq]; omega
                        have hje2 : (i == j) = true := by rw [beq_iff_eq]; omega
                        have HIJ : Hid (i = j) := hij
                        clear hij
                        go_wp2
                        go_roundw
                        case rel => exact ⟨k + 1, by omega, by go_num, by rw [HCO.out, if_neg (by simp [HIJ.out]), Int.add_zero], (HGN.out _ (below_drewN HB45.out _)).1, (HGN.out _ (below_drewN HB45.out _)).2⟩
                        case measure => simp only [intOf]; omega
                      · have hje : ((i : Int) == (j : Int)) = false := by rw [beq_eq_false_iff_ne]; omega
                        have hje2 : (i == j) = false := by rw [beq_eq_false_iff_ne]; omega
                        go_wp2_with (go_at_call 110; refine (signOf_any ⟨(A : Int), (Bn : Int), cc, cd, cp⟩ _).mono ?_; rw [HSG.out]; rintro e9 w9 ⟨rfl, hb9⟩; have HB9 : Hid (Below W4.heap.size W4 w9) := (below_drewN HB45.out _).trans (hb9.mono (below_drewN HB45.out _).size); clear hb9)
                        go_roundw
                        case rel => exact ⟨k + 1, by omega, by go_num, by rw [HCO.out, if_pos (by simp [hij])], (HGN.out w9 HB9.out).1, (HGN.out w9 HB9.out).2⟩
                        case measure => simp only [intOf]; omega
                  · go_wp2_with (go_at_call 110; refine (signOf_any ⟨(A : Int), (Bn : Int), cc, cd, cp⟩ _).mono ?_; rw [HSG.out]; rintro e9 w9 ⟨rfl, hb9⟩; have HB9 : Hid (Below W4.heap.size W4 w9) := (below_drewN HB45.out _).trans (hb9.mono (below_drewN HB45.out _).size); clear hb9)
                    go_roundw
                    case rel => exact ⟨k + 1, by omega, by go_num, by rw [HCO.out, if_pos (by simp)], (HGN.out w9 HB9.out).1, (HGN.out w9 HB9.out).2⟩
                    case measure => simp only [intOf]; omega
              | false =>
                go_wp2
                go_quiet (first | (go_at_call_has 87 (Value.slice aj nj cj); exact J5.out _))
                cases bl
                · go_wp2
                  go_roundw
                  case rel => exact ⟨k + 1, by omega, by go_num, by rw [HCO.out, if_neg (by simp), Int.add_zero], (HGN.out _ (below_drewN HB45.out _)).1, (HGN.out _ (below_drewN HB45.out _)).2⟩
                  case measure => simp only [intOf]; omega
                · cases ab
                  · go_wp2
                    go_roundw
                    case rel => exact ⟨k + 1, by omega, by go_num, by rw [HCO.out, if_neg (by simp), Int.add_zero], (HGN.out _ (below_drewN HB45.out _)).1, (HGN.out _ (below_drewN HB45.out _)).2⟩
                    case measure => simp only [intOf]; omega
                  · go_wp2_with (go_at_call 110; refine (signOf_any ⟨(A : Int), (Bn : Int), cc, cd, cp⟩ _).mono ?_; rw [HSG.out]; rintro e9 w9 ⟨rfl, hb9⟩; have HB9 : Hid (Below W4.heap.size W4 w9) := (below_drewN HB45.out _).trans (hb9.mono (below_drewN HB45.out _).size); clear hb9)
                    go_roundw
                    case rel => exact ⟨k + 1, by omega, by go_num, by rw [HCO.out, if_pos (by simp)], (HGN.out w9 HB9.out).1, (HGN.out w9 HB9.out).2⟩
                    case measure => simp only [intOf]; omega
            · obtain rfl : k = C.length := by omega
              obtain ⟨hbx, -, hlw⟩ := HBX.out W3 (hbW.out.trans (hb3.out.mono hsW))
              have k0 : W3.cell? ⟨w.heap.size, 0, none⟩ = some (.slice a C.length cap) := block_cell hbx rfl
              have hzb := lkM_bound C i j C.length
              have hst := hrow.out.stored j (.int .i64 (hf i j (lkM C i j C.length)))
              rw [intsV_set, rowTo_next] at hst
              have e0 := hrow.out.cellAt j (by omega)
              rw [intsV_get _ j (by rw [mapI_len]; exact hjl)] at e0
              generalize (mapI m (rowTo C i j)).getD j 0 = y at e0
              have z0 := hrow.out.frozenAt j
              have hlg := (hrow.out.lt g rfl).2
              have hb3s := hb3.out.size
              obtain ⟨z, hz⟩ : ∃ z, lkM C i j C.length = z := ⟨_, rfl⟩
              rw [hz] at hzb hst ⊢
              by_cases hij : i = j
              · have hje : ((i : Int) == (j : Int)) = true := by rw [beq_iff_eq]; omega
                have hje2 : (i == j) = true := by rw [beq_iff_eq]; omega
                have ehf : hf i j z = z := by unfold hf; rw [if_pos hij]
                rw [ehf] at hst
                have HST : Hid ((W3.setCell ⟨g, j, none⟩ (.int .i64 z)).ownsRow W1.heap.size 3 1 (.slice (some ⟨g, 0, none⟩) m m) m (intsV (mapI m (rowTo C i (j + 1))))) := hst.1
                have HBN : Hid (Below W1.heap.size W1 (W3.setCell ⟨g, j, none⟩ (.int .i64 z))) := hb3.out.grown hst.2 hb3s (fun q hq => by have : g = q := Option.some.inj hq; omega)
                clear hst hz ehf hij
                go_wp2
                go_roundw
                case rel => exact ⟨j + 1, by omega, by go_num, HST.out, HBN.out⟩
                case measure => simp only [intOf]; omega
              · have hje : ((i : Int) == (j : Int)) = false := by rw [beq_eq_false_iff_ne]; omega
                have hje2 : (i == j) = false := by rw [beq_eq_false_iff_ne]; omega
                have ehf : hf i j z = z.tdiv 2 := by unfold hf; rw [if_neg hij]
                rw [ehf] at hst
                have ew : IntKind.i64.wrap (z.tdiv 2) = z.tdiv 2 := IntWalk.i64_in _ (tdiv_le16 z (by omega))
                have HST : Hid ((W3.setCell ⟨g, j, none⟩ (.int .i64 (z.tdiv 2))).ownsRow W1.heap.size 3 1 (.slice (some ⟨g, 0, none⟩) m m) m (intsV (mapI m (rowTo C i (j + 1))))) := hst.1
                have HBN : Hid (Below W1.heap.size W1 (W3.setCell ⟨g, j, none⟩ (.int .i64 (z.tdiv 2)))) := hb3.out.grown hst.2 hb3s (fun q hq => by have : g = q := Option.some.inj hq; omega)
                clear hst hz ehf
                go_wp2
                go_roundw
                case rel => exact ⟨j + 1, by omega, by go_num, HST.out, HBN.out⟩
                case measure => simp only [intOf]; omega
        · obtain rfl : j = m := by omega
          have hn2 := grown_below hb2.out none
          have HRO : Hid (W2.ownsRow w1.heap.size 37 1 (.slice a4 i c4) i zs) := own_any hlk.out.rows hn2
          have HL2 : Hid (LkAt w1.heap.size C i (.slice a4 i c4) zs W2) := hlk.out.any hn2
          have HON : Hid (∀ u ∈ [Value.slice (some ⟨g, 0, none⟩) j j], u.oneCell' = true) := own_oneS hrow.out
          have hs2 := hb2.out.size
          go_wp2_with (first
            | (at_builtin; refine wpList_append_own _ rfl _ _ 25 rfl w1.heap.size 37 i1 (.slice none 0 0) 1 24 Try.underlying25 hj hy0 hy1 hy2 rfl (by decide) _ i zs rfl (HRO.out.alloc _) ⟨W2.heap.size, 0, none⟩ 1 1 [Value.slice (some ⟨g, 0, none⟩) j j] rfl rfl (new_cell1 _ _ _) HON.out (by unfold maxLen; omega) (by omega) (by simp; omega) ?_; intro v9 w9 hown9 hg9 _; have HO9 : Hid (w9.ownsRow w1.heap.size 37 1 v9 (i + 1) (zs ++ [Value.slice (some ⟨g, 0, none⟩) j j])) := hown9; have HG9 : Hid ((W2.alloc (.cells #[Value.slice (some ⟨g, 0, none⟩) j j] 37)).grownBy w9 (Value.slice a4 i c4).ownBlock) := hg9; clear hown9 hg9))
          go_roundw
          case rel =>
            have hR := HRO.out.alloc (.cells #[Value.slice (some ⟨g, 0, none⟩) j j] 37)
            have hO := (own_low hrow.out hsW).alloc (.cells #[Value.slice (some ⟨g, 0, none⟩) j j] 37)
            refine ⟨i + 1, zs ++ [Value.slice (some ⟨g, 0, none⟩) j j], by omega, by go_num, ⟨by simp [HL2.out.len], HO9.out, fun q hq => ?_⟩, ?_⟩
            · by_cases hqk : q < i
              · rw [getD_left zs _ q (by rw [HL2.out.len]; exact hqk)]
                have h1 := (HL2.out.each q hqk).alloc (.cells #[Value.slice (some ⟨g, 0, none⟩) j j] 37)
                exact h1.kept HG9.out (own_ne h1 hR (by decide))
              · obtain rfl : q = i := by omega
                have e2 : (zs ++ [Value.slice (some ⟨g, 0, none⟩) j j]).getD q (.bool false) = Value.slice (some ⟨g, 0, none⟩) j j := by
                  have := getD_last zs (Value.slice (some ⟨g, 0, none⟩) j j)
                  rw [HL2.out.len] at this
                  exact this
                rw [e2, HMM.out, mapI_congr j (fun y => hf q y (lkM C q y C.length)) (rowTo C q j) (fun y hy => by unfold rowTo; rw [if_pos hy])]
                exact hO.kept HG9.out (own_ne hO hR (by decide))
            · exact ((hbW.out.trans (hb2.out.mono hsW)).alloc (by omega) _).grown HG9.out (by simp; omega) (fun q hq => by have := (hR.lt q hq).1; omega)
          case measure => simp only [intOf]; omega
    · obtain rfl : i = m := by omega
      have HBF : Hid (Below w.heap.size w W1) := (HBX.out W1 hbW.out).2.1
      go_wp2
      go_ret
      refine ⟨_, rfl, ⟨zs, by simp [lkL, hlk.out.len, HMM.out], by rw [hlk.out.len]; exact own_low hlk.out.rows (by omega), fun q hq => ?_⟩, HBF.out⟩
      have hq' : q < i := by simpa [lkL, HMM.out] using hq
      have e : (lkL C).getD q [] = mapI (walksM C).length fun y => hf q y (lkM C q y C.length) := by
        have hq2 : q < (walksM C).length := by rw [HMM.out]; exact hq'
        simp [lkL, List.getD, hq2]
      rw [e, mapI_len]
      exact own_low (hlk.out.each q hq') (by omega)
end Go.Proofs.Ytmggackacaobjaa
