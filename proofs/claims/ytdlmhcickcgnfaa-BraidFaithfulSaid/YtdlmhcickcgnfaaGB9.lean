/- The walks of knotworkkeep.equalInts and told. -/
import Derived.Test.YtdlmhcickcgnfaaGB8
import Derived.Test.YtdlmhcickcgnfaaBR9
namespace Go.Proofs.Ytdlmhcickcgnfaa
open Go.RowKit

set_option maxHeartbeats 4000000 in
set_option maxRecDepth 100000 in
theorem equalK_any (m1 m2 c1 c2 : Nat) (a1 a2 : Option Addr) (l1 l2 : List Int) (w : World) (hl1 : l1.length = m1) (hl2 : l2.length = m2) (hn : m1 ≤ 20000000000) (h1 : RdAt w w.heap.size 1 (.slice a1 m1 c1) m1 (intsV l1)) (h2 : RdAt w w.heap.size 1 (.slice a2 m2 c2) m2 (intsV l2)) :
    Calls Try.prog 21 #[.slice a1 m1 c1, .slice a2 m2 c2] w fun e w' => e = .returned (.bool (decide (l1 = l2))) ∧ Below w.heap.size w w' := by
  by_cases hmm : m1 = m2
  · subst hmm
    have H1 : Hid (RdAt w w.heap.size 1 (.slice a1 l1.length c1) l1.length (intsV l1)) := (by rw [hl1]; exact h1 : RdAt w w.heap.size 1 (.slice a1 l1.length c1) l1.length (intsV l1))
    have H2 : Hid (RdAt w w.heap.size 1 (.slice a2 l2.length c2) l2.length (intsV l2)) := (by rw [hl2]; exact h2 : RdAt w w.heap.size 1 (.slice a2 l2.length c2) l2.length (intsV l2))
    have HL : Hid (l1.length = m1 ∧ l2.length = m1) := ⟨hl1, hl2⟩
    have hne : ((m1 : Int) != (m1 : Int)) = false := by simp
    clear h1 h2 hl1 hl2
    go_enter Try.func21, Try.ntmps21
    go_wp2
    go_loopw [5] (fun v5 wr => ∃ k : Nat, k ≤ m1 ∧ v5 = .int .i64 (k : Nat) ∧ Hid (∀ i, i < k → l1.getD i 0 = l2.getD i 0) ∧ Hid (Below w.heap.size w wr)) (fun v5 _ => m1 - (intOf v5).toNat)
    case atStart => exact ⟨0, Nat.zero_le _, rfl, fun i hi => by omega, Below.refl _ _⟩
    case round =>
      rename World => W1
      obtain ⟨k, hkn, rfl, hq, hb⟩ := hrel
      by_cases hk : k < m1
      · have hkI : (k : Int) < (m1 : Int) := by omega
        obtain ⟨b1, o1, ea1, hlt1, hc1⟩ := (H1.out.on hb.out).intAt k (by rw [HL.out.1]; exact hk)
        obtain ⟨b2, o2, ea2, hlt2, hc2⟩ := (H2.out.on hb.out).intAt k (by rw [HL.out.2]; exact hk)
        obtain ⟨x, hx⟩ : ∃ x, l1.getD k 0 = x := ⟨_, rfl⟩
        obtain ⟨y, hy⟩ : ∃ y, l2.getD k 0 = y := ⟨_, rfl⟩
        rw [hx] at hc1
        rw [hy] at hc2
        have HXY : Hid (l1.getD k 0 = x ∧ l2.getD k 0 = y) := ⟨hx, hy⟩
        have lb1 : b1 < W1.heap.size := Nat.lt_of_lt_of_le hlt1 hb.out.size
        have lb2 : b2 < W1.heap.size := Nat.lt_of_lt_of_le hlt2 hb.out.size
        clear hx hy
        subst ea1 ea2
        by_cases e : x = y
        · subst e
          have hd : (x != x) = false := by simp
          have HNX : Hid (∀ i, i < k + 1 → l1.getD i 0 = l2.getD i 0) := fun i hi => by
            by_cases e : i = k
            · rw [e, HXY.out.1, HXY.out.2]
            · exact hq.out i (by omega)
          go_wp2
          go_quiet (fail)
          have HBD : Hid (Below w.heap.size w (W1.drewN nq)) := below_drewN hb.out nq
          generalize W1.drewN nq = W2 at HBD ⊢
          go_wp2
          go_roundw
          case rel => exact ⟨k + 1, by omega, by go_num, HNX.out, HBD.out⟩
          case measure => simp only [intOf]; omega
        · have hd : (x != y) = true := by simp [e]
          have HF : Hid (decide (l1 = l2) = false) := (decide_eq_false (fun q => e (by rw [← HXY.out.1, ← HXY.out.2, q])) : decide (l1 = l2) = false)
          go_wp2
          go_quiet (fail)
          have HBD : Hid (Below w.heap.size w (W1.drewN nq)) := below_drewN hb.out nq
          generalize W1.drewN nq = W2 at HBD ⊢
          go_wp2
          go_ret
          exact ⟨ret_bool HF.out, HBD.out⟩
      · obtain rfl : k = m1 := by omega
        have HF : Hid (decide (l1 = l2) = true) := (decide_eq_true (list_eqI HL.out.1 HL.out.2 hq.out) : decide (l1 = l2) = true)
        go_wp2
        go_ret
        exact ⟨ret_bool HF.out, hb.out⟩
  · have hne : ((m1 : Int) != (m2 : Int)) = true := by simp; omega
    have HF : Hid (decide (l1 = l2) = false) := (decide_eq_false (fun q => hmm (by rw [← hl1, ← hl2, q])) : decide (l1 = l2) = false)
    clear h1 h2 hl1 hl2
    go_enter Try.func21, Try.ntmps21
    go_wp2
    go_ret
    exact ⟨ret_bool HF.out, Below.refl _ _⟩

/-- What was found of two rows so far. -/
structure FdAt (P : Prop) (m1 m2 : Nat) (K L : List (List Int)) (i : Nat) (fm : Bool) : Prop where
  yes : fm = true → P ∧ m1 = m2 ∧ ∀ j, j < i → K.getD j [] = L.getD j []
  no : fm = false → ¬ (P ∧ K = L)
theorem FdAt.fin {P : Prop} [Decidable P] {m1 m2 : Nat} {K L : List (List Int)} {i : Nat} {fm : Bool} (h : FdAt P m1 m2 K L i fm) (hK : K.length = m1) (hL : L.length = m2) (hi : fm = true → m1 ≤ i) : fm = (decide P && decide (K = L)) := by
  cases fm with
  | true =>
    obtain ⟨h1, h2, h3⟩ := h.yes rfl
    rw [decide_eq_true h1, decide_eq_true (list_eqL (n := m1) hK (by rw [hL, h2]) (fun j hj => h3 j (by have := hi rfl; omega)))]
    rfl
  | false =>
    have := h.no rfl
    rw [← Bool.decide_and]
    exact (decide_eq_false this).symm
theorem FdAt.next {P : Prop} {m1 m2 : Nat} {K L : List (List Int)} {i : Nat} (h : FdAt P m1 m2 K L i true) : FdAt P m1 m2 K L (i + 1) (decide (K.getD i [] = L.getD i [])) := by
  obtain ⟨h1, h2, h3⟩ := h.yes rfl
  refine ⟨fun e => ⟨h1, h2, fun j hj => ?_⟩, fun e q => of_decide_eq_false e (by rw [q.2])⟩
  by_cases ej : j = i
  · rw [ej]; exact of_decide_eq_true e
  · exact h3 j (by omega)

set_option maxHeartbeats 8000000 in
set_option maxRecDepth 100000 in
theorem told_any (n c1 c2 : Nat) (a1 a2 : Option Addr) (u v : List Int) (w : World) (hu : wordN (n : Int) u = 0) (hv : wordN (n : Int) v = 0) (h1 : RdAt w w.heap.size 1 (.slice a1 u.length c1) u.length (intsV u)) (h2 : RdAt w w.heap.size 1 (.slice a2 v.length c2) v.length (intsV v)) :
    Calls Try.prog 12 #[.int .i64 (n : Nat), .slice a1 u.length c1, .slice a2 v.length c2] w fun e w' => e = .returned (.tuple #[.bool (decide (nfW n u = nfW n v)), .bool (decide (actT n u u.length = actT n v v.length)), .bool true]) ∧ Below w.heap.size w w' := by
  obtain ⟨n2, n6, -, hu20⟩ := wordN_ok hu
  obtain ⟨-, -, -, hv20⟩ := wordN_ok hv
  have HN1 := hid_g (fun W (hW : Below w.heap.size w W) => normal_yes n c1 a1 u W hu ((h1.on hW).mono hW.size))
  have HN2 := hid_g (fun W (hW : Below w.heap.size w W) => normal_yes n c2 a2 v W hv ((h2.on hW).mono hW.size))
  have HA1 := hid_g (fun W (hW : Below w.heap.size w W) => act_yes a1 c1 n u W (by omega) hu ((h1.on hW).mono hW.size))
  have HA2 := hid_g (fun W (hW : Below w.heap.size w W) => act_yes a2 c2 n v W (by omega) hv ((h2.on hW).mono hW.size))
  have hoku := actT_ok n (by omega) u u.length (Nat.le_refl _)
  have hokv := actT_ok n (by omega) v v.length (Nat.le_refl _)
  have HTU : Hid ((actT n u u.length).length = n ∧ ∀ j, ((actT n u u.length).getD j []).length ≤ 20000000000) := (⟨hoku.ln, fun j => by have h1 := hoku.len j; have h2 := three_pow u.length hu20; omega⟩ : (actT n u u.length).length = n ∧ ∀ j, ((actT n u u.length).getD j []).length ≤ 20000000000)
  have HTV : Hid ((actT n v v.length).length = n) := hokv.ln
  have HEQ := hid_g (nfW_eq (wordN_mem hu) (wordN_mem hv))
  have HLU : Hid ((nfW n u).2.length ≤ 20) := Nat.le_trans (nfW_len (wordN_lt hu)) hu20
  obtain ⟨q1, hq1⟩ : ∃ q1, u.length = q1 := ⟨_, rfl⟩
  obtain ⟨q2, hq2⟩ : ∃ q2, v.length = q2 := ⟨_, rfl⟩
  rw [hq1] at HN1 HA1 HTU ⊢
  rw [hq2] at HN2 HA2 HTV ⊢
  rw [HEQ.out]
  obtain ⟨pu, hpu⟩ : ∃ pu, (nfW n u).1 = pu := ⟨_, rfl⟩
  obtain ⟨pw', hpv⟩ : ∃ pv, (nfW n v).1 = pv := ⟨_, rfl⟩
  rw [hpu] at HN1 ⊢
  rw [hpv] at HN2 ⊢
  obtain ⟨X, hX⟩ : ∃ X, actT n u q1 = X := ⟨_, rfl⟩
  obtain ⟨Y, hY⟩ : ∃ Y, actT n v q2 = Y := ⟨_, rfl⟩
  rw [hX] at HA1 HTU ⊢
  rw [hY] at HA2 HTV ⊢
  have hn6 : n ≤ 6 := by omega
  have hnn : ((n : Int) == (n : Int)) = true := by simp
  have h00 : ((0 : Int) == 0) = true := rfl
  clear h1 h2 hu hv hoku hokv HEQ hq1 hq2 hpu hpv hX hY hu20 hv20
  go_enter Try.func12, Try.ntmps12
  have HC1 := hid_g (HN1.out w (Below.refl _ _))
  clear HN1
  go_wp2_with (first | (go_at_call 14; refine HC1.out.mono ?_; rintro e9 w1 ⟨a3, m3, c3, rfl, ho3, hb1⟩; refine Hid.out ?_))
  refine Lib.hid ?_
  have HB1 := hid_g hb1
  have HO3 := hid_g ho3
  have HC2 := hid_g (HN2.out w1 HB1.out)
  clear hb1 ho3 HC1 HN2
  go_wp2_with (first | (go_at_call 14; refine HC2.out.mono ?_; rintro e9 w2 ⟨a4, m4, c4, rfl, ho4, hb2⟩; refine Hid.out ?_))
  refine Lib.hid ?_
  have HB2 := hid_g (HB1.out.trans (hb2.mono HB1.out.size))
  have HO3b := hid_g (HO3.out.on hb2)
  have HO4 := hid_g ho4
  have HC3 := hid_g (HA1.out w2 HB2.out)
  clear hb2 ho4 HC2 HO3 HA1
  go_wp2_with (first | (go_at_call 20; refine HC3.out.mono ?_; rintro e9 w3 ⟨a5, c5, rfl, hx5, hb3⟩; refine Hid.out ?_))
  refine Lib.hid ?_
  have HB3 := hid_g (HB2.out.trans (hb3.mono HB2.out.size))
  have HO3c := hid_g (HO3b.out.on hb3)
  have HO4c := hid_g (HO4.out.on hb3)
  have HX5 := hid_g hx5
  have HC4 := hid_g (HA2.out w3 HB3.out)
  clear hb3 hx5 HC3 HO3b HO4 HA2
  go_wp2_with (first | (go_at_call 20; refine HC4.out.mono ?_; rintro e9 w4 ⟨a6, c6, rfl, hx6, hb4⟩; refine Hid.out ?_))
  refine Lib.hid ?_
  have HB4 := hid_g (HB3.out.trans (hb4.mono HB3.out.size))
  have HO3d := hid_g (HO3c.out.on hb4)
  have HO4d := hid_g (HO4c.out.on hb4)
  have HX5d := hid_g ((HX5.out.onG hb4).monoG hb4.size)
  have HX6 := hid_g hx6
  have HS4 := hid_g HB4.out.size
  clear hb4 hx6 HC4 HO3c HO4c HX5
  obtain ⟨K, hK⟩ : ∃ K, (nfW n u).2.reverse.map (eI n) = K := ⟨_, rfl⟩
  obtain ⟨L, hL⟩ : ∃ L, (nfW n v).2.reverse.map (eI n) = L := ⟨_, rfl⟩
  have HK1 := hid_g hK
  have HL1 := hid_g hL
  have HKR : Hid (IntsRd w4 w4.heap.size (.slice a3 m3 c3) K ∧ K.length = m3 ∧ m3 ≤ 20 ∧ ∀ j, j < m3 → (K.getD j []).length = n) := (by
    have l1 := HO3d.out.ln
    have l3 := HLU.out
    rw [← hK]
    exact ⟨HO3d.out.rd, by rw [List.length_map, List.length_reverse, l1], by omega, fun j hj => rows_len j (by rw [List.length_map, List.length_reverse, l1]; exact hj)⟩)
  have HLR : Hid (IntsRd w4 w4.heap.size (.slice a4 m4 c4) L ∧ L.length = m4 ∧ ∀ j, j < m4 → (L.getD j []).length = n) := (by
    have l1 := HO4d.out.ln
    rw [← hL]
    exact ⟨HO4d.out.rd, by rw [List.length_map, List.length_reverse, l1], fun j hj => rows_len j (by rw [List.length_map, List.length_reverse, l1]; exact hj)⟩)
  have hm3 : m3 ≤ 20 := HKR.out.2.2.1
  clear hK hL HO3d HO4d HLU
  obtain ⟨fm, hfm⟩ : ∃ fm, (decide (pu = pw') && decide (m3 = m4)) = fm := ⟨_, rfl⟩
  have HFM : Hid (FdAt (pu = pw') m3 m4 K L 0 fm) := (by
    rw [← hfm, ← Bool.decide_and]
    refine ⟨fun e => ⟨(of_decide_eq_true e).1, (of_decide_eq_true e).2, fun j hj => by omega⟩, fun e q => of_decide_eq_false e ⟨q.1, ?_⟩⟩
    rw [← HKR.out.2.1, ← HLR.out.2.1, q.2])
  go_upto_region 5 with (fail)
  go_cut [19] from 49 to 58 (fun s19 wx => s19 = .bool fm ∧ wx = w4)
  case first =>
    by_cases hp : pu = pw'
    · have hp2 : (pu == pw') = true := beq_iff_eq.2 hp
      by_cases hm : m3 = m4
      · have hm2 : ((m3 : Int) == (m4 : Int)) = true := by simp [hm]
        have E : Hid (true = fm) := (by rw [← hfm, decide_eq_true hp, decide_eq_true hm]; rfl : true = fm)
        clear hp hm hfm
        go_wp2
        go_meet
        exact ⟨by rw [← E.out], rfl⟩
      · have hm2 : ((m3 : Int) == (m4 : Int)) = false := by simp; omega
        have E : Hid (false = fm) := (by rw [← hfm, decide_eq_true hp, decide_eq_false hm]; rfl : false = fm)
        clear hp hm hfm
        go_wp2
        go_meet
        exact ⟨by rw [← E.out], rfl⟩
    · have hp2 : (pu == pw') = false := beq_eq_false_iff_ne.2 hp
      have E : Hid (false = fm) := (by rw [← hfm, decide_eq_false hp]; rfl : false = fm)
      clear hp hfm
      go_wp2
      go_meet
      exact ⟨by rw [← E.out], rfl⟩
  case rest =>
    obtain ⟨rfl, rfl⟩ := hcut
    clear hfm
    go_upto_region 6 with (fail)
    go_wp2
    go_loopw [19, 20] (fun v19 v20 wr => ∃ (k : Nat) (fm : Bool), k ≤ 20 ∧ v20 = .int .i64 (k : Nat) ∧ v19 = .bool fm ∧ Hid (FdAt (pu = pw') m3 m4 K L k fm) ∧ Hid (Below wc.heap.size wc wr)) (fun _ v20 _ => 20 - (intOf v20).toNat)
    case atStart => exact ⟨0, fm, by omega, rfl, rfl, HFM.out, Below.refl _ _⟩
    case round =>
      clear HFM
      rename World => W1
      obtain ⟨k, fq, hk20, rfl, rfl, hq, hb⟩ := hrel
      by_cases hk : k < m3
      · have hkI : (k : Int) < (m3 : Int) := by omega
        cases fq with
        | true =>
          have HMM : Hid (m3 = m4) := (hq.out.yes rfl).2.1
          obtain ⟨b1, o1, a7, c7, ea1, lt1, hc1, hr1⟩ := IntsRd.rowG (L := K) (a := a3) (c := c3) (by rw [HKR.out.2.1]; exact HKR.out.1) hb.out k (by rw [HKR.out.2.1]; exact hk)
          obtain ⟨b2, o2, a8, c8, ea2, lt2, hc2, hr2⟩ := IntsRd.rowG (L := L) (a := a4) (c := c4) (by rw [HLR.out.2.1]; exact HLR.out.1) hb.out k (by rw [HLR.out.2.1, ← HMM.out]; exact hk)
          obtain ⟨N1, hN1⟩ : ∃ N1, (K.getD k []).length = N1 := ⟨_, rfl⟩
          obtain ⟨N2, hN2⟩ : ∃ N2, (L.getD k []).length = N2 := ⟨_, rfl⟩
          have HNB : Hid (N1 ≤ 20000000000) := (by rw [← hN1]; exact by rw [HKR.out.2.2.2 k hk]; omega : N1 ≤ 20000000000)
          rw [hN1] at hc1 hr1
          rw [hN2] at hc2 hr2
          have HNX := hid_g hq.out.next
          have HCE := hid_g (fun W (hW : Below W1.heap.size W1 W) => equalK_any N1 N2 c7 c8 a7 a8 (K.getD k []) (L.getD k []) W hN1 hN2 HNB.out (((hr1.mono hb.out.size).on hW).mono hW.size) (((hr2.mono hb.out.size).on hW).mono hW.size))
          have lb1 : b1 < W1.heap.size := Nat.lt_of_lt_of_le lt1 hb.out.size
          have lb2 : b2 < W1.heap.size := Nat.lt_of_lt_of_le lt2 hb.out.size
          have HS : Hid (∀ W, Below W1.heap.size W1 W → (fun Z : World => Z.cell? ⟨b1, o1 + k, none⟩ = some (.slice a7 N1 c7) ∧ Z.cell? ⟨b2, o2 + k, none⟩ = some (.slice a8 N2 c8) ∧ b1 < Z.heap.size ∧ b2 < Z.heap.size) W) := fun W hW => ⟨bcell hW lb1 hc1, bcell hW lb2 hc2, Nat.lt_of_lt_of_le lb1 hW.size, Nat.lt_of_lt_of_le lb2 hW.size⟩
          have HD : Hid (Below W1.heap.size W1 W1.drew) := (Below.refl _ _).drew
          have HBB := hid_g hb.out
          generalize decide (K.getD k [] = L.getD k []) = fz at HNX HCE
          have hkI2 : (k : Int) < (m4 : Int) := by have := HMM.out; omega
          have hkN2 : k < m4 := by have := HMM.out; omega
          have hkI0 : (0 : Int) ≤ (k : Int) := by omega
          have ewk : IntKind.i64.wrap (k : Int) = (k : Int) := IntWalk.i64_in _ (by omega)
          subst ea1 ea2
          clear hc1 hr1 hc2 hr2 hN1 hN2 hq
          go_upto_region 9 with (fail)
          refine rhd HS HD.out (fun hHeld => ?_)
          refine tq 68 0 (h := ?_)
          simp only [List.setIfInBounds_toArray, List.set_cons_succ, List.set_cons_zero]
          refine tq 69 1 (h := ?_)
          simp only [List.setIfInBounds_toArray, List.set_cons_succ, List.set_cons_zero]
          refine tq 70 2 (h := ?_)
          simp only [List.setIfInBounds_toArray, List.set_cons_succ, List.set_cons_zero]
          refine tq 71 3 (h := ?_)
          simp only [List.setIfInBounds_toArray, List.set_cons_succ, List.set_cons_zero]
          refine tq 72 4 (h := ?_)
          simp only [List.setIfInBounds_toArray, List.set_cons_succ, List.set_cons_zero]
          refine tq 73 5 (h := ?_)
          simp only [List.setIfInBounds_toArray, List.set_cons_succ, List.set_cons_zero]
          refine tq 74 6 (h := ?_)
          simp only [List.setIfInBounds_toArray, List.set_cons_succ, List.set_cons_zero]
          refine tq 75 7 (h := ?_)
          simp only [List.setIfInBounds_toArray, List.set_cons_succ, List.set_cons_zero]
          clear hHeld
          have HCD := hid_g (HCE.out _ HD.out)
          refine rd1 8 ?_
          intro K0 hK0
          go_simp
          go_wp2_with (first | (go_at_call 21; refine HCD.out.mono ?_; rintro e9 w7 ⟨rfl, hb7⟩))
          have HB7 := hid_g (HD.out.trans (hb7.mono HD.out.size))
          refine hK0.out _ _ (HS.out _ HB7.out) (fun hHeld => ?_)
          clear hK0 K0 hb7 HCD HCE
          (try simp only [Act.put])
          (try simp only [List.getElem_toArray])
          (try simp only [List.getElem_cons_succ])
          (try simp only [List.getElem_cons_zero])
          (try simp only [List.setIfInBounds_toArray, List.set_cons_succ, List.set_cons_zero])
          refine tq 19 9 (h := ?_)
          simp only [List.setIfInBounds_toArray, List.set_cons_succ, List.set_cons_zero]
          refine wpAnyH_done (by kernel_rfl) ?_ _
          clear hHeld
          have HBN := hid_g (HBB.out.trans (HB7.out.mono HBB.out.size))
          clear HS HD HB7 HBB
          go_wp2
          go_roundw
          case rel => exact ⟨k + 1, fz, by omega, by go_num, rfl, HNX.out, HBN.out⟩
          case measure => simp only [intOf]; omega
        | false =>
          have HFE : Hid (false = (decide (pu = pw') && decide (K = L))) := hq.out.fin HKR.out.2.1 HLR.out.2.1 (fun e => by cases e)
          have HXR : Hid (IntsRd W1 W1.heap.size (.slice a5 n c5) X) := (HX5d.out.onG hb.out).monoG hb.out.size
          have HYR : Hid (IntsRd W1 W1.heap.size (.slice a6 n c6) Y) := (HX6.out.onG hb.out).monoG hb.out.size
          have HBW := hid_g hb.out
          clear hq hb
          go_wp2
          go_loopw [21, 22] (fun v21 v22 wr => ∃ (k : Nat) (fm : Bool), k ≤ 6 ∧ v22 = .int .i64 (k : Nat) ∧ v21 = .bool fm ∧ Hid (FdAt True n n X Y k fm) ∧ Hid (Below W1.heap.size W1 wr)) (fun _ v22 _ => 6 - (intOf v22).toNat)
          case atStart => exact ⟨0, true, by omega, rfl, rfl, ⟨fun _ => ⟨trivial, rfl, fun j hj => by omega⟩, fun e => by cases e⟩, Below.refl _ _⟩
          case round =>
            rename World => W1'
            obtain ⟨k, fs, hk6, rfl, rfl, hq, hb⟩ := hrel
            by_cases hk : k < n
            · have hkI : (k : Int) < (n : Int) := by omega
              cases fs with
              | true =>
                have HMM : Hid (n = n) := (hq.out.yes rfl).2.1
                obtain ⟨b1, o1, a7, c7, ea1, lt1, hc1, hr1⟩ := IntsRd.rowG (L := X) (a := a5) (c := c5) (by rw [HTU.out.1]; exact HXR.out) hb.out k (by rw [HTU.out.1]; exact hk)
                obtain ⟨b2, o2, a8, c8, ea2, lt2, hc2, hr2⟩ := IntsRd.rowG (L := Y) (a := a6) (c := c6) (by rw [HTV.out]; exact HYR.out) hb.out k (by rw [HTV.out, ← HMM.out]; exact hk)
                obtain ⟨N1, hN1⟩ : ∃ N1, (X.getD k []).length = N1 := ⟨_, rfl⟩
                obtain ⟨N2, hN2⟩ : ∃ N2, (Y.getD k []).length = N2 := ⟨_, rfl⟩
                have HNB : Hid (N1 ≤ 20000000000) := (by rw [← hN1]; exact HTU.out.2 k : N1 ≤ 20000000000)
                rw [hN1] at hc1 hr1
                rw [hN2] at hc2 hr2
                have HNX := hid_g hq.out.next
                have HCE := hid_g (fun W (hW : Below W1'.heap.size W1' W) => equalK_any N1 N2 c7 c8 a7 a8 (X.getD k []) (Y.getD k []) W hN1 hN2 HNB.out (((hr1.mono hb.out.size).on hW).mono hW.size) (((hr2.mono hb.out.size).on hW).mono hW.size))
                have lb1 : b1 < W1'.heap.size := Nat.lt_of_lt_of_le lt1 hb.out.size
                have lb2 : b2 < W1'.heap.size := Nat.lt_of_lt_of_le lt2 hb.out.size
                have HS : Hid (∀ W, Below W1'.heap.size W1' W → (fun Z : World => Z.cell? ⟨b1, o1 + k, none⟩ = some (.slice a7 N1 c7) ∧ Z.cell? ⟨b2, o2 + k, none⟩ = some (.slice a8 N2 c8) ∧ b1 < Z.heap.size ∧ b2 < Z.heap.size) W) := fun W hW => ⟨bcell hW lb1 hc1, bcell hW lb2 hc2, Nat.lt_of_lt_of_le lb1 hW.size, Nat.lt_of_lt_of_le lb2 hW.size⟩
                have HD : Hid (Below W1'.heap.size W1' W1'.drew) := (Below.refl _ _).drew
                have HBB := hid_g hb.out
                generalize decide (X.getD k [] = Y.getD k []) = fz at HNX HCE
                have hkI2 : (k : Int) < (n : Int) := by have := HMM.out; omega
                have hkN2 : k < n := by have := HMM.out; omega
                have hkI0 : (0 : Int) ≤ (k : Int) := by omega
                have ewk : IntKind.i64.wrap (k : Int) = (k : Int) := IntWalk.i64_in _ (by omega)
                subst ea1 ea2
                clear hc1 hr1 hc2 hr2 hN1 hN2 hq
                go_upto_region 14 with (fail)
                refine rhd HS HD.out (fun hHeld => ?_)
                refine tq 95 0 (h := ?_)
                simp only [List.setIfInBounds_toArray, List.set_cons_succ, List.set_cons_zero]
                refine tq 96 1 (h := ?_)
                simp only [List.setIfInBounds_toArray, List.set_cons_succ, List.set_cons_zero]
                refine tq 97 2 (h := ?_)
                simp only [List.setIfInBounds_toArray, List.set_cons_succ, List.set_cons_zero]
                refine tq 98 3 (h := ?_)
                simp only [List.setIfInBounds_toArray, List.set_cons_succ, List.set_cons_zero]
                refine tq 99 4 (h := ?_)
                simp only [List.setIfInBounds_toArray, List.set_cons_succ, List.set_cons_zero]
                refine tq 100 5 (h := ?_)
                simp only [List.setIfInBounds_toArray, List.set_cons_succ, List.set_cons_zero]
                refine tq 101 6 (h := ?_)
                simp only [List.setIfInBounds_toArray, List.set_cons_succ, List.set_cons_zero]
                refine tq 102 7 (h := ?_)
                simp only [List.setIfInBounds_toArray, List.set_cons_succ, List.set_cons_zero]
                clear hHeld
                have HCD := hid_g (HCE.out _ HD.out)
                refine rd1 8 ?_
                intro K0 hK0
                go_simp
                go_wp2_with (first | (go_at_call 21; refine HCD.out.mono ?_; rintro e9 w7 ⟨rfl, hb7⟩))
                have HB7 := hid_g (HD.out.trans (hb7.mono HD.out.size))
                refine hK0.out _ _ (HS.out _ HB7.out) (fun hHeld => ?_)
                clear hK0 K0 hb7 HCD HCE
                (try simp only [Act.put])
                (try simp only [List.getElem_toArray])
                (try simp only [List.getElem_cons_succ])
                (try simp only [List.getElem_cons_zero])
                (try simp only [List.setIfInBounds_toArray, List.set_cons_succ, List.set_cons_zero])
                refine tq 21 9 (h := ?_)
                simp only [List.setIfInBounds_toArray, List.set_cons_succ, List.set_cons_zero]
                refine wpAnyH_done (by kernel_rfl) ?_ _
                clear hHeld
                have HBN := hid_g (HBB.out.trans (HB7.out.mono HBB.out.size))
                clear HS HD HB7 HBB
                go_wp2
                go_roundw
                case rel => exact ⟨k + 1, fz, by omega, by go_num, rfl, HNX.out, HBN.out⟩
                case measure => simp only [intOf]; omega
              | false =>
                have HFN : Hid (false = decide (X = Y)) := (by have h3 := hq.out.fin HTU.out.1 HTV.out (fun e => by cases e); rw [h3]; simp : false = decide (X = Y))
                have HBF := hid_g (HB4.out.trans ((HBW.out.trans (hb.out.mono HBW.out.size)).mono HS4.out))
                clear hq hb
                go_wp2
                go_ret3
                exact ⟨by rw [HK1.out, HL1.out, ← HFE.out, ← HFN.out]; try rfl, HBF.out⟩
            · have hkI : decide ((k : Int) < (n : Int)) = false := decide_eq_false (by omega)
              have HFN : Hid (fs = decide (X = Y)) := (by have h3 := hq.out.fin HTU.out.1 HTV.out (fun _ => by omega); rw [h3]; simp : fs = decide (X = Y))
              have HBF := hid_g (HB4.out.trans ((HBW.out.trans (hb.out.mono HBW.out.size)).mono HS4.out))
              clear hq hb
              go_wp2
              go_ret3
              exact ⟨by rw [HK1.out, HL1.out, ← HFE.out, ← HFN.out]; try rfl, HBF.out⟩
      · have hkI : decide ((k : Int) < (m3 : Int)) = false := decide_eq_false (by omega)
        have HFE : Hid (fq = (decide (pu = pw') && decide (K = L))) := hq.out.fin HKR.out.2.1 HLR.out.2.1 (fun _ => by omega)
        have HXR : Hid (IntsRd W1 W1.heap.size (.slice a5 n c5) X) := (HX5d.out.onG hb.out).monoG hb.out.size
        have HYR : Hid (IntsRd W1 W1.heap.size (.slice a6 n c6) Y) := (HX6.out.onG hb.out).monoG hb.out.size
        have HBW := hid_g hb.out
        clear hq hb
        go_wp2
        go_loopw [21, 22] (fun v21 v22 wr => ∃ (k : Nat) (fm : Bool), k ≤ 6 ∧ v22 = .int .i64 (k : Nat) ∧ v21 = .bool fm ∧ Hid (FdAt True n n X Y k fm) ∧ Hid (Below W1.heap.size W1 wr)) (fun _ v22 _ => 6 - (intOf v22).toNat)
        case atStart => exact ⟨0, true, by omega, rfl, rfl, ⟨fun _ => ⟨trivial, rfl, fun j hj => by omega⟩, fun e => by cases e⟩, Below.refl _ _⟩
        case round =>
          rename World => W1'
          obtain ⟨k, fs, hk6, rfl, rfl, hq, hb⟩ := hrel
          by_cases hk : k < n
          · have hkI : (k : Int) < (n : Int) := by omega
            cases fs with
            | true =>
              have HMM : Hid (n = n) := (hq.out.yes rfl).2.1
              obtain ⟨b1, o1, a7, c7, ea1, lt1, hc1, hr1⟩ := IntsRd.rowG (L := X) (a := a5) (c := c5) (by rw [HTU.out.1]; exact HXR.out) hb.out k (by rw [HTU.out.1]; exact hk)
              obtain ⟨b2, o2, a8, c8, ea2, lt2, hc2, hr2⟩ := IntsRd.rowG (L := Y) (a := a6) (c := c6) (by rw [HTV.out]; exact HYR.out) hb.out k (by rw [HTV.out, ← HMM.out]; exact hk)
              obtain ⟨N1, hN1⟩ : ∃ N1, (X.getD k []).length = N1 := ⟨_, rfl⟩
              obtain ⟨N2, hN2⟩ : ∃ N2, (Y.getD k []).length = N2 := ⟨_, rfl⟩
              have HNB : Hid (N1 ≤ 20000000000) := (by rw [← hN1]; exact HTU.out.2 k : N1 ≤ 20000000000)
              rw [hN1] at hc1 hr1
              rw [hN2] at hc2 hr2
              have HNX := hid_g hq.out.next
              have HCE := hid_g (fun W (hW : Below W1'.heap.size W1' W) => equalK_any N1 N2 c7 c8 a7 a8 (X.getD k []) (Y.getD k []) W hN1 hN2 HNB.out (((hr1.mono hb.out.size).on hW).mono hW.size) (((hr2.mono hb.out.size).on hW).mono hW.size))
              have lb1 : b1 < W1'.heap.size := Nat.lt_of_lt_of_le lt1 hb.out.size
              have lb2 : b2 < W1'.heap.size := Nat.lt_of_lt_of_le lt2 hb.out.size
              have HS : Hid (∀ W, Below W1'.heap.size W1' W → (fun Z : World => Z.cell? ⟨b1, o1 + k, none⟩ = some (.slice a7 N1 c7) ∧ Z.cell? ⟨b2, o2 + k, none⟩ = some (.slice a8 N2 c8) ∧ b1 < Z.heap.size ∧ b2 < Z.heap.size) W) := fun W hW => ⟨bcell hW lb1 hc1, bcell hW lb2 hc2, Nat.lt_of_lt_of_le lb1 hW.size, Nat.lt_of_lt_of_le lb2 hW.size⟩
              have HD : Hid (Below W1'.heap.size W1' W1'.drew) := (Below.refl _ _).drew
              have HBB := hid_g hb.out
              generalize decide (X.getD k [] = Y.getD k []) = fz at HNX HCE
              have hkI2 : (k : Int) < (n : Int) := by have := HMM.out; omega
              have hkN2 : k < n := by have := HMM.out; omega
              have hkI0 : (0 : Int) ≤ (k : Int) := by omega
              have ewk : IntKind.i64.wrap (k : Int) = (k : Int) := IntWalk.i64_in _ (by omega)
              subst ea1 ea2
              clear hc1 hr1 hc2 hr2 hN1 hN2 hq
              go_upto_region 14 with (fail)
              refine rhd HS HD.out (fun hHeld => ?_)
              refine tq 95 0 (h := ?_)
              simp only [List.setIfInBounds_toArray, List.set_cons_succ, List.set_cons_zero]
              refine tq 96 1 (h := ?_)
              simp only [List.setIfInBounds_toArray, List.set_cons_succ, List.set_cons_zero]
              refine tq 97 2 (h := ?_)
              simp only [List.setIfInBounds_toArray, List.set_cons_succ, List.set_cons_zero]
              refine tq 98 3 (h := ?_)
              simp only [List.setIfInBounds_toArray, List.set_cons_succ, List.set_cons_zero]
              refine tq 99 4 (h := ?_)
              simp only [List.setIfInBounds_toArray, List.set_cons_succ, List.set_cons_zero]
              refine tq 100 5 (h := ?_)
              simp only [List.setIfInBounds_toArray, List.set_cons_succ, List.set_cons_zero]
              refine tq 101 6 (h := ?_)
              simp only [List.setIfInBounds_toArray, List.set_cons_succ, List.set_cons_zero]
              refine tq 102 7 (h := ?_)
              simp only [List.setIfInBounds_toArray, List.set_cons_succ, List.set_cons_zero]
              clear hHeld
              have HCD := hid_g (HCE.out _ HD.out)
              refine rd1 8 ?_
              intro K0 hK0
              go_simp
              go_wp2_with (first | (go_at_call 21; refine HCD.out.mono ?_; rintro e9 w7 ⟨rfl, hb7⟩))
              have HB7 := hid_g (HD.out.trans (hb7.mono HD.out.size))
              refine hK0.out _ _ (HS.out _ HB7.out) (fun hHeld => ?_)
              clear hK0 K0 hb7 HCD HCE
              (try simp only [Act.put])
              (try simp only [List.getElem_toArray])
              (try simp only [List.getElem_cons_succ])
              (try simp only [List.getElem_cons_zero])
              (try simp only [List.setIfInBounds_toArray, List.set_cons_succ, List.set_cons_zero])
              refine tq 21 9 (h := ?_)
              simp only [List.setIfInBounds_toArray, List.set_cons_succ, List.set_cons_zero]
              refine wpAnyH_done (by kernel_rfl) ?_ _
              clear hHeld
              have HBN := hid_g (HBB.out.trans (HB7.out.mono HBB.out.size))
              clear HS HD HB7 HBB
              go_wp2
              go_roundw
              case rel => exact ⟨k + 1, fz, by omega, by go_num, rfl, HNX.out, HBN.out⟩
              case measure => simp only [intOf]; omega
            | false =>
              have HFN : Hid (false = decide (X = Y)) := (by have h3 := hq.out.fin HTU.out.1 HTV.out (fun e => by cases e); rw [h3]; simp : false = decide (X = Y))
              have HBF := hid_g (HB4.out.trans ((HBW.out.trans (hb.out.mono HBW.out.size)).mono HS4.out))
              clear hq hb
              go_wp2
              go_ret3
              exact ⟨by rw [HK1.out, HL1.out, ← HFE.out, ← HFN.out]; try rfl, HBF.out⟩
          · have hkI : decide ((k : Int) < (n : Int)) = false := decide_eq_false (by omega)
            have HFN : Hid (fs = decide (X = Y)) := (by have h3 := hq.out.fin HTU.out.1 HTV.out (fun _ => by omega); rw [h3]; simp : fs = decide (X = Y))
            have HBF := hid_g (HB4.out.trans ((HBW.out.trans (hb.out.mono HBW.out.size)).mono HS4.out))
            clear hq hb
            go_wp2
            go_ret3
            exact ⟨by rw [HK1.out, HL1.out, ← HFE.out, ← HFN.out]; try rfl, HBF.out⟩
end Go.Proofs.Ytdlmhcickcgnfaa
