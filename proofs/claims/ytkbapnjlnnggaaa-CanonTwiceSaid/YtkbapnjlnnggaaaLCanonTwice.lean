/- The statement CanonTwice: its walk. -/
import Derived.Test.YtkbapnjlnnggaaaLCTaP
import Derived.Deep.RegionHeld
namespace Go.Proofs.Ytkbapnjlnnggaaa
open Go.RowKit

theorem walks_pos {C : List Cr} (h : 0 < C.length) : 0 < (walksM C).length := by
  have h1 := walks_once (nx C) (2 * C.length) 1 (Nat.le_refl _) (by omega)
  have h2 : (walksM C).flatten.count 1 = 1 := h1
  cases hw : walksM C with
  | nil => rw [hw] at h2; simp at h2
  | cons a l => simp
theorem nats_slice {w : World} {B : Nat} {v : Value} {L : List (List Nat)} (h : NatsOwn w B v L) : ∃ a cap, v = .slice a L.length cap := by
  obtain ⟨ys, hl, hr, -⟩ := h
  rw [hl] at hr
  obtain ⟨a, c, e⟩ := own_capS hr
  exact ⟨a, c, e⟩

set_option maxHeartbeats 16000000 in
set_option maxRecDepth 100000 in
theorem canonTwice_yes (v : Value) (C : List Cr) (loops part x y : Int) (w : World) (hm : mayD C loops = true) (h : Crs w w.heap.size v C) (hpt : -9223372036854775808 ≤ part ∧ part ≤ 9223372036854775807) (hx : -9223372036854775808 ≤ x ∧ x ≤ 9223372036854775807) (hy : -9223372036854775808 ≤ y ∧ y ≤ 9223372036854775807) :
    Calls Try.prog 3 #[.agg #[v, .int .i64 loops], .int .i64 part, .int .i64 x, .int .i64 y] w fun e w' => e = .returned (.bool true) ∧ Below w.heap.size w w' := by
  have HM : Hid (mayD C loops = true) := hm
  have HPT : Hid (-9223372036854775808 ≤ part ∧ part ≤ 9223372036854775807) := hpt
  have HXR : Hid (-9223372036854775808 ≤ x ∧ x ≤ 9223372036854775807) := hx
  have HYR : Hid (-9223372036854775808 ≤ y ∧ y ≤ 9223372036854775807) := hy
  obtain ⟨s1, s2, s3, s4⟩ := sizeB_iff (may_size hm)
  have hWl := (walksM_facts hm).1
  obtain ⟨a, cap, rfl⟩ := crs_slice h
  obtain ⟨X, hX⟩ : ∃ X, X = w.alloc (.cells #[.slice a C.length cap, .int .i64 loops] 24) := ⟨_, rfl⟩
  have HX : Hid (X = w.alloc (.cells #[.slice a C.length cap, .int .i64 loops] 24)) := hX
  obtain ⟨g1, b1⟩ := boxed h hX
  have HG : Hid (Good X (BoxP w.heap.size a cap C loops)) := g1
  have HBW : Hid (Below w.heap.size w X) := b1
  clear hX hm h g1 b1 hpt hx hy
  go_enter Try.func3, Try.ntmps3
  go_upto_region 3 with (go_at_call 8; rw [← HX.out]; refine (awake_any _).mono ?_; rintro e9 w1 ⟨rfl, hb1⟩)
  have HG1 : Hid (Good w1 (BoxP w.heap.size a cap C loops)) := HG.out.on hb1
  have H1 : Hid (Below w.heap.size w w1) := HBW.out.trans (hb1.mono HBW.out.size)
  clear hb1 HG HBW HX
  obtain ⟨-, p0, p1, p2⟩ := HG1.out.now
  go_upto_region 6 with (go_at_call 9; refine (codeMay_any _ C loops _ HG1.out.now.1).mono ?_; rw [HM.out]; rintro e9 w2 ⟨rfl, hb2⟩)
  have HG2 : Hid (Good w2 (BoxP w.heap.size a cap C loops)) := HG1.out.on hb2
  have H2 : Hid (Below w.heap.size w w2) := H1.out.trans (hb2.mono H1.out.size)
  clear hb2 p0 p1 p2 HG1 H1
  obtain ⟨-, p0, p1, p2⟩ := HG2.out.now
  go_upto_region 7 with (go_at_call 11; refine (planar_yes faceRingsA _ C loops _ HM.out HG2.out.now.1).mono ?_; rintro e9 w3 ⟨rfl, hb3⟩)
  have HG3 : Hid (Good w3 (BoxP w.heap.size a cap C loops)) := HG2.out.on hb3
  have H3 : Hid (Below w.heap.size w w3) := H2.out.trans (hb3.mono H2.out.size)
  clear hb3 p0 p1 p2 HG2 H2
  obtain ⟨-, p0, p1, p2⟩ := HG3.out.now
  obtain ⟨M, hMM⟩ : ∃ M, C.map mirX = M := ⟨_, rfl⟩
  have HMM : Hid (C.map mirX = M) := hMM
  have HMD : Hid (mayD M loops = true) := (by rw [← hMM]; exact mir_may HM.out : mayD M loops = true)
  clear hMM
  go_upto_region 8 with (go_at_call 10; refine (mirror_yes _ C loops _ HM.out HG3.out.now.1).mono ?_; rw [HMM.out]; rintro e9 w4 ⟨r, rfl, hc4, hb4⟩; obtain ⟨a4, cap4, e4⟩ := crs_slice hc4; subst e4)
  obtain ⟨Y, hY⟩ : ∃ Y, Y = w4.alloc (.cells #[.slice a4 M.length cap4, .int .i64 loops] 24) := ⟨_, rfl⟩
  rw [← hY]
  obtain ⟨gM, bY⟩ := boxed hc4 hY
  have HGM : Hid (Good Y (BoxP w4.heap.size a4 cap4 M loops)) := gM
  have HG4 : Hid (Good Y (BoxP w.heap.size a cap C loops)) := (HG3.out.on hb4).on bY
  have H4 : Hid (Below w.heap.size w Y) := (H3.out.trans (hb4.mono H3.out.size)).trans (bY.mono (Nat.le_trans H3.out.size hb4.size))
  clear hY hc4 hb4 gM bY p0 p1 p2 HG3 H3
  obtain ⟨-, q0, q1, q2⟩ := HGM.out.now
  go_upto_region 9 with (go_at_call 10; refine (mirror_yes _ M loops _ HMD.out HGM.out.now.1).mono ?_; rw [← HMM.out, mirC_mirC]; rintro e9 w5 ⟨r, rfl, hc5, hb5⟩; obtain ⟨a5, cap5, e5⟩ := crs_slice hc5; subst e5)
  obtain ⟨Z, hZ⟩ : ∃ Z, Z = w5.alloc (.cells #[.slice a5 C.length cap5, .int .i64 loops] 24) := ⟨_, rfl⟩
  rw [← hZ]
  obtain ⟨gB, bZ⟩ := boxed hc5 hZ
  have HGB : Hid (Good Z (BoxP w5.heap.size a5 cap5 C loops)) := gB
  have HGM5 : Hid (Good Z (BoxP w4.heap.size a4 cap4 M loops)) := (HGM.out.on hb5).on bZ
  have HG5 : Hid (Good Z (BoxP w.heap.size a cap C loops)) := (HG4.out.on hb5).on bZ
  have H5 : Hid (Below w.heap.size w Z) := (H4.out.trans (hb5.mono H4.out.size)).trans (bZ.mono (Nat.le_trans H4.out.size hb5.size))
  clear hZ hc5 hb5 gB bZ q0 q1 q2 HGM HG4 H4
  obtain ⟨-, q0, q1, q2⟩ := HGM5.out.now
  go_upto_region 10 with (go_at_call 11; refine (planar_yes faceRingsA _ M loops _ HMD.out HGM5.out.now.1).mono ?_; rw [← HMM.out, mir_planar HM.out]; rintro e9 w6 ⟨rfl, hb6⟩)
  have HGB6 : Hid (Good w6 (BoxP w5.heap.size a5 cap5 C loops)) := HGB.out.on hb6
  have HG6 : Hid (Good w6 (BoxP w.heap.size a cap C loops)) := HG5.out.on hb6
  have H6 : Hid (Below w.heap.size w w6) := H5.out.trans (hb6.mono H5.out.size)
  clear hb6 q0 q1 q2 HGB HGM5 HG5 H5 HMD HMM
  obtain ⟨-, p0, p1, p2⟩ := HG6.out.now
  obtain ⟨-, q0, q1, q2⟩ := HGB6.out.now
  obtain ⟨pl, hpl⟩ : ∃ pl, planarB C = pl := ⟨_, rfl⟩
  have HPL : Hid (planarB C = pl) := hpl
  rw [hpl]
  clear hpl
  have hpp : (pl != pl) = false := by cases pl <;> rfl
  go_upto_region 12 with (go_at_call 12; refine (alike_yes _ _ C loops _ HM.out HGB6.out.now.1 HG6.out.now.1).mono ?_; rintro e9 w7 ⟨rfl, hb7⟩)
  have HG7 : Hid (Good w7 (BoxP w.heap.size a cap C loops)) := HG6.out.on hb7
  have H7 : Hid (Below w.heap.size w w7) := H6.out.trans (hb7.mono H6.out.size)
  clear hb7 p0 p1 p2 q0 q1 q2 HGB6 HG6 H6
  obtain ⟨-, p0, p1, p2⟩ := HG7.out.now
  by_cases hn0 : C.length = 0
  · have hz : ((C.length : Int) == 0) = true := by rw [hn0]; rfl
    go_wp2
    go_ret
    exact ⟨rfl, H7.out⟩
  · have hz : ((C.length : Int) == 0) = false := beq_eq_false_iff_ne.2 (by omega)
    have hwp : 0 < (walksM C).length := walks_pos (by omega)
    go_upto_region 16 with (go_at_call 13; refine (strands_yes _ C loops _ HM.out HG7.out.now.1).mono ?_; rintro e9 w8 ⟨r, rfl, hc8, hb8⟩; obtain ⟨a8, cap8, e8⟩ := nats_slice hc8; subst e8)
    have HG8 : Hid (Good w8 (BoxP w.heap.size a cap C loops)) := HG7.out.on hb8
    have H8 : Hid (Below w.heap.size w w8) := H7.out.trans (hb8.mono H7.out.size)
    clear hb8 hc8 p0 p1 p2 HG7 H7
    obtain ⟨nW, hnW⟩ : ∃ nW, (walksM C).length = nW := ⟨_, rfl⟩
    have HNW : Hid ((walksM C).length = nW) := hnW
    rw [hnW] at hwp hWl ⊢
    clear hnW
    have hz2 : ((nW : Int) == 0) = false := beq_eq_false_iff_ne.2 (by omega)
    go_upto_region 19 with (go_at_call 14; refine (picked_any part nW _ HPT.out hwp (by omega)).mono ?_; rintro e9 w9 ⟨k, rfl, hk, e99⟩; obtain rfl := e99.symm; clear e99)
    obtain ⟨-, p0, p1, p2⟩ := HG8.out.now
    have HKW : Hid (k < (walksM C).length) := (by rw [HNW.out]; exact hk : k < (walksM C).length)
    obtain ⟨R, hR⟩ : ∃ R, revC ((walksM C).getD k []) C = R := ⟨_, rfl⟩
    have HMR : Hid (mayD R loops = true) := (by rw [← hR]; exact rev_may HM.out HKW.out : mayD R loops = true)
    have HLR : Hid ((walksM R).length = nW) := (by rw [← hR, (rev_walks HM.out HKW.out).1]; exact HNW.out : (walksM R).length = nW)
    have HRB : Hid (revC ((walksM R).getD k []) R = C) := (by rw [← hR]; exact rev_back HM.out HKW.out : revC ((walksM R).getD k []) R = C)
    have HRR : Hid (revC ((walksM C).getD k []) C = R) := hR
    clear hR
    go_upto_region 20 with (go_at_call 15; refine (reverse_some _ C loops k _ HM.out HG8.out.now.1 HKW.out).mono ?_; rw [HRR.out]; rintro e9 w10 ⟨r, rfl, hc10, hb10⟩; obtain ⟨a10, cap10, e10⟩ := crs_slice hc10; subst e10)
    obtain ⟨Y, hY⟩ : ∃ Y, Y = w10.alloc (.cells #[.slice a10 R.length cap10, .int .i64 loops] 24) := ⟨_, rfl⟩
    rw [← hY]
    obtain ⟨gR, bY⟩ := boxed hc10 hY
    have HGR : Hid (Good Y (BoxP w10.heap.size a10 cap10 R loops)) := gR
    have HG10 : Hid (Good Y (BoxP w.heap.size a cap C loops)) := (HG8.out.on hb10).on bY
    have H10 : Hid (Below w.heap.size w Y) := (H8.out.trans (hb10.mono H8.out.size)).trans (bY.mono (Nat.le_trans H8.out.size hb10.size))
    clear hY hc10 hb10 gR bY p0 p1 p2 HG8 H8 HRR
    obtain ⟨-, q0, q1, q2⟩ := HGR.out.now
    go_upto_region 21 with (go_at_call 13; refine (strands_yes _ R loops _ HMR.out HGR.out.now.1).mono ?_; rintro e9 w11 ⟨r, rfl, hc11, hb11⟩; obtain ⟨a11, cap11, e11⟩ := nats_slice hc11; subst e11)
    have HGR11 : Hid (Good w11 (BoxP w10.heap.size a10 cap10 R loops)) := HGR.out.on hb11
    have HG11 : Hid (Good w11 (BoxP w.heap.size a cap C loops)) := HG10.out.on hb11
    have H11 : Hid (Below w.heap.size w w11) := H10.out.trans (hb11.mono H10.out.size)
    clear hb11 hc11 q0 q1 q2 HGR HG10 H10
    obtain ⟨-, q0, q1, q2⟩ := HGR11.out.now
    rw [HLR.out]
    have hq : ((nW : Int) != (nW : Int)) = false := by simp
    have HKR : Hid (k < (walksM R).length) := (by rw [HLR.out]; exact hk : k < (walksM R).length)
    go_upto_region 24 with (go_at_call 15; refine (reverse_some _ R loops k _ HMR.out HGR11.out.now.1 HKR.out).mono ?_; rw [HRB.out]; rintro e9 w12 ⟨r, rfl, hc12, hb12⟩; obtain ⟨a12, cap12, e12⟩ := crs_slice hc12; subst e12)
    obtain ⟨Z, hZ⟩ : ∃ Z, Z = w12.alloc (.cells #[.slice a12 C.length cap12, .int .i64 loops] 24) := ⟨_, rfl⟩
    rw [← hZ]
    obtain ⟨gB, bZ⟩ := boxed hc12 hZ
    have HGB : Hid (Good Z (BoxP w12.heap.size a12 cap12 C loops)) := gB
    have HG12 : Hid (Good Z (BoxP w.heap.size a cap C loops)) := (HG11.out.on hb12).on bZ
    have H12 : Hid (Below w.heap.size w Z) := (H11.out.trans (hb12.mono H11.out.size)).trans (bZ.mono (Nat.le_trans H11.out.size hb12.size))
    clear hZ hc12 hb12 gB bZ q0 q1 q2 HGR11 HG11 H11
    obtain ⟨-, p0, p1, p2⟩ := HG12.out.now
    obtain ⟨-, q0, q1, q2⟩ := HGB.out.now
    go_upto_region 26 with (go_at_call 12; refine (alike_yes _ _ C loops _ HM.out HGB.out.now.1 HG12.out.now.1).mono ?_; rintro e9 w13 ⟨rfl, hb13⟩)
    have HG13 : Hid (Good w13 (BoxP w.heap.size a cap C loops)) := HG12.out.on hb13
    have H13 : Hid (Below w.heap.size w w13) := H12.out.trans (hb13.mono H12.out.size)
    clear hb13 p0 p1 p2 q0 q1 q2 HGB HG12 H12 HMR HLR HRB HKR HKW
    obtain ⟨-, p0, p1, p2⟩ := HG13.out.now
    by_cases h8 : (8 : Int) < (C.length : Int)
    · go_wp2
      go_ret
      exact ⟨rfl, H13.out⟩
    · by_cases h9 : 8 < loops
      · go_wp2
        go_ret
        exact ⟨rfl, H13.out⟩
      · have hdb : IntKind.i64.wrap (2 * (C.length : Int)) = ((2 * C.length : Nat) : Int) := by rw [IntWalk.i64_in _ (by omega)]; omega
        have HD : Hid (Below w13.heap.size w13 w13.drew) := below_drewN (Below.refl _ _) 1
        have HKP : Hid (∀ W, Below w13.heap.size w13 W → W.cell? ⟨w.heap.size, 0, none⟩ = some (.slice a C.length cap) ∧ W.cell? ⟨w.heap.size, 1, none⟩ = some (.int .i64 loops)) := fun W hW => ⟨(HG13.out W hW).2.1, (HG13.out W hW).2.2.1⟩
        have HPX : Hid (∀ W, Calls Try.prog 14 #[.int .i64 x, .int .i64 ((2 * C.length : Nat) : Int)] W fun e w' => ∃ r : Nat, e = .returned (.int .i64 (r : Nat)) ∧ r < 2 * C.length ∧ w' = W) := fun W => picked_any x (2 * C.length) W HXR.out (by omega) (by omega)
        have HPY : Hid (∀ W, Calls Try.prog 14 #[.int .i64 y, .int .i64 ((2 * C.length : Nat) : Int)] W fun e w' => ∃ r : Nat, e = .returned (.int .i64 (r : Nat)) ∧ r < 2 * C.length ∧ w' = W) := fun W => picked_any y (2 * C.length) W HYR.out (by omega) (by omega)
        have HSU : Hid (∀ (k1 k2 : Nat) (W : World), k1 < 2 * C.length → k2 < 2 * C.length → Below w13.heap.size w13 W → Calls Try.prog 16 #[.agg #[.slice a C.length cap, .int .i64 loops], .int .i64 ((k1 + 1 : Nat) : Int), .agg #[.slice a C.length cap, .int .i64 loops], .int .i64 ((k2 + 1 : Nat) : Int)] W fun e w' => ∃ (a16 : Option Addr) (cap16 : Nat) (T : List Cr) (l2 : Int), e = .returned (.tuple #[.agg #[.slice a16 T.length cap16, .int .i64 l2], .int .i64 0]) ∧ Hid (l2 = loops + loops ∧ T = tieC C C ((k1 + 1 : Nat) : Int) ((k2 + 1 : Nat) : Int)) ∧ Crs w' w'.heap.size (.slice a16 T.length cap16) T ∧ Below W.heap.size W w') := fun k1 k2 W h1 h2 hW => (sum_ok _ _ C C loops loops _ _ W (HG13.out W hW).1 (HG13.out W hW).1 HM.out HM.out (by unfold hasB; simp; omega) (by unfold hasB; simp; omega) (by omega) (by omega)).mono (by rintro e w' ⟨r, rfl, hc, hb⟩; obtain ⟨a16, cap16, e16⟩ := crs_slice hc; subst e16; exact ⟨a16, cap16, _, _, rfl, ⟨rfl, rfl⟩, hc, hb⟩)
        go_wp2
        refine wp_region_held_drew (S := fun w' => w'.cell? ⟨w.heap.size, 0, none⟩ = some (.slice a C.length cap) ∧ w'.cell? ⟨w.heap.size, 1, none⟩ = some (.int .i64 loops)) (by kernel_rfl) (HKP.out _ HD.out) (fun hHeld => ?_)
        refine wpAnyH_take (i := 0) (v := ?vv0a) rfl (by kernel_rfl) (by kernel_rfl) (by kernel_rfl) (fun _ _ _ h => h) (Or.inl ⟨by rfl, ?yy0a⟩) (by assumption) ?rr0a
        case yy0a => (intro w hSw; (try dsimp only at hSw); go_simp; (try with_reducible rfl))
        try simp only [Act.put]
        refine wpAnyH_take (i := 1) (v := ?vv1a) rfl (by kernel_rfl) (by kernel_rfl) (by kernel_rfl) (fun _ _ _ h => h) (Or.inl ⟨by rfl, ?yy1a⟩) (by assumption) ?rr1a
        case yy1a => (intro w hSw; (try dsimp only at hSw); go_simp; (try with_reducible rfl))
        try simp only [Act.put]
        refine wpAnyH_take (i := 2) (v := ?vv2a) rfl (by kernel_rfl) (by kernel_rfl) (by kernel_rfl) (fun _ _ _ h => h) (Or.inl ⟨by rfl, ?yy2a⟩) (by assumption) ?rr2a
        case yy2a => (intro w hSw; (try dsimp only at hSw); go_simp; (try with_reducible rfl))
        try simp only [Act.put]
        refine wpAnyH_take (i := 3) (v := ?vv3a) rfl (by kernel_rfl) (by kernel_rfl) (by kernel_rfl) (fun _ _ _ h => h) (Or.inl ⟨by rfl, ?yy3a⟩) (by assumption) ?rr3a
        case yy3a => (intro w hSw; (try dsimp only at hSw); go_simp; (try with_reducible rfl))
        try simp only [Act.put]
        refine wpAnyH_take (i := 6) (v := ?vv6a) rfl (by kernel_rfl) (by kernel_rfl) (by kernel_rfl) (fun _ _ _ h => h) (Or.inl ⟨by rfl, ?yy6a⟩) (by assumption) ?rr6a
        case yy6a => (intro w hSw; (try dsimp only at hSw); go_simp; (try with_reducible rfl))
        try simp only [Act.put]
        refine wpAnyH_take (i := 7) (v := ?vv7a) rfl (by kernel_rfl) (by kernel_rfl) (by kernel_rfl) (fun _ _ _ h => h) (Or.inl ⟨by rfl, ?yy7a⟩) (by assumption) ?rr7a
        case yy7a => (intro w hSw; (try dsimp only at hSw); go_simp; (try with_reducible rfl))
        try simp only [Act.put]
        refine wpAnyH_take (i := 8) (v := ?vv8a) rfl (by kernel_rfl) (by kernel_rfl) (by kernel_rfl) (fun _ _ _ h => h) (Or.inl ⟨by rfl, ?yy8a⟩) (by assumption) ?rr8a
        case yy8a => (intro w hSw; (try dsimp only at hSw); go_simp; (try with_reducible rfl))
        try simp only [Act.put]
        refine wpAnyH_take (i := 9) (v := ?vv9a) rfl (by kernel_rfl) (by kernel_rfl) (by kernel_rfl) (fun _ _ _ h => h) (Or.inl ⟨by rfl, ?yy9a⟩) (by assumption) ?rr9a
        case yy9a => (intro w hSw; (try dsimp only at hSw); go_simp; (try with_reducible rfl))
        try simp only [Act.put]
        refine wpAnyH_ready (rs := [4, 16]) (by kernel_rfl) (by simp) ?_
        refine AllReadyH.cons (i := 4) (rs := [16]) rfl (fun K hK => ?_) (AllReadyH.cons (i := 16) (rs := []) rfl (fun K hK => ?_) AllReadyH.nil)
        · go_simp
          go_wp2_with (go_at_call 14; refine (HPX.out _).mono ?_; rintro e9 w14 ⟨k1, rfl, hk1, e99⟩; obtain rfl := e99.symm; clear e99)
          refine hK.out _ _ (HKP.out _ HD.out) (fun hHeld => ?_)
          clear hK K
          try simp only [Act.put]
          have hd1 : IntKind.i64.wrap (1 + (k1 : Int)) = ((k1 + 1 : Nat) : Int) := (by rw [IntWalk.i64_in _ (by omega)]; omega)
          refine wpAnyH_take (i := 5) (v := ?vv5b) rfl (by kernel_rfl) (by kernel_rfl) (by kernel_rfl) (fun _ _ _ h => h) (Or.inl ⟨by rfl, ?yy5b⟩) (by assumption) ?rr5b
          case yy5b => (intro w hSw; (try dsimp only at hSw); go_simp; (try with_reducible rfl))
          try simp only [Act.put]
          refine wpAnyH_ready (rs := [10, 16]) (by kernel_rfl) (by simp) ?_
          refine AllReadyH.cons (i := 10) (rs := [16]) rfl (fun K hK => ?_) (AllReadyH.cons (i := 16) (rs := []) rfl (fun K hK => ?_) AllReadyH.nil)
          · go_simp
            go_wp2_with (go_at_call 14; refine (HPY.out _).mono ?_; rintro e9 w15 ⟨k2, rfl, hk2, e99⟩; obtain rfl := e99.symm; clear e99)
            refine hK.out _ _ (HKP.out _ HD.out) (fun hHeld => ?_)
            clear hK K
            try simp only [Act.put]
            have hd2 : IntKind.i64.wrap (1 + (k2 : Int)) = ((k2 + 1 : Nat) : Int) := (by rw [IntWalk.i64_in _ (by omega)]; omega)
            refine wpAnyH_take (i := 11) (v := ?vv11c) rfl (by kernel_rfl) (by kernel_rfl) (by kernel_rfl) (fun _ _ _ h => h) (Or.inl ⟨by rfl, ?yy11c⟩) (by assumption) ?rr11c
            case yy11c => (intro w hSw; (try dsimp only at hSw); go_simp; (try with_reducible rfl))
            try simp only [Act.put]
            refine wpAnyH_ready (rs := [12, 16]) (by kernel_rfl) (by simp) ?_
            refine AllReadyH.cons (i := 12) (rs := [16]) rfl (fun K hK => ?_) (AllReadyH.cons (i := 16) (rs := []) rfl (fun K hK => ?_) AllReadyH.nil)
            · go_simp
              go_wp2_with (go_at_call 16; refine (HSU.out k1 k2 _ hk1 hk2 HD.out).mono ?_; rintro e9 w16 ⟨a16, cap16, T, l2, rfl, HTT, hc16, hb16⟩)
              have HB16 : Hid (Below w13.heap.size w13 w16) := HD.out.trans (hb16.mono HD.out.size)
              have HC16 : Hid (Crs w16 w16.heap.size (.slice a16 T.length cap16) T) := hc16
              have HB16V : Hid (Below (w13.drew).heap.size (w13.drew) w16) := hb16
              clear hc16 hb16
              refine hK.out _ _ (HKP.out _ HB16.out) (fun hHeld => ?_)
              clear hK K
              try simp only [Act.put]
              refine wpAnyH_take (i := 13) (v := ?vv13d) rfl (by kernel_rfl) (by kernel_rfl) (by kernel_rfl) (fun _ _ _ h => h) (Or.inl ⟨by rfl, ?yy13d⟩) (by assumption) ?rr13d
              case yy13d => (intro w hSw; (try dsimp only at hSw); go_simp; (try with_reducible rfl))
              try simp only [Act.put]
              refine wpAnyH_take (i := 14) (v := ?vv14d) rfl (by kernel_rfl) (by kernel_rfl) (by kernel_rfl) (fun _ _ _ h => h) (Or.inl ⟨by rfl, ?yy14d⟩) (by assumption) ?rr14d
              case yy14d => (intro w hSw; (try dsimp only at hSw); go_simp; (try with_reducible rfl))
              try simp only [Act.put]
              refine wpAnyH_take (i := 15) (v := ?vv15d) rfl (by kernel_rfl) (by kernel_rfl) (by kernel_rfl) (fun _ _ _ h => h) (Or.inl ⟨by rfl, ?yy15d⟩) (by assumption) ?rr15d
              case yy15d => (intro w hSw; (try dsimp only at hSw); go_simp; (try with_reducible rfl))
              try simp only [Act.put]
              refine wpAnyH_ready (rs := [16]) (by kernel_rfl) (by simp) ?_
              refine AllReadyH.cons rfl (fun K hK => ?_) AllReadyH.nil
              go_simp
              have HBA : Hid (Below w13.heap.size w13 (w16.alloc (.cells #[.slice none 0 0, .int .i64 0] 24))) := HB16.out.alloc HB16.out.size _
              refine hK.out _ _ (HKP.out _ HBA.out) (fun hHeld => ?_)
              clear hK K
              try simp only [Act.put]
              have HBS : Hid (Below w13.heap.size w13 (w16.alloc (.cells #[.slice a16 (T).length cap16, .int .i64 l2] 24))) := HB16.out.alloc HB16.out.size _
              refine wpAnyH_ready (rs := [17]) (by kernel_rfl) (by simp) ?_
              refine AllReadyH.cons rfl (fun K hK => ?_) AllReadyH.nil
              go_simp
              refine hK.out _ _ (HKP.out _ HBS.out) (fun hHeld => ?_)
              clear hK K
              try simp only [Act.put]
              refine wpAnyH_take (i := 18) (v := ?vv18d) rfl (by kernel_rfl) (by kernel_rfl) (by kernel_rfl) (fun _ _ _ h => h) (Or.inl ⟨by rfl, ?yy18d⟩) (by assumption) ?rr18d
              case yy18d => (intro w hSw; (try dsimp only at hSw); go_simp; (try with_reducible rfl))
              try simp only [Act.put]
              refine wpAnyH_done (by kernel_rfl) ?_ _
              try simp only [Act.put]
              clear hHeld
              obtain ⟨U, hU⟩ : ∃ U, U = (w16.alloc (.cells #[.slice a16 (T).length cap16, .int .i64 l2] 24)) := ⟨_, rfl⟩
              have HGT : Hid (Good U (BoxP w16.heap.size a16 cap16 (T) l2)) := (boxed HC16.out hU).1
              have HFN : Hid (Below w.heap.size w U) := (by rw [hU]; exact H13.out.trans (HBS.out.mono H13.out.size) : Below w.heap.size w U)
              rw [← hU]
              clear hU HBS HBA HB16 HB16V HC16 HKP HD HPX HPY HSU HG13 p0 p1 p2
              have HMT : Hid (mayD T l2 = true) := (by rw [HTT.out.1, HTT.out.2]; exact tie_may HM.out HM.out (by omega) (by omega) (by omega) (by omega) (sizeB_two (by omega) (by omega) (by omega) (by omega)) : mayD T l2 = true)
              have HPT2 : Hid (planarB T = pl) := (by have h1 := tie_planar (l := l2) HM.out (x := k1 + 1) (y := k2 + 1) (by omega) (by omega) (by omega) (by omega) (by rw [← HTT.out.2]; exact HMT.out); rw [HTT.out.2, h1]; exact HPL.out : planarB T = pl)
              have HLT : Hid (T.length = 2 * C.length) := (by rw [HTT.out.2, tie_len]; omega : T.length = 2 * C.length)
              obtain ⟨-, t0, t1, t2⟩ := HGT.out.now
              have hE : ((T.length : Int) == ((2 * C.length : Nat) : Int)) = true := by rw [HLT.out]; exact beq_self_eq_true _
              have hE2 : ((T.length : Int) == 2 * (C.length : Int)) = true := by rw [HLT.out]; simp
              have hpe : (pl == pl) = true := by cases pl <;> rfl
              go_upto_region 30 with (go_at_call 11; refine (planar_yes faceRingsA _ T l2 _ HMT.out HGT.out.now.1).mono ?_; rw [HPT2.out]; rintro e9 w17 ⟨rfl, hb17⟩)
              have HGT17 : Hid (Good w17 (BoxP w16.heap.size a16 cap16 T l2)) := HGT.out.on hb17
              have HFN17 : Hid (Below w.heap.size w w17) := HFN.out.trans (hb17.mono HFN.out.size)
              clear hb17 t0 t1 t2 HGT HFN
              obtain ⟨-, t0, t1, t2⟩ := HGT17.out.now
              go_wp2_with (go_at_call 9; refine (codeMay_any _ T l2 _ HGT17.out.now.1).mono ?_; rw [HMT.out]; rintro e9 w18 ⟨rfl, hb18⟩; obtain ⟨-, u0, u1, u2⟩ := HGT17.out w18 hb18; refine Hid.out ?_)
              refine Lib.hid ?_
              have HFN18 : Hid (Below w.heap.size w w18) := HFN17.out.trans (hb18.mono HFN17.out.size)
              obtain ⟨-, u0, u1, u2⟩ := HGT17.out w18 hb18
              clear hb18
              go_wp2
              go_ret
              exact ⟨by first | rfl | simp, HFN18.out⟩
            · go_simp
              have HBA : Hid (Below w13.heap.size w13 (w13.drew.alloc (.cells #[.slice none 0 0, .int .i64 0] 24))) := HD.out.alloc (Nat.le_refl _) _
              have HTA : Hid ((w13.drew.alloc (.cells #[.slice none 0 0, .int .i64 0] 24)).heap[w13.drew.heap.size]? = some (.cells #[.slice none 0 0, .int .i64 0] 24 (0, 0))) := alloc_at rfl
              refine hK.out _ _ (HKP.out _ HBA.out) (fun hHeld => ?_)
              clear hK K
              try simp only [Act.put]
              refine wpAnyH_ready (rs := [12]) (by kernel_rfl) (by simp) ?_
              refine AllReadyH.cons rfl (fun K hK => ?_) AllReadyH.nil
              go_simp
              go_wp2_with (go_at_call 16; refine (HSU.out k1 k2 _ hk1 hk2 HBA.out).mono ?_; rintro e9 w16 ⟨a16, cap16, T, l2, rfl, HTT, hc16, hb16⟩)
              have HB16 : Hid (Below w13.heap.size w13 w16) := HBA.out.trans (hb16.mono HBA.out.size)
              have HC16 : Hid (Crs w16 w16.heap.size (.slice a16 T.length cap16) T) := hc16
              have HB16V : Hid (Below ((w13.drew.alloc (.cells #[.slice none 0 0, .int .i64 0] 24))).heap.size ((w13.drew.alloc (.cells #[.slice none 0 0, .int .i64 0] 24))) w16) := hb16
              clear hc16 hb16
              refine hK.out _ _ (HKP.out _ HB16.out) (fun hHeld => ?_)
              clear hK K
              try simp only [Act.put]
              refine wpAnyH_take (i := 13) (v := ?vv13e) rfl (by kernel_rfl) (by kernel_rfl) (by kernel_rfl) (fun _ _ _ h => h) (Or.inl ⟨by rfl, ?yy13e⟩) (by assumption) ?rr13e
              case yy13e => (intro w hSw; (try dsimp only at hSw); go_simp; (try with_reducible rfl))
              try simp only [Act.put]
              refine wpAnyH_take (i := 14) (v := ?vv14e) rfl (by kernel_rfl) (by kernel_rfl) (by kernel_rfl) (fun _ _ _ h => h) (Or.inl ⟨by rfl, ?yy14e⟩) (by assumption) ?rr14e
              case yy14e => (intro w hSw; (try dsimp only at hSw); go_simp; (try with_reducible rfl))
              try simp only [Act.put]
              refine wpAnyH_take (i := 15) (v := ?vv15e) rfl (by kernel_rfl) (by kernel_rfl) (by kernel_rfl) (fun _ _ _ h => h) (Or.inl ⟨by rfl, ?yy15e⟩) (by assumption) ?rr15e
              case yy15e => (intro w hSw; (try dsimp only at hSw); go_simp; (try with_reducible rfl))
              try simp only [Act.put]
              have HT16 : Hid (w16.heap[w13.heap.size]? = some (.cells #[.slice none 0 0, .int .i64 0] 24 (0, 0))) := (HB16V.out.block _ (Array.getElem?_eq_some_iff.1 HTA.out).1).trans HTA.out
              have z0 : w16.cell? ⟨w13.heap.size, 0, none⟩ = some (.slice none 0 0) := block_cell HT16.out rfl
              have z1 : w16.cell? ⟨w13.heap.size, 1, none⟩ = some (.int .i64 0) := block_cell HT16.out rfl
              have z2 : w13.heap.size < w16.heap.size := (Array.getElem?_eq_some_iff.1 HT16.out).1
              have z3 : w16.frozen? ⟨w13.heap.size, 0, none⟩ = false := block_frozen HT16.out
              have z4 : w16.frozen? ⟨w13.heap.size, 1, none⟩ = false := block_frozen HT16.out
              have HBS : Hid (Below w13.heap.size w13 ((w16.setCell ⟨w13.heap.size, 0, none⟩ (.slice a16 (T).length cap16)).setCell ⟨w13.heap.size, 1, none⟩ (.int .i64 l2))) := below_st2 HB16.out HB16.out.size (Nat.le_refl _)
              refine wpAnyH_ready (rs := [17]) (by kernel_rfl) (by simp) ?_
              refine AllReadyH.cons rfl (fun K hK => ?_) AllReadyH.nil
              go_simp
              refine hK.out _ _ (HKP.out _ HBS.out) (fun hHeld => ?_)
              clear hK K z0 z1 z2 z3 z4
              try simp only [Act.put]
              refine wpAnyH_take (i := 18) (v := ?vv18e) rfl (by kernel_rfl) (by kernel_rfl) (by kernel_rfl) (fun _ _ _ h => h) (Or.inl ⟨by rfl, ?yy18e⟩) (by assumption) ?rr18e
              case yy18e => (intro w hSw; (try dsimp only at hSw); go_simp; (try with_reducible rfl))
              try simp only [Act.put]
              refine wpAnyH_done (by kernel_rfl) ?_ _
              try simp only [Act.put]
              clear hHeld
              obtain ⟨U, hU⟩ : ∃ U, U = ((w16.setCell ⟨w13.heap.size, 0, none⟩ (.slice a16 (T).length cap16)).setCell ⟨w13.heap.size, 1, none⟩ (.int .i64 l2)) := ⟨_, rfl⟩
              have HGT : Hid (Good U (BoxP w13.heap.size a16 cap16 (T) l2)) := (by rw [hU]; exact stored HT16.out HC16.out : Good U (BoxP w13.heap.size a16 cap16 (T) l2))
              have HFN : Hid (Below w.heap.size w U) := (by rw [hU]; exact H13.out.trans (HBS.out.mono H13.out.size) : Below w.heap.size w U)
              rw [← hU]
              clear hU HBS HT16 HTA HBA HB16 HB16V HC16 HKP HD HPX HPY HSU HG13 p0 p1 p2
              have HMT : Hid (mayD T l2 = true) := (by rw [HTT.out.1, HTT.out.2]; exact tie_may HM.out HM.out (by omega) (by omega) (by omega) (by omega) (sizeB_two (by omega) (by omega) (by omega) (by omega)) : mayD T l2 = true)
              have HPT2 : Hid (planarB T = pl) := (by have h1 := tie_planar (l := l2) HM.out (x := k1 + 1) (y := k2 + 1) (by omega) (by omega) (by omega) (by omega) (by rw [← HTT.out.2]; exact HMT.out); rw [HTT.out.2, h1]; exact HPL.out : planarB T = pl)
              have HLT : Hid (T.length = 2 * C.length) := (by rw [HTT.out.2, tie_len]; omega : T.length = 2 * C.length)
              obtain ⟨-, t0, t1, t2⟩ := HGT.out.now
              have hE : ((T.length : Int) == ((2 * C.length : Nat) : Int)) = true := by rw [HLT.out]; exact beq_self_eq_true _
              have hE2 : ((T.length : Int) == 2 * (C.length : Int)) = true := by rw [HLT.out]; simp
              have hpe : (pl == pl) = true := by cases pl <;> rfl
              go_upto_region 30 with (go_at_call 11; refine (planar_yes faceRingsA _ T l2 _ HMT.out HGT.out.now.1).mono ?_; rw [HPT2.out]; rintro e9 w17 ⟨rfl, hb17⟩)
              have HGT17 : Hid (Good w17 (BoxP w13.heap.size a16 cap16 T l2)) := HGT.out.on hb17
              have HFN17 : Hid (Below w.heap.size w w17) := HFN.out.trans (hb17.mono HFN.out.size)
              clear hb17 t0 t1 t2 HGT HFN
              obtain ⟨-, t0, t1, t2⟩ := HGT17.out.now
              go_wp2_with (go_at_call 9; refine (codeMay_any _ T l2 _ HGT17.out.now.1).mono ?_; rw [HMT.out]; rintro e9 w18 ⟨rfl, hb18⟩; obtain ⟨-, u0, u1, u2⟩ := HGT17.out w18 hb18; refine Hid.out ?_)
              refine Lib.hid ?_
              have HFN18 : Hid (Below w.heap.size w w18) := HFN17.out.trans (hb18.mono HFN17.out.size)
              obtain ⟨-, u0, u1, u2⟩ := HGT17.out w18 hb18
              clear hb18
              go_wp2
              go_ret
              exact ⟨by first | rfl | simp, HFN18.out⟩
          · go_simp
            have HBA : Hid (Below w13.heap.size w13 (w13.drew.alloc (.cells #[.slice none 0 0, .int .i64 0] 24))) := HD.out.alloc (Nat.le_refl _) _
            have HTA : Hid ((w13.drew.alloc (.cells #[.slice none 0 0, .int .i64 0] 24)).heap[w13.drew.heap.size]? = some (.cells #[.slice none 0 0, .int .i64 0] 24 (0, 0))) := alloc_at rfl
            refine hK.out _ _ (HKP.out _ HBA.out) (fun hHeld => ?_)
            clear hK K
            try simp only [Act.put]
            refine wpAnyH_ready (rs := [10]) (by kernel_rfl) (by simp) ?_
            refine AllReadyH.cons rfl (fun K hK => ?_) AllReadyH.nil
            go_simp
            go_wp2_with (go_at_call 14; refine (HPY.out _).mono ?_; rintro e9 w15 ⟨k2, rfl, hk2, e99⟩; obtain rfl := e99.symm; clear e99)
            refine hK.out _ _ (HKP.out _ HBA.out) (fun hHeld => ?_)
            clear hK K
            try simp only [Act.put]
            have hd2 : IntKind.i64.wrap (1 + (k2 : Int)) = ((k2 + 1 : Nat) : Int) := (by rw [IntWalk.i64_in _ (by omega)]; omega)
            refine wpAnyH_take (i := 11) (v := ?vv11f) rfl (by kernel_rfl) (by kernel_rfl) (by kernel_rfl) (fun _ _ _ h => h) (Or.inl ⟨by rfl, ?yy11f⟩) (by assumption) ?rr11f
            case yy11f => (intro w hSw; (try dsimp only at hSw); go_simp; (try with_reducible rfl))
            try simp only [Act.put]
            refine wpAnyH_ready (rs := [12]) (by kernel_rfl) (by simp) ?_
            refine AllReadyH.cons rfl (fun K hK => ?_) AllReadyH.nil
            go_simp
            go_wp2_with (go_at_call 16; refine (HSU.out k1 k2 _ hk1 hk2 HBA.out).mono ?_; rintro e9 w16 ⟨a16, cap16, T, l2, rfl, HTT, hc16, hb16⟩)
            have HB16 : Hid (Below w13.heap.size w13 w16) := HBA.out.trans (hb16.mono HBA.out.size)
            have HC16 : Hid (Crs w16 w16.heap.size (.slice a16 T.length cap16) T) := hc16
            have HB16V : Hid (Below ((w13.drew.alloc (.cells #[.slice none 0 0, .int .i64 0] 24))).heap.size ((w13.drew.alloc (.cells #[.slice none 0 0, .int .i64 0] 24))) w16) := hb16
            clear hc16 hb16
            refine hK.out _ _ (HKP.out _ HB16.out) (fun hHeld => ?_)
            clear hK K
            try simp only [Act.put]
            refine wpAnyH_take (i := 13) (v := ?vv13f) rfl (by kernel_rfl) (by kernel_rfl) (by kernel_rfl) (fun _ _ _ h => h) (Or.inl ⟨by rfl, ?yy13f⟩) (by assumption) ?rr13f
            case yy13f => (intro w hSw; (try dsimp only at hSw); go_simp; (try with_reducible rfl))
            try simp only [Act.put]
            refine wpAnyH_take (i := 14) (v := ?vv14f) rfl (by kernel_rfl) (by kernel_rfl) (by kernel_rfl) (fun _ _ _ h => h) (Or.inl ⟨by rfl, ?yy14f⟩) (by assumption) ?rr14f
            case yy14f => (intro w hSw; (try dsimp only at hSw); go_simp; (try with_reducible rfl))
            try simp only [Act.put]
            refine wpAnyH_take (i := 15) (v := ?vv15f) rfl (by kernel_rfl) (by kernel_rfl) (by kernel_rfl) (fun _ _ _ h => h) (Or.inl ⟨by rfl, ?yy15f⟩) (by assumption) ?rr15f
            case yy15f => (intro w hSw; (try dsimp only at hSw); go_simp; (try with_reducible rfl))
            try simp only [Act.put]
            have HT16 : Hid (w16.heap[w13.heap.size]? = some (.cells #[.slice none 0 0, .int .i64 0] 24 (0, 0))) := (HB16V.out.block _ (Array.getElem?_eq_some_iff.1 HTA.out).1).trans HTA.out
            have z0 : w16.cell? ⟨w13.heap.size, 0, none⟩ = some (.slice none 0 0) := block_cell HT16.out rfl
            have z1 : w16.cell? ⟨w13.heap.size, 1, none⟩ = some (.int .i64 0) := block_cell HT16.out rfl
            have z2 : w13.heap.size < w16.heap.size := (Array.getElem?_eq_some_iff.1 HT16.out).1
            have z3 : w16.frozen? ⟨w13.heap.size, 0, none⟩ = false := block_frozen HT16.out
            have z4 : w16.frozen? ⟨w13.heap.size, 1, none⟩ = false := block_frozen HT16.out
            have HBS : Hid (Below w13.heap.size w13 ((w16.setCell ⟨w13.heap.size, 0, none⟩ (.slice a16 (T).length cap16)).setCell ⟨w13.heap.size, 1, none⟩ (.int .i64 l2))) := below_st2 HB16.out HB16.out.size (Nat.le_refl _)
            refine wpAnyH_ready (rs := [17]) (by kernel_rfl) (by simp) ?_
            refine AllReadyH.cons rfl (fun K hK => ?_) AllReadyH.nil
            go_simp
            refine hK.out _ _ (HKP.out _ HBS.out) (fun hHeld => ?_)
            clear hK K z0 z1 z2 z3 z4
            try simp only [Act.put]
            refine wpAnyH_take (i := 18) (v := ?vv18f) rfl (by kernel_rfl) (by kernel_rfl) (by kernel_rfl) (fun _ _ _ h => h) (Or.inl ⟨by rfl, ?yy18f⟩) (by assumption) ?rr18f
            case yy18f => (intro w hSw; (try dsimp only at hSw); go_simp; (try with_reducible rfl))
            try simp only [Act.put]
            refine wpAnyH_done (by kernel_rfl) ?_ _
            try simp only [Act.put]
            clear hHeld
            obtain ⟨U, hU⟩ : ∃ U, U = ((w16.setCell ⟨w13.heap.size, 0, none⟩ (.slice a16 (T).length cap16)).setCell ⟨w13.heap.size, 1, none⟩ (.int .i64 l2)) := ⟨_, rfl⟩
            have HGT : Hid (Good U (BoxP w13.heap.size a16 cap16 (T) l2)) := (by rw [hU]; exact stored HT16.out HC16.out : Good U (BoxP w13.heap.size a16 cap16 (T) l2))
            have HFN : Hid (Below w.heap.size w U) := (by rw [hU]; exact H13.out.trans (HBS.out.mono H13.out.size) : Below w.heap.size w U)
            rw [← hU]
            clear hU HBS HT16 HTA HBA HB16 HB16V HC16 HKP HD HPX HPY HSU HG13 p0 p1 p2
            have HMT : Hid (mayD T l2 = true) := (by rw [HTT.out.1, HTT.out.2]; exact tie_may HM.out HM.out (by omega) (by omega) (by omega) (by omega) (sizeB_two (by omega) (by omega) (by omega) (by omega)) : mayD T l2 = true)
            have HPT2 : Hid (planarB T = pl) := (by have h1 := tie_planar (l := l2) HM.out (x := k1 + 1) (y := k2 + 1) (by omega) (by omega) (by omega) (by omega) (by rw [← HTT.out.2]; exact HMT.out); rw [HTT.out.2, h1]; exact HPL.out : planarB T = pl)
            have HLT : Hid (T.length = 2 * C.length) := (by rw [HTT.out.2, tie_len]; omega : T.length = 2 * C.length)
            obtain ⟨-, t0, t1, t2⟩ := HGT.out.now
            have hE : ((T.length : Int) == ((2 * C.length : Nat) : Int)) = true := by rw [HLT.out]; exact beq_self_eq_true _
            have hE2 : ((T.length : Int) == 2 * (C.length : Int)) = true := by rw [HLT.out]; simp
            have hpe : (pl == pl) = true := by cases pl <;> rfl
            go_upto_region 30 with (go_at_call 11; refine (planar_yes faceRingsA _ T l2 _ HMT.out HGT.out.now.1).mono ?_; rw [HPT2.out]; rintro e9 w17 ⟨rfl, hb17⟩)
            have HGT17 : Hid (Good w17 (BoxP w13.heap.size a16 cap16 T l2)) := HGT.out.on hb17
            have HFN17 : Hid (Below w.heap.size w w17) := HFN.out.trans (hb17.mono HFN.out.size)
            clear hb17 t0 t1 t2 HGT HFN
            obtain ⟨-, t0, t1, t2⟩ := HGT17.out.now
            go_wp2_with (go_at_call 9; refine (codeMay_any _ T l2 _ HGT17.out.now.1).mono ?_; rw [HMT.out]; rintro e9 w18 ⟨rfl, hb18⟩; obtain ⟨-, u0, u1, u2⟩ := HGT17.out w18 hb18; refine Hid.out ?_)
            refine Lib.hid ?_
            have HFN18 : Hid (Below w.heap.size w w18) := HFN17.out.trans (hb18.mono HFN17.out.size)
            obtain ⟨-, u0, u1, u2⟩ := HGT17.out w18 hb18
            clear hb18
            go_wp2
            go_ret
            exact ⟨by first | rfl | simp, HFN18.out⟩
        · go_simp
          have HBA : Hid (Below w13.heap.size w13 (w13.drew.alloc (.cells #[.slice none 0 0, .int .i64 0] 24))) := HD.out.alloc (Nat.le_refl _) _
          have HTA : Hid ((w13.drew.alloc (.cells #[.slice none 0 0, .int .i64 0] 24)).heap[w13.drew.heap.size]? = some (.cells #[.slice none 0 0, .int .i64 0] 24 (0, 0))) := alloc_at rfl
          refine hK.out _ _ (HKP.out _ HBA.out) (fun hHeld => ?_)
          clear hK K
          try simp only [Act.put]
          refine wpAnyH_ready (rs := [4]) (by kernel_rfl) (by simp) ?_
          refine AllReadyH.cons rfl (fun K hK => ?_) AllReadyH.nil
          go_simp
          go_wp2_with (go_at_call 14; refine (HPX.out _).mono ?_; rintro e9 w14 ⟨k1, rfl, hk1, e99⟩; obtain rfl := e99.symm; clear e99)
          refine hK.out _ _ (HKP.out _ HBA.out) (fun hHeld => ?_)
          clear hK K
          try simp only [Act.put]
          have hd1 : IntKind.i64.wrap (1 + (k1 : Int)) = ((k1 + 1 : Nat) : Int) := (by rw [IntWalk.i64_in _ (by omega)]; omega)
          refine wpAnyH_take (i := 5) (v := ?vv5g) rfl (by kernel_rfl) (by kernel_rfl) (by kernel_rfl) (fun _ _ _ h => h) (Or.inl ⟨by rfl, ?yy5g⟩) (by assumption) ?rr5g
          case yy5g => (intro w hSw; (try dsimp only at hSw); go_simp; (try with_reducible rfl))
          try simp only [Act.put]
          refine wpAnyH_ready (rs := [10]) (by kernel_rfl) (by simp) ?_
          refine AllReadyH.cons rfl (fun K hK => ?_) AllReadyH.nil
          go_simp
          go_wp2_with (go_at_call 14; refine (HPY.out _).mono ?_; rintro e9 w15 ⟨k2, rfl, hk2, e99⟩; obtain rfl := e99.symm; clear e99)
          refine hK.out _ _ (HKP.out _ HBA.out) (fun hHeld => ?_)
          clear hK K
          try simp only [Act.put]
          have hd2 : IntKind.i64.wrap (1 + (k2 : Int)) = ((k2 + 1 : Nat) : Int) := (by rw [IntWalk.i64_in _ (by omega)]; omega)
          refine wpAnyH_take (i := 11) (v := ?vv11g) rfl (by kernel_rfl) (by kernel_rfl) (by kernel_rfl) (fun _ _ _ h => h) (Or.inl ⟨by rfl, ?yy11g⟩) (by assumption) ?rr11g
          case yy11g => (intro w hSw; (try dsimp only at hSw); go_simp; (try with_reducible rfl))
          try simp only [Act.put]
          refine wpAnyH_ready (rs := [12]) (by kernel_rfl) (by simp) ?_
          refine AllReadyH.cons rfl (fun K hK => ?_) AllReadyH.nil
          go_simp
          go_wp2_with (go_at_call 16; refine (HSU.out k1 k2 _ hk1 hk2 HBA.out).mono ?_; rintro e9 w16 ⟨a16, cap16, T, l2, rfl, HTT, hc16, hb16⟩)
          have HB16 : Hid (Below w13.heap.size w13 w16) := HBA.out.trans (hb16.mono HBA.out.size)
          have HC16 : Hid (Crs w16 w16.heap.size (.slice a16 T.length cap16) T) := hc16
          have HB16V : Hid (Below ((w13.drew.alloc (.cells #[.slice none 0 0, .int .i64 0] 24))).heap.size ((w13.drew.alloc (.cells #[.slice none 0 0, .int .i64 0] 24))) w16) := hb16
          clear hc16 hb16
          refine hK.out _ _ (HKP.out _ HB16.out) (fun hHeld => ?_)
          clear hK K
          try simp only [Act.put]
          refine wpAnyH_take (i := 13) (v := ?vv13g) rfl (by kernel_rfl) (by kernel_rfl) (by kernel_rfl) (fun _ _ _ h => h) (Or.inl ⟨by rfl, ?yy13g⟩) (by assumption) ?rr13g
          case yy13g => (intro w hSw; (try dsimp only at hSw); go_simp; (try with_reducible rfl))
          try simp only [Act.put]
          refine wpAnyH_take (i := 14) (v := ?vv14g) rfl (by kernel_rfl) (by kernel_rfl) (by kernel_rfl) (fun _ _ _ h => h) (Or.inl ⟨by rfl, ?yy14g⟩) (by assumption) ?rr14g
          case yy14g => (intro w hSw; (try dsimp only at hSw); go_simp; (try with_reducible rfl))
          try simp only [Act.put]
          refine wpAnyH_take (i := 15) (v := ?vv15g) rfl (by kernel_rfl) (by kernel_rfl) (by kernel_rfl) (fun _ _ _ h => h) (Or.inl ⟨by rfl, ?yy15g⟩) (by assumption) ?rr15g
          case yy15g => (intro w hSw; (try dsimp only at hSw); go_simp; (try with_reducible rfl))
          try simp only [Act.put]
          have HT16 : Hid (w16.heap[w13.heap.size]? = some (.cells #[.slice none 0 0, .int .i64 0] 24 (0, 0))) := (HB16V.out.block _ (Array.getElem?_eq_some_iff.1 HTA.out).1).trans HTA.out
          have z0 : w16.cell? ⟨w13.heap.size, 0, none⟩ = some (.slice none 0 0) := block_cell HT16.out rfl
          have z1 : w16.cell? ⟨w13.heap.size, 1, none⟩ = some (.int .i64 0) := block_cell HT16.out rfl
          have z2 : w13.heap.size < w16.heap.size := (Array.getElem?_eq_some_iff.1 HT16.out).1
          have z3 : w16.frozen? ⟨w13.heap.size, 0, none⟩ = false := block_frozen HT16.out
          have z4 : w16.frozen? ⟨w13.heap.size, 1, none⟩ = false := block_frozen HT16.out
          have HBS : Hid (Below w13.heap.size w13 ((w16.setCell ⟨w13.heap.size, 0, none⟩ (.slice a16 (T).length cap16)).setCell ⟨w13.heap.size, 1, none⟩ (.int .i64 l2))) := below_st2 HB16.out HB16.out.size (Nat.le_refl _)
          refine wpAnyH_ready (rs := [17]) (by kernel_rfl) (by simp) ?_
          refine AllReadyH.cons rfl (fun K hK => ?_) AllReadyH.nil
          go_simp
          refine hK.out _ _ (HKP.out _ HBS.out) (fun hHeld => ?_)
          clear hK K z0 z1 z2 z3 z4
          try simp only [Act.put]
          refine wpAnyH_take (i := 18) (v := ?vv18g) rfl (by kernel_rfl) (by kernel_rfl) (by kernel_rfl) (fun _ _ _ h => h) (Or.inl ⟨by rfl, ?yy18g⟩) (by assumption) ?rr18g
          case yy18g => (intro w hSw; (try dsimp only at hSw); go_simp; (try with_reducible rfl))
          try simp only [Act.put]
          refine wpAnyH_done (by kernel_rfl) ?_ _
          try simp only [Act.put]
          clear hHeld
          obtain ⟨U, hU⟩ : ∃ U, U = ((w16.setCell ⟨w13.heap.size, 0, none⟩ (.slice a16 (T).length cap16)).setCell ⟨w13.heap.size, 1, none⟩ (.int .i64 l2)) := ⟨_, rfl⟩
          have HGT : Hid (Good U (BoxP w13.heap.size a16 cap16 (T) l2)) := (by rw [hU]; exact stored HT16.out HC16.out : Good U (BoxP w13.heap.size a16 cap16 (T) l2))
          have HFN : Hid (Below w.heap.size w U) := (by rw [hU]; exact H13.out.trans (HBS.out.mono H13.out.size) : Below w.heap.size w U)
          rw [← hU]
          clear hU HBS HT16 HTA HBA HB16 HB16V HC16 HKP HD HPX HPY HSU HG13 p0 p1 p2
          have HMT : Hid (mayD T l2 = true) := (by rw [HTT.out.1, HTT.out.2]; exact tie_may HM.out HM.out (by omega) (by omega) (by omega) (by omega) (sizeB_two (by omega) (by omega) (by omega) (by omega)) : mayD T l2 = true)
          have HPT2 : Hid (planarB T = pl) := (by have h1 := tie_planar (l := l2) HM.out (x := k1 + 1) (y := k2 + 1) (by omega) (by omega) (by omega) (by omega) (by rw [← HTT.out.2]; exact HMT.out); rw [HTT.out.2, h1]; exact HPL.out : planarB T = pl)
          have HLT : Hid (T.length = 2 * C.length) := (by rw [HTT.out.2, tie_len]; omega : T.length = 2 * C.length)
          obtain ⟨-, t0, t1, t2⟩ := HGT.out.now
          have hE : ((T.length : Int) == ((2 * C.length : Nat) : Int)) = true := by rw [HLT.out]; exact beq_self_eq_true _
          have hE2 : ((T.length : Int) == 2 * (C.length : Int)) = true := by rw [HLT.out]; simp
          have hpe : (pl == pl) = true := by cases pl <;> rfl
          go_upto_region 30 with (go_at_call 11; refine (planar_yes faceRingsA _ T l2 _ HMT.out HGT.out.now.1).mono ?_; rw [HPT2.out]; rintro e9 w17 ⟨rfl, hb17⟩)
          have HGT17 : Hid (Good w17 (BoxP w13.heap.size a16 cap16 T l2)) := HGT.out.on hb17
          have HFN17 : Hid (Below w.heap.size w w17) := HFN.out.trans (hb17.mono HFN.out.size)
          clear hb17 t0 t1 t2 HGT HFN
          obtain ⟨-, t0, t1, t2⟩ := HGT17.out.now
          go_wp2_with (go_at_call 9; refine (codeMay_any _ T l2 _ HGT17.out.now.1).mono ?_; rw [HMT.out]; rintro e9 w18 ⟨rfl, hb18⟩; obtain ⟨-, u0, u1, u2⟩ := HGT17.out w18 hb18; refine Hid.out ?_)
          refine Lib.hid ?_
          have HFN18 : Hid (Below w.heap.size w w18) := HFN17.out.trans (hb18.mono HFN17.out.size)
          obtain ⟨-, u0, u1, u2⟩ := HGT17.out w18 hb18
          clear hb18
          go_wp2
          go_ret
          exact ⟨by first | rfl | simp, HFN18.out⟩

theorem canonTwice_any (v : Value) (C : List Cr) (loops part x y : Int) (w : World) (h : Crs w w.heap.size v C) (hpt : -9223372036854775808 ≤ part ∧ part ≤ 9223372036854775807) (hx : -9223372036854775808 ≤ x ∧ x ≤ 9223372036854775807) (hy : -9223372036854775808 ≤ y ∧ y ≤ 9223372036854775807) :
    Calls Try.prog 3 #[.agg #[v, .int .i64 loops], .int .i64 part, .int .i64 x, .int .i64 y] w fun e w' => e = .returned (.bool true) ∧ Below w.heap.size w w' := by
  cases hm : mayD C loops with
  | false => exact canonTwice_no v C loops part x y w hm h
  | true => exact canonTwice_yes v C loops part x y w hm h hpt hx hy
end Go.Proofs.Ytkbapnjlnnggaaa
