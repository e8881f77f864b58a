/- The walk of the law knotworkkeep.PolyDets itself: it answers true. -/
import Derived.Test.YthbhllomikfbhaaDoorXF5
import Derived.Test.YthbhllomikfbhaaDoorXG1
import Derived.Deep.RegionHeld3
namespace Go.Proofs.YthbhllomikfbhaaDoor.Poly
open Go.RowKit Go.Maps

set_option maxHeartbeats 400000 in
theorem plus_own (v1 v2 : Value) (l1 l2 : List (Int × Int)) (w : World) (hm1 : mayB l1 = true) (hm2 : mayB l2 = true) (hP1 : Poly w w.heap.size v1 l1) (hP2 : Poly w w.heap.size v2 l2) :
    Calls Tryd.prog 17 #[v1, v2] w fun e w' => ∃ v, e = .returned v ∧ w'.ownsRow w.heap.size 36 2 v (addL l1 l2).length (flat (addL l1 l2)) ∧ Below w.heap.size w w' := by
  have HP1 : Hid (Poly w w.heap.size v1 l1) := hP1
  have HP2 : Hid (Poly w w.heap.size v2 l2) := hP2
  have HM1 : Hid (mayB l1 = true) := hm1
  have HM2 : Hid (mayB l2 = true) := hm2
  clear hP1 hP2 hm1 hm2
  go_enter Tryd.func17, Tryd.ntmps17
  go_wp2_with (go_at_call 30; refine (add_yes v1 v2 l1 l2 w HM1.out HM2.out HP1.out HP2.out).mono ?_; rintro r w1 ⟨v, m, rfl, hrow, hcan, hml, hb1⟩)
  go_ret
  have e := add_canon hcan
  subst e
  exact ⟨v, rfl, hrow, hb1⟩

/-- Where the places of a table lie. -/
theorem tab_at {w : World} {B : Nat} {v : Value} {T : List (List (List (Int × Int)))} (h : Table w B v T) (hT : T.length = 3) (hR : ∀ i, i < 3 → (T.getD i []).length = 3) :
    ∃ b off cap, v = .slice (some ⟨b, off, none⟩) 3 cap ∧ b < B ∧ ∀ r, r < 3 → ∃ br offr capr, w.cell? ⟨b, off + r, none⟩ = some (.slice (some ⟨br, offr, none⟩) 3 capr) ∧ br < B ∧
      ∀ k, k < 3 → ∃ pv, w.cell? ⟨br, offr + k, none⟩ = some pv ∧ Poly w B pv ((T.getD r []).getD k []) := by
  obtain ⟨rs, hrl, ⟨a, cap, rfl, g⟩, hRow⟩ := h
  rw [hT] at hrl
  rw [hrl] at g
  obtain ⟨b, off, rfl, hb, hc⟩ := g (by omega)
  refine ⟨b, off, cap, by rw [hrl], hb, fun r hr => ?_⟩
  obtain ⟨ps, hpl, ⟨a2, cap2, hv2, g2⟩, hP⟩ := hRow r (by omega)
  rw [hR r hr] at hpl
  rw [hpl] at g2 hv2
  obtain ⟨b2, off2, rfl, hb2, hc2⟩ := g2 (by omega)
  refine ⟨b2, off2, cap2, by rw [hc r hr, hv2], hb2, fun k hk => ⟨_, hc2 k hk, hP k (by rw [hR r hr]; exact hk)⟩⟩

theorem two_good_may {l : List (Int × Int)} (h : Two l) : mayB l = true := fine_may h.1 (by decide) (by decide) (by decide)
theorem table_nil (w : World) (B : Nat) : Table w B (.slice none 0 0) [] := ⟨[], rfl, ⟨none, 0, rfl, fun h => absurd h (by simp)⟩, fun i hi => absurd hi (by simp)⟩
theorem good_nil : GoodT [] 0 := ⟨rfl, fun R h => by cases h⟩
theorem canon_one' : Canon [((0 : Int), (1 : Int))] (detOf []) := by
  refine ⟨List.pairwise_singleton _ _, fun x c => ?_⟩
  have e : detOf [] x = oneF x := rfl
  rw [e]
  unfold oneF
  simp only [List.mem_singleton, Prod.mk.injEq]
  constructor
  · rintro ⟨rfl, rfl⟩; simp
  · rintro ⟨h1, h2⟩
    by_cases h0 : x = 0
    · rw [if_pos h0] at h1; exact ⟨h0, h1.symm⟩
    · rw [if_neg h0] at h1; exact absurd h1.symm h2

set_option maxHeartbeats 8000000 in
set_option maxRecDepth 100000 in
theorem dets_any (v1 v2 : Value) (w : World) (h1 : RawT w w.heap.size v1) (h2 : RawT w w.heap.size v2) :
    Calls Tryd.prog 6 #[v1, v2] w fun e w' => e = .returned (.bool true) ∧ Below w.heap.size w w' := by
  obtain ⟨i1, hi, hz0, hz1, hz2⟩ := info_parts infoPoly
  obtain ⟨i2, hj, hy0, hy1, hy2⟩ := info_parts infoRow
  have H1 : Hid (RawT w w.heap.size v1) := h1
  have H2 : Hid (RawT w w.heap.size v2) := h2
  clear h1 h2
  go_enter Tryd.func6, Tryd.ntmps6
  go_wp2_with (go_at_call 21; refine (table_any v1 _ H1.out).mono ?_; rintro e9 w1 ⟨va, TA, rfl, hTA, hA, hb1⟩; refine Hid.out ?_)
  refine Lib.hid ?_
  have HB1 : Hid (Below w.heap.size w w1) := hb1
  have HTA : Hid (TwoT TA) := hTA
  have HA : Hid (Table w1 w1.heap.size va TA) := hA
  have H21 : Hid (RawT w1 w1.heap.size v2) := H2.out.up hb1
  clear hb1 hTA hA
  go_wp2_with (go_at_call 21; refine (table_any v2 _ H21.out).mono ?_; rintro e9 w2 ⟨vb, TB, rfl, hTB, hB, hb2⟩; refine Hid.out ?_)
  refine Lib.hid ?_
  have HB2 : Hid (Below w.heap.size w w2) := HB1.out.trans (hb2.mono HB1.out.size)
  have HTB : Hid (TwoT TB) := hTB
  have HTAB : Hid (Table w2 w2.heap.size va TA) := HA.out.up hb2
  have HTBB : Hid (Table w2 w2.heap.size vb TB) := hB
  clear hTB hB hb2 HA H21 H1 H2 HB1
  obtain ⟨ba, offa, capa, rfl, hba, hca⟩ := tab_at HTAB.out HTA.out.1 (fun i hi => (HTA.out.2 i hi).1)
  obtain ⟨bb, offb, capb, rfl, hbb, hcb⟩ := tab_at HTBB.out HTB.out.1 (fun i hi => (HTB.out.2 i hi).1)
  have HCA : Hid (∀ r, r < 3 → ∃ br offr capr, w2.cell? ⟨ba, offa + r, none⟩ = some (.slice (some ⟨br, offr, none⟩) 3 capr) ∧ br < w2.heap.size ∧ ∀ k, k < 3 → ∃ pv, w2.cell? ⟨br, offr + k, none⟩ = some pv ∧ Poly w2 w2.heap.size pv ((TA.getD r []).getD k [])) := hca
  have HCB : Hid (∀ r, r < 3 → ∃ br offr capr, w2.cell? ⟨bb, offb + r, none⟩ = some (.slice (some ⟨br, offr, none⟩) 3 capr) ∧ br < w2.heap.size ∧ ∀ k, k < 3 → ∃ pv, w2.cell? ⟨br, offr + k, none⟩ = some pv ∧ Poly w2 w2.heap.size pv ((TB.getD r []).getD k [])) := hcb
  clear hca hcb
  go_wp2
  go_loopw [8, 9] (fun vc i wr => ∃ (r : Nat) (zs : List Value) (T : List (List (List (Int × Int)))), r ≤ 3 ∧ i = .int .i64 r ∧ zs.length = r ∧ T.length = r ∧ wr.ownsRow w2.heap.size 44 1 vc zs.length zs ∧
      Hid (∀ i, i < r → RowOwn wr w2.heap.size (zs.getD i (.bool false)) (T.getD i [])) ∧ Hid (∀ i, i < r → (T.getD i []).length = 3 ∧ ∀ j, j < 3 → (T.getD i []).getD j [] = sumK TA TB i j 3) ∧ Below w2.heap.size w2 wr) (fun _ i _ => 3 - (intOf i).toNat)
  case atStart => exact ⟨0, [], [], Nat.zero_le _, rfl, rfl, rfl, World.ownsRow_nil _ _ _ _, fun i hi => absurd hi (Nat.not_lt_zero _), fun i hi => absurd hi (Nat.not_lt_zero _), Below.refl _ _⟩
  case round =>
    rename World => W1
    obtain ⟨r, zs, T, hrn, rfl, hzl, hTl, hown, hrows, hfin, hb⟩ := hrel
    by_cases hlt : r < 3
    · have hszW := hb.size
      have HOW : Hid (W1.ownsRow w2.heap.size 44 1 _ zs.length zs) := hown
      have HRW : Hid (∀ i, i < r → RowOwn W1 w2.heap.size (zs.getD i (.bool false)) (T.getD i [])) := hrows
      have HBW : Hid (Below w2.heap.size w2 W1) := hb
      obtain ⟨bar, offar, capar, ca0, hbar, hca1⟩ := HCA.out r hlt
      have HCA0 : Hid (w2.cell? ⟨ba, offa + r, none⟩ = some (.slice (some ⟨bar, offar, none⟩) 3 capar)) := ca0
      have HCA1 : Hid (∀ k, k < 3 → ∃ pv, w2.cell? ⟨bar, offar + k, none⟩ = some pv ∧ Poly w2 w2.heap.size pv ((TA.getD r []).getD k [])) := hca1
      clear hown hrows ca0 hca1
      have hdr : decide ((r : Int) < 3) = true := by simp; omega
      go_wp2
      go_loopw [10, 11] (fun vr i ws => ∃ (c : Nat) (ys : List Value) (R : List (List (Int × Int))), c ≤ 3 ∧ i = .int .i64 c ∧ ys.length = c ∧ R.length = c ∧ ws.ownsRow W1.heap.size 22 1 vr ys.length ys ∧
          Hid (∀ j, j < c → ws.ownsRow W1.heap.size 36 2 (ys.getD j (.bool false)) (R.getD j []).length (flat (R.getD j []))) ∧ Hid (∀ j, j < c → R.getD j [] = sumK TA TB r j 3) ∧ Below W1.heap.size W1 ws) (fun _ i _ => 3 - (intOf i).toNat)
      case atStart => exact ⟨0, [], [], Nat.zero_le _, rfl, rfl, rfl, World.ownsRow_nil _ _ _ _, fun i hi => absurd hi (Nat.not_lt_zero _), fun i hi => absurd hi (Nat.not_lt_zero _), Below.refl _ _⟩
      case round =>
        clear hb
        rename World => W2
        obtain ⟨c, ys, R, hcn, rfl, hyl, hRl, hown, hpol, hfr, hb⟩ := hrel
        have hszX := hb.size
        by_cases hcl : c < 3
        · have HOR : Hid (W2.ownsRow W1.heap.size 22 1 _ ys.length ys) := hown
          have HPL : Hid (∀ j, j < c → W2.ownsRow W1.heap.size 36 2 (ys.getD j (.bool false)) (R.getD j []).length (flat (R.getD j []))) := hpol
          have HFR : Hid (∀ j, j < c → R.getD j [] = sumK TA TB r j 3) := hfr
          have HBI : Hid (Below W1.heap.size W1 W2) := hb
          have HB2X : Hid (Below w2.heap.size w2 W2) := HBW.out.trans (hb.mono hszW)
          clear hown hpol hfr hb
          have hdc : decide ((c : Int) < 3) = true := by simp; omega
          go_wp2
          go_loopw [12, 13] (fun vs i ws => ∃ (k : Nat), k ≤ 3 ∧ i = .int .i64 k ∧ Hid (ws.ownsRow W2.heap.size 36 2 vs (sumK TA TB r c k).length (flat (sumK TA TB r c k))) ∧ Below W2.heap.size W2 ws) (fun _ i _ => 3 - (intOf i).toNat)
          case atStart => exact ⟨0, Nat.zero_le _, rfl, World.ownsRow_nil _ _ _ _, Below.refl _ _⟩
          case round =>
            rename World => W3
            obtain ⟨k, hkn, rfl, hownS, hb⟩ := hrel
            have hszY := hb.size
            by_cases hkl : k < 3
            · have HB3 : Hid (Below w2.heap.size w2 W3) := HB2X.out.trans (hb.mono (by omega))
              obtain ⟨pa, ca1, hPa⟩ := HCA1.out k hkl
              obtain ⟨bbk, offbk, capbk, cb0, hbbk, hcb1⟩ := HCB.out k hkl
              obtain ⟨pb, cb1, hPb⟩ := hcb1 c hcl
              have d0 := bcell HB3.out hba HCA0.out
              have d1 := bcell HB3.out hbar ca1
              have d2 := bcell HB3.out hbb cb0
              have d3 := bcell HB3.out hbbk cb1
              have e0 : ba < W3.heap.size := by omega
              have e1 : bar < W3.heap.size := by omega
              have e2 : bb < W3.heap.size := by omega
              have e3 : bbk < W3.heap.size := by omega
              have HPA : Hid (Poly W3 W3.heap.size pa ((TA.getD r []).getD k [])) := (hPa.on HB3.out).mono HB3.out.size
              have HPB : Hid (Poly W3 W3.heap.size pb ((TB.getD k []).getD c [])) := (hPb.on HB3.out).mono HB3.out.size
              have HPS : Hid (Poly W3 W3.heap.size _ (sumK TA TB r c k)) := Poly.ofRow hownS.out
              have HTWA : Hid (Two ((TA.getD r []).getD k [])) := (HTA.out.2 r hlt).2 k hkl
              have HTWB : Hid (Two ((TB.getD k []).getD c [])) := (HTB.out.2 k hkl).2 c hcl
              have HMS : Hid (mayB (sumK TA TB r c k) = true) := sumK_may HTA.out HTB.out r c k hlt hcl (by omega)
              have HST : Hid (sumK TA TB r c (k + 1) = addL (sumK TA TB r c k) (mulL ((TA.getD r []).getD k []) ((TB.getD k []).getD c []))) := (rfl : sumK TA TB r c (k + 1) = addL (sumK TA TB r c k) (mulL ((TA.getD r []).getD k []) ((TB.getD k []).getD c [])))
              clear ca1 cb0 hcb1 cb1 hPa hPb
              generalize (TA.getD r []).getD k [] = la at HPA HTWA HST
              generalize (TB.getD k []).getD c [] = lb at HPB HTWB HST
              have hdk : decide ((k : Int) < 3) = true := by simp; omega
              have hk0 : (0 : Int) ≤ (k : Int) := by omega
              have hk3 : (k : Int) < 3 := by omega
              have hr0 : (0 : Int) ≤ (r : Int) := by omega
              have hr3 : (r : Int) < 3 := by omega
              have hc0 : (0 : Int) ≤ (c : Int) := by omega
              have hc3 : (c : Int) < 3 := by omega
              go_wp2
              go_region_held3 (fun w' => w'.cell? ⟨ba, offa + r, none⟩ = some (.slice (some ⟨bar, offar, none⟩) 3 capar) ∧ w'.cell? ⟨bar, offar + k, none⟩ = some pa ∧ w'.cell? ⟨bb, offb + k, none⟩ = some (.slice (some ⟨bbk, offbk, none⟩) 3 capbk) ∧ w'.cell? ⟨bbk, offbk + c, none⟩ = some pb)
                (first
                  | exact ⟨bcell HB6.out e0 d0, bcell HB6.out e1 d1, bcell HB6.out e2 d2, bcell HB6.out e3 d3⟩
                  | exact ⟨bcell HB5.out e0 d0, bcell HB5.out e1 d1, bcell HB5.out e2 d2, bcell HB5.out e3 d3⟩
                  | exact ⟨d0, d1, d2, d3⟩)
                (first
                  | (go_at_call 18; refine (times_poly pa pb la lb _ (two_good_may HTWA.out) (two_good_may HTWB.out) (HPA.out.up (Below.refl _ _).drew) (HPB.out.up (Below.refl _ _).drew)).mono ?_; rintro e9 w5 ⟨vm, rfl, hPm, hb5⟩
                     have HPM : Hid (Poly w5 w5.heap.size vm (mulL la lb)) := hPm
                     have HPS5 : Hid (Poly w5 w5.heap.size _ (sumK TA TB r c k)) := (HPS.out.up (Below.refl _ _).drew).up hb5
                     have HB5 : Hid (Below W3.heap.size W3 w5) := (Below.refl _ _).drew.trans hb5
                     clear hPm hb5)
                  | (go_at_call 17; refine (plus_own _ vm (sumK TA TB r c k) (mulL la lb) _ HMS.out (mul_may HTWA.out HTWB.out) HPS5.out HPM.out).mono ?_; rintro e9 w6 ⟨vn, rfl, hownN, hb6⟩
                     have HB6 : Hid (Below W3.heap.size W3 w6) := HB5.out.trans (hb6.mono HB5.out.size)))
              all_goals go_wp2
              all_goals go_roundw
              all_goals first | (simp only [intOf]; omega) | skip
              all_goals refine ⟨k + 1, by omega, by go_num, ?_, hb.trans (HB6.out.mono hszY)⟩
              all_goals
                show World.ownsRow _ _ _ _ _ _ _
                rw [HST.out]
                exact own_low hownN (Nat.le_trans hszY HB5.out.size)
            · obtain rfl : k = 3 := by omega
              obtain ⟨s, hs⟩ : ∃ s, sumK TA TB r c 3 = s := ⟨_, rfl⟩
              have HS : Hid (s = sumK TA TB r c 3) := hs.symm
              rw [hs] at hownS
              have hownS2 := hownS.out
              obtain ⟨a7, c7, rfl⟩ := own_capS hownS2
              have hsl : s.length ≤ 64 := by have := ((may_iff _).1 (sumK_may HTA.out HTB.out r c 3 hlt hcl (Nat.le_refl _))).1; rw [hs] at this; exact this
              have hgx : W2.grownBy W3 none := grown_below hb none
              have hown3 := own_any HOR.out hgx
              have HPO : Hid (∀ j, j < c → W3.ownsRow W1.heap.size 36 2 (ys.getD j (.bool false)) (R.getD j []).length (flat (R.getD j []))) := fun j hj => own_any (HPL.out j hj) hgx
              have HO7 : Hid (W3.ownsRow W1.heap.size 36 2 (.slice a7 s.length c7) s.length (flat s)) := own_low hownS2 hszX
              have HON : Hid (∀ u ∈ [Value.slice a7 s.length c7], u.oneCell' = true) := own_oneS hownS2
              have HBX : Hid (Below W1.heap.size W1 W3) := HBI.out.trans (hb.mono hszX)
              clear hownS hownS2 hb hgx hs
              go_wp2_with (first
                | (at_builtin; refine wpList_append_own _ rfl _ _ 44 rfl W1.heap.size 22 i1 (.slice none 0 0) 1 24 Tryd.underlying44 hi hz0 hz1 hz2 rfl (by decide) _ _ _ rfl (hown3.alloc _) ⟨W3.heap.size, 0, none⟩ 1 1 [Value.slice a7 s.length c7] rfl rfl (new_cell1 _ _ _) HON.out (by unfold maxLen; omega) (by omega) (by simp; omega) ?_; intro v8 w8 hown8 hg8 _; go_frame))
              go_roundw
              case rel =>
                refine ⟨c + 1, ys ++ [Value.slice a7 s.length c7], R ++ [s], by omega, by go_num, by simp; omega, by simp; omega, by rw [List.length_append]; exact hown8, fun j hj => ?_, fun j hj => ?_, (HBX.out.alloc (by omega) _).grown hg8 (by simp; omega) (fun q hq => (hown3.lt q hq).1)⟩
                · by_cases hjk : j < c
                  · rw [getD_left ys _ j (by omega), getL_left R s j (by omega)]
                    have h1 := (HPO.out j hjk).alloc (.cells #[Value.slice a7 s.length c7] 22)
                    exact h1.kept hg8 (own_ne h1 (hown3.alloc _) (by decide))
                  · have ej : j = ys.length := by omega
                    have ej2 : j = R.length := by omega
                    have h1 := HO7.out.alloc (.cells #[Value.slice a7 s.length c7] 22)
                    have e2 : (ys ++ [Value.slice a7 s.length c7]).getD j (.bool false) = Value.slice a7 s.length c7 := by rw [ej]; exact getD_last ys _
                    have e3 : (R ++ [s]).getD j [] = s := by rw [ej2]; exact getL_last R s
                    rw [e2, e3]
                    exact h1.kept hg8 (own_ne h1 (hown3.alloc _) (by decide))
                · by_cases hjk : j < c
                  · rw [getL_left R s j (by omega)]; exact HFR.out j hjk
                  · have ej2 : j = R.length := by omega
                    have ej3 : j = c := by omega
                    have e3 : (R ++ [s]).getD j [] = s := by rw [ej2]; exact getL_last R s
                    rw [e3, HS.out, ej3]
              case measure => simp only [intOf]; omega
        · obtain rfl : c = 3 := by omega
          have HB2X : Hid (Below w2.heap.size w2 W2) := HBW.out.trans (hb.mono hszW)
          rw [hyl] at hown
          obtain ⟨a7, c7, rfl⟩ := own_capS hown
          have hgx : W1.grownBy W2 none := grown_below hb none
          have hown3 := own_any HOW.out hgx
          have HR3 : Hid (∀ i, i < r → RowOwn W2 w2.heap.size (zs.getD i (.bool false)) (T.getD i [])) := fun i hi => (HRW.out i hi).any hgx
          have HRO : Hid (RowOwn W2 w2.heap.size (.slice a7 3 c7) R) := RowOwn.low ⟨ys, by omega, by rw [hyl]; exact hown, fun j hj => hpol.out j (by omega)⟩ hszW
          have HON : Hid (∀ u ∈ [Value.slice a7 3 c7], u.oneCell' = true) := own_oneS hown
          have HFR : Hid (∀ j, j < 3 → R.getD j [] = sumK TA TB r j 3) := hfr
          clear hown hpol hgx hfr
          go_wp2_with (first
            | (at_builtin; refine wpList_append_own _ rfl _ _ 43 rfl w2.heap.size 44 i2 (.slice none 0 0) 1 24 Tryd.underlying43 hj hy0 hy1 hy2 rfl (by decide) _ _ _ rfl (hown3.alloc _) ⟨W2.heap.size, 0, none⟩ 1 1 [Value.slice a7 3 c7] rfl rfl (new_cell1 _ _ _) HON.out (by unfold maxLen; omega) (by omega) (by simp; omega) ?_; intro v8 w8 hown8 hg8 _; go_frame))
          go_roundw
          case rel =>
            refine ⟨r + 1, zs ++ [Value.slice a7 3 c7], T ++ [R], by omega, by go_num, by simp; omega, by simp; omega, by rw [List.length_append]; exact hown8, fun j hj => ?_, fun j hj => ?_, (HB2X.out.alloc (by omega) _).grown hg8 (by simp; omega) (fun q hq => (hown3.lt q hq).1)⟩
            · have hga : W2.grownBy (W2.alloc (.cells #[Value.slice a7 3 c7] 44)) none := World.grownBy_alloc _ _ _
              by_cases hjk : j < r
              · rw [getD_left zs _ j (by omega), getL_left T R j (by omega)]
                exact ((HR3.out j hjk).any hga).other (hown3.alloc _) hg8
              · have ej : j = zs.length := by omega
                have ej2 : j = T.length := by omega
                have e2 : (zs ++ [Value.slice a7 3 c7]).getD j (.bool false) = Value.slice a7 3 c7 := by rw [ej]; exact getD_last zs _
                have e3 : (T ++ [R]).getD j [] = R := by rw [ej2]; exact getL_last T R
                rw [e2, e3]
                exact (HRO.out.any hga).other (hown3.alloc _) hg8
            · by_cases hjk : j < r
              · rw [getL_left T R j (by omega)]; exact hfin.out j hjk
              · have ej2 : j = T.length := by omega
                have ej3 : j = r := by omega
                have e3 : (T ++ [R]).getD j [] = R := by rw [ej2]; exact getL_last T R
                rw [e3, ej3]; exact ⟨hRl, HFR.out⟩
          case measure => simp only [intOf]; omega
    · obtain rfl : r = 3 := by omega
      have hPT : ProdT TA TB T := ⟨hTl, hfin.out⟩
      have HPT : Hid (ProdT TA TB T) := hPT
      have HGP : Hid (GoodT T T.length) := (by rw [hTl]; exact prod_good HTA.out HTB.out hPT : GoodT T T.length)
      have HGA : Hid (GoodT TA TA.length) := (by rw [HTA.out.1]; exact two_good HTA.out : GoodT TA TA.length)
      have HGB : Hid (GoodT TB TB.length) := (by rw [HTB.out.1]; exact two_good HTB.out : GoodT TB TB.length)
      have HLP : Hid (T.length ≤ 6) := (by omega : T.length ≤ 6)
      have HLA : Hid (TA.length ≤ 6) := (by rw [HTA.out.1]; omega : TA.length ≤ 6)
      have HLB : Hid (TB.length ≤ 6) := (by rw [HTB.out.1]; omega : TB.length ≤ 6)
      have HTP : Hid (Table W1 W1.heap.size _ T) := table_own (by omega) hown (fun i hi => hrows.out i (by omega))
      have HT1 : Hid (Table W1 W1.heap.size (.slice (some ⟨ba, offa, none⟩) 3 capa) TA) := HTAB.out.up hb
      have HBW : Hid (Below w2.heap.size w2 W1) := hb
      clear hown hrows hfin hb hPT
      go_wp2_with (go_at_call 22; refine (det_good _ TA _ HLA.out HGA.out HT1.out).mono ?_; rintro e9 w3 ⟨d1, l1, rfl, hP1, hc1, hb3⟩; refine Hid.out ?_)
      refine Lib.hid ?_
      have HB3 : Hid (Below w2.heap.size w2 w3) := HBW.out.trans (hb3.mono HBW.out.size)
      have HP3 : Hid (Table w3 w3.heap.size _ T) := HTP.out.up hb3
      have HT3 : Hid (Table w3 w3.heap.size (.slice (some ⟨bb, offb, none⟩) 3 capb) TB) := HTBB.out.up HB3.out
      have HD1 : Hid (Poly w3 w3.heap.size d1 l1) := hP1
      have HC1 : Hid (Canon l1 (detOf TA)) := hc1
      clear hP1 hc1 hb3 HT1 HTP HBW
      go_wp2_with (go_at_call 22; refine (det_good _ TB _ HLB.out HGB.out HT3.out).mono ?_; rintro e9 w4 ⟨d2, l2, rfl, hP2, hc2, hb4⟩; refine Hid.out ?_)
      refine Lib.hid ?_
      have HB4 : Hid (Below w2.heap.size w2 w4) := HB3.out.trans (hb4.mono HB3.out.size)
      have HP4 : Hid (Table w4 w4.heap.size _ T) := HP3.out.up hb4
      have HD14 : Hid (Poly w4 w4.heap.size d1 l1) := HD1.out.up hb4
      have HD2 : Hid (Poly w4 w4.heap.size d2 l2) := hP2
      have HC2 : Hid (Canon l2 (detOf TB)) := hc2
      clear hP2 hc2 hb4 HT3 HP3 HB3 HD1
      go_wp2_with (go_at_call 22; refine (det_good _ T _ HLP.out HGP.out HP4.out).mono ?_; rintro e9 w5 ⟨d3, l3, rfl, hP3, hc3, hb5⟩; refine Hid.out ?_)
      refine Lib.hid ?_
      have HB5 : Hid (Below w2.heap.size w2 w5) := HB4.out.trans (hb5.mono HB4.out.size)
      have HD15 : Hid (Poly w5 w5.heap.size d1 l1) := HD14.out.up hb5
      have HD25 : Hid (Poly w5 w5.heap.size d2 l2) := HD2.out.up hb5
      have HD3 : Hid (Poly w5 w5.heap.size d3 l3) := hP3
      have HC3 : Hid (Canon l3 (detOf T)) := hc3
      clear hP3 hc3 hb5 HP4 HB4 HD14 HD2
      go_wp2_with (go_at_call 22; refine (det_good (.slice none 0 0) [] _ (by decide) good_nil (table_nil _ _)).mono ?_; rintro e9 w6 ⟨d4, l4, rfl, hP4, hc4, hb6⟩; refine Hid.out ?_)
      refine Lib.hid ?_
      have HB6 : Hid (Below w2.heap.size w2 w6) := HB5.out.trans (hb6.mono HB5.out.size)
      have HD16 : Hid (Poly w6 w6.heap.size d1 l1) := HD15.out.up hb6
      have HD26 : Hid (Poly w6 w6.heap.size d2 l2) := HD25.out.up hb6
      have HD36 : Hid (Poly w6 w6.heap.size d3 l3) := HD3.out.up hb6
      have hl4 : l4 = [(0, 1)] := canon_unique hc4 canon_one'
      have HD46 : Hid (Poly w6 w6.heap.size d4 [(0, 1)]) := (by rw [← hl4]; exact hP4 : Poly w6 w6.heap.size d4 [(0, 1)])
      have HL3 : Hid (l3 = mulL l1 l2) := det_prod HTA.out HTB.out HPT.out HC1.out HC2.out HC3.out
      have HM1 : Hid (mayB l1 = true) := (det_may HTA.out HC1.out).1
      have HM2 : Hid (mayB l2 = true) := (det_may HTB.out HC2.out).1
      have HLL : Hid (l3.length ≤ maxLen) := (by
        have := canon_len HC3.out (1000 * T.length) (fun x hx => by have := det_supp T.length T HGP.out x hx; omega)
        have h6 := HLP.out
        unfold maxLen
        omega : l3.length ≤ maxLen)
      clear hP4 hc4 hb6 HB5 HD15 HD25 HD3
      go_wp2_with (go_at_call 18; refine (times_poly d1 d2 l1 l2 _ HM1.out HM2.out HD16.out HD26.out).mono ?_; rintro e9 w7 ⟨vm, rfl, hPm, hb7⟩; refine Hid.out ?_)
      refine Lib.hid ?_
      have HB7 : Hid (Below w2.heap.size w2 w7) := HB6.out.trans (hb7.mono HB6.out.size)
      have HD37 : Hid (Poly w7 w7.heap.size d3 l3) := HD36.out.up hb7
      have HD47 : Hid (Poly w7 w7.heap.size d4 [(0, 1)]) := HD46.out.up hb7
      have HPM : Hid (Poly w7 w7.heap.size vm l3) := (by rw [HL3.out]; exact hPm : Poly w7 w7.heap.size vm l3)
      clear hPm hb7
      go_wp2_with (go_at_call 16; refine (ksame_poly d3 vm l3 l3 _ HLL.out HD37.out HPM.out).mono ?_; rw [decide_eq_true (rfl : l3 = l3)]; rintro e9 w8 ⟨rfl, hb8⟩; refine Hid.out ?_)
      refine Lib.hid ?_
      have HB8 : Hid (Below w2.heap.size w2 w8) := HB7.out.trans (hb8.mono HB7.out.size)
      have HD48 : Hid (Poly w8 w8.heap.size d4 [(0, 1)]) := HD47.out.up hb8
      clear hb8
      have HN8 : Hid (Poly (w8.alloc (.cells #[.int .i64 0, .int .i64 1] 36)) (w8.alloc (.cells #[.int .i64 0, .int .i64 1] 36)).heap.size (.slice (some ⟨w8.heap.size, 0, none⟩) 1 1) [(0, 1)]) := Poly.ofRow (base := w8.heap.size) (World.ownsRow_lit w8 #[.int .i64 0, .int .i64 1] 1 (Nat.le_refl _) (by unfold maxLen; omega) rfl)
      have HBa : Hid (Below w8.heap.size w8 (w8.alloc (.cells #[.int .i64 0, .int .i64 1] 36))) := (Below.refl _ _).alloc (Nat.le_refl _) _
      have HD49 : Hid (Poly (w8.alloc (.cells #[.int .i64 0, .int .i64 1] 36)) (w8.alloc (.cells #[.int .i64 0, .int .i64 1] 36)).heap.size d4 [(0, 1)]) := HD48.out.up HBa.out
      go_wp2_with (go_at_call 16; refine (ksame_poly d4 (.slice (some ⟨w8.heap.size, 0, none⟩) 1 1) [(0, 1)] [(0, 1)] _ (by decide) HD49.out HN8.out).mono ?_; rw [decide_eq_true (rfl : ([(0, 1)] : List (Int × Int)) = [(0, 1)])]; rintro e9 w9 ⟨rfl, hb9⟩)
      go_ret
      have hB9 : Below w2.heap.size w2 w9 := (HB8.out.trans (HBa.out.mono HB8.out.size)).trans (hb9.mono (Nat.le_trans HB8.out.size HBa.out.size))
      exact ⟨rfl, HB2.out.trans (hB9.mono HB2.out.size)⟩
end Go.Proofs.YthbhllomikfbhaaDoor.Poly
