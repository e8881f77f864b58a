/- The walk of ref.Determinant, by recursion on the table's side. -/
import Derived.Test.YtdbpiggohncjiaaPE2
namespace Go.Proofs.Ytdbpiggohncjiaa.Poly
open Go.RowKit Go.Maps

set_option maxHeartbeats 1000000 in
set_option maxRecDepth 100000 in
theorem det21_zero (a : Option Addr) (cap : Nat) (w : World) :
    Calls Try.prog 23 #[.slice a 0 cap] w fun e w' => ∃ v l, e = .returned v ∧ PolyC w' w'.heap.size v l ∧ Canon l (detOf []) ∧ Below w.heap.size w w' := by
  go_enter Try.func23, Try.ntmps23
  go_wp2
  go_ret
  exact ⟨.slice (some ⟨w.heap.size, 0, none⟩) 1 1, [(0, 1)], rfl, PolyC.ofRow (base := w.heap.size) (World.ownsRow_lit w #[.int .i64 0, .int .i64 1] 1 (Nat.le_refl _) (by unfold maxLen; omega) rfl), canon_one, ((Below.refl _ _).alloc (Nat.le_refl _) _)⟩

/-- What the contract says of a table of side n. -/
def Det21 (n : Nat) : Prop := ∀ (v : Value) (T : List (List (List (Int × Int)))) (w : World), GoodT T n → TableC w w.heap.size v T →
  Calls Try.prog 23 #[v] w fun e w' => ∃ v' l, e = .returned v' ∧ PolyC w' w'.heap.size v' l ∧ Canon l (detOf T) ∧ Below w.heap.size w w'

set_option maxHeartbeats 8000000 in
set_option maxRecDepth 100000 in
theorem det21_next (n : Nat) (hn : n < 6) (ih : Det21 n) : Det21 (n + 1) := by
  intro v T w hT h
  obtain ⟨i1, hi, hz0, hz1, hz2⟩ := info_parts infoPoly
  obtain ⟨i2, hj, hy0, hy1, hy2⟩ := info_parts infoRow
  obtain ⟨rs, pss, hrl, ⟨a, cap, rfl, g⟩, hR⟩ := h
  have hTl := hT.1
  rw [hTl] at hrl
  rw [hrl] at g ⊢
  obtain ⟨b, off, rfl, hbw, hc⟩ := g (by omega)
  have HIH : Hid (Det21 n) := ih
  have HGT : Hid (GoodT T (n + 1)) := hT
  have HC : Hid (∀ i, i < n + 1 → w.cell? ⟨b, off + i, none⟩ = some (rs.getD i (.bool false))) := hc
  have HRW : Hid (∀ i, i < n + 1 → ∃ br offr capr, rs.getD i (.bool false) = .slice (some ⟨br, offr, none⟩) (n + 1) capr ∧ n + 1 ≤ capr ∧ capr ≤ maxLen ∧ br < w.heap.size ∧ (pss i).length = n + 1 ∧ ∀ j, j < n + 1 → w.cell? ⟨br, offr + j, none⟩ = some ((pss i).getD j (.bool false))) := fun i hi => by
    obtain ⟨h1, ⟨a2, cap2, hv2, g2⟩, ⟨a3, n3, c3, hv3, h3, h4⟩, h5⟩ := hR i (by omega)
    have hTi : (T.getD i []).length = n + 1 := (hT.2 _ (getD_mem T i [] (by omega))).1
    rw [hTi] at h1
    rw [h1] at hv2 g2
    obtain ⟨b2, off2, rfl, hb2, hc2⟩ := g2 (by omega)
    rw [hv2] at hv3
    injection hv3 with e1 e2 e3
    exact ⟨b2, off2, cap2, hv2, by omega, by omega, hb2, h1, hc2⟩
  have HPS : Hid (∀ i, i < n + 1 → (pss i).length = n + 1 ∧ ∀ j, j < n + 1 → Poly w w.heap.size ((pss i).getD j (.bool false)) ((T.getD i []).getD j [])) := fun i hi => by
    obtain ⟨h1, _, _, h5⟩ := hR i (by omega)
    have hTi : (T.getD i []).length = n + 1 := (hT.2 _ (getD_mem T i [] (by omega))).1
    rw [hTi] at h1 h5
    exact ⟨h1, h5⟩
  clear hR hc g hT hTl hrl ih
  have h11 : ((n : Int) + 1 == 0) = false := by rw [beq_eq_false_iff_ne]; omega
  go_enter Try.func23, Try.ntmps23
  go_wp2
  go_loopw [3, 4, 5] (fun vo s i wr => ∃ (c : Nat) (lo : List (Int × Int)), c ≤ n + 1 ∧ i = .int .i64 c ∧ s = .int .i64 (sgn c) ∧ Hid (PolyC wr wr.heap.size vo lo) ∧ Hid (Canon lo (partOf T c)) ∧ Below w.heap.size w wr) (fun _ _ i _ => n + 1 - (intOf i).toNat)
  case atStart => exact ⟨0, [], Nat.zero_le _, rfl, rfl, ⟨Or.inl ⟨rfl, rfl⟩, none, 0, 0, rfl, Nat.le_refl _, Nat.zero_le _⟩, canon_zero, Below.refl _ _⟩
  case round =>
    rename World => W1
    obtain ⟨c, lo, hc, rfl, rfl, hP, hCan, hb⟩ := hrel
    by_cases hlt : c < n + 1
    · have hszW := hb.size
      obtain ⟨b0, off0, cap0, hv0, hcp0, hcm0, hb0, hpl0, hcl0⟩ := HRW.out 0 (by omega)
      have c0 := bcell hb hbw (HC.out 0 (by omega))
      rw [hv0, Nat.add_zero] at c0
      have c1 := bcell hb hb0 (hcl0 c hlt)
      have hbr : b < W1.heap.size := Nat.lt_of_lt_of_le hbw hszW
      have hbr0 : b0 < W1.heap.size := Nat.lt_of_lt_of_le hb0 hszW
      have HCL0 : Hid (w.cell? ⟨b0, off0 + c, none⟩ = some ((pss 0).getD c (.bool false))) := hcl0 c hlt
      have HC0 : Hid (w.cell? ⟨b, off, none⟩ = some (.slice (some ⟨b0, off0, none⟩) (n + 1) cap0)) := (by have := HC.out 0 (by omega); rw [hv0, Nat.add_zero] at this; exact this : w.cell? ⟨b, off, none⟩ = some (.slice (some ⟨b0, off0, none⟩) (n + 1) cap0))
      have HQ : Hid (Poly w w.heap.size ((pss 0).getD c (.bool false)) ((T.getD 0 []).getD c [])) := (HPS.out 0 (by omega)).2 c hlt
      have HGD : Hid (mayB ((T.getD 0 []).getD c []) = true ∧ sizeL ((T.getD 0 []).getD c []) ≤ 100) := good_at HGT.out (by omega) hlt
      have HPN : Hid (∀ y, partOf T (c + 1) y = partOf T c y + sgn c * prodL ((T.getD 0 []).getD c []) (detOf (lessOf T c)) y) := fun y => part_next T c y
      clear hv0 hcp0 hcm0 hpl0 hcl0
      generalize (pss 0).getD c (.bool false) = pv at c1 HQ HCL0
      generalize (T.getD 0 []).getD c [] = l at HQ HGD HPN
      have hsg := sgn_one c
      have hsw : IntKind.i64.wrap (-sgn c) = -sgn c := IntWalk.i64_in _ (by omega)
      have HSG : Hid (sgn c = 1 ∨ sgn c = -1) := hsg
      have HSN : Hid (sgn (c + 1) = -sgn c) := (rfl : sgn (c + 1) = -sgn c)
      generalize sgn c = sg at hsg hsw HSG HSN HPN
      obtain ⟨al, capl, rfl, hal⟩ := HQ.out.slice
      have hl64 := ((may_iff l).1 HGD.out.1).1
      clear hal hsg
      by_cases hl0 : l.length = 0
      · have e0 : l = [] := List.length_eq_zero_iff.1 hl0
        subst e0
        have hd : decide (0 < (([] : List (Int × Int)).length : Int)) = false := by simp
        go_wp2
        go_roundw
        case rel =>
          refine ⟨c + 1, lo, by omega, by go_num, by rw [HSN.out], hP, ?_, hb⟩
          exact canon_congr hCan.out fun y => by rw [HPN.out]; simp [prodL]
        case measure => simp only [intOf]; omega
      · have hd : decide (0 < (l.length : Int)) = true := by simp; omega
        have hd2 : decide (0 < l.length) = true := by simp; omega
        have hd3 : decide ((c : Int) < (n : Int) + 1) = true := by simp; omega
        have HP : Hid (PolyC W1 W1.heap.size _ lo) := hP
        have HCN : Hid (Canon lo (partOf T c)) := hCan
        have HBW : Hid (Below w.heap.size w W1) := hb
        go_wp2
        clear c0 c1 hP hCan
        go_loopw [6, 7] (fun vl i ws => ∃ (r : Nat) (zs : List Value), 1 ≤ r ∧ r ≤ n + 1 ∧ i = .int .i64 r ∧ zs.length + 1 = r ∧ ws.ownsRow W1.heap.size 23 1 vl zs.length zs ∧
            Hid (∀ i, i < zs.length → ws.ownsRow W1.heap.size 24 1 (zs.getD i (.bool false)) n ((pss (i + 1)).eraseIdx c)) ∧ Below W1.heap.size W1 ws) (fun _ i _ => n + 1 - (intOf i).toNat)
        case atStart => exact ⟨1, [], Nat.le_refl _, by omega, rfl, rfl, World.ownsRow_nil _ _ _ _, fun i hi => absurd hi (Nat.not_lt_zero _), Below.refl _ _⟩
        case round =>
          clear hb
          rename World => W2
          obtain ⟨r, zs, hr1, hrn, rfl, hzl, hown, hrows, hb⟩ := hrel
          by_cases hrl : r < n + 1
          · obtain ⟨br, offr, capr, hvr, hcpr, hcmr, hbrw, hplr, hclr⟩ := HRW.out r hrl
            have hszX := hb.size
            have HB2 : Hid (Below w.heap.size w W2) := HBW.out.trans (hb.mono hszW)
            have c0 := bcell HB2.out hbw (HC.out r hrl)
            rw [hvr] at c0
            have hbr2 : b < W2.heap.size := by omega
            have HSL : Hid (∀ j, j < n + 1 → W2.cell? ⟨br, offr + j, none⟩ = some ((pss r).getD j (.bool false))) := fun j hj => bcell HB2.out hbrw (hclr j hj)
            have HPL : Hid ((pss r).length = n + 1) := hplr
            have HTL : Hid (((pss r).take c).length = c * 1) := (by rw [List.length_take, HPL.out]; omega : ((pss r).take c).length = c * 1)
            have HDL : Hid (((pss r).drop (c + 1)).length = (n - c) * 1) := (by rw [List.length_drop, HPL.out]; omega : ((pss r).drop (c + 1)).length = (n - c) * 1)
            have HON : Hid (∀ u ∈ pss r, u.oneCell' = true) := fun u hu => by
              obtain ⟨q, hq, rfl⟩ := List.getElem_of_mem hu
              have h1 := (HPS.out r hrl).2 q (by omega)
              obtain ⟨a9, c9, e9, _⟩ := h1.slice
              have e : (pss r).getD q (.bool false) = (pss r)[q] := by simp [List.getD, hq]
              rw [← e, e9]
              rfl
            have hcapr : capr ≤ 9223372036854775807 := hcmr
            clear hvr hplr hclr hcmr
            go_wp2_with (first
              | (at_builtin; refine wpList_append_own _ rfl _ _ 23 rfl W2.heap.size 24 i1 (.slice none 0 0) 1 24 Try.underlying23 hi hz0 hz1 hz2 rfl (by decide) _ 0 [] rfl (World.ownsRow_nil _ _ _ _) ⟨br, offr, none⟩ c _ ((pss r).take c) rfl HTL.out (slots_take HSL.out HPL.out c) (fun u hu => HON.out u (List.mem_of_mem_take hu)) (by unfold maxLen; omega) (by omega) (Nat.le_refl _) ?_; intro v1 w1 hown1 hg1 _; refine Hid.out ?_))
            refine Lib.hid ?_
            rw [Nat.zero_add, List.nil_append] at hown1
            have hnx1 : Below W2.heap.size W2 w1 := (Below.refl _ _).grown hg1 (Nat.le_refl _) (fun q hq => by cases hq)
            have hs1 := hnx1.size
            have HB3 : Hid (Below w.heap.size w w1) := HB2.out.trans (hnx1.mono (by omega))
            have c2 : w1.cell? ⟨b, off + r, none⟩ = some (.slice (some ⟨br, offr, none⟩) (n + 1) capr) := bcell hnx1 hbr2 c0
            have hbr3 : b < w1.heap.size := by omega
            have HSL3 : Hid (∀ j, j < n + 1 → w1.cell? ⟨br, offr + j, none⟩ = some ((pss r).getD j (.bool false))) := fun j hj => bcell hnx1 (by omega) (HSL.out j hj)
            have HNX1 : Hid (Below W2.heap.size W2 w1) := hnx1
            clear hg1 hnx1 c0
            by_cases hkc : capr = c + 1
            · have hlk : n - c = 0 := by omega
              have hdr : Hid ((pss r).drop (c + 1) = []) := List.drop_eq_nil_of_le (by rw [HPL.out]; omega)
              go_wp2_with (first
                | (at_builtin; refine wpList_append_own _ rfl _ _ 23 rfl W2.heap.size 24 i1 (.slice none 0 0) 1 24 Try.underlying23 hi hz0 hz1 hz2 rfl (by decide) _ _ _ rfl hown1 ⟨br, offr, none⟩ 0 _ [] rfl rfl (fun j u h => by simp at h) (fun u h => by simp at h) (by unfold maxLen; omega) (by omega) (by omega) ?_; intro v2 w2 hown2 hg2 _; refine Hid.out ?_))
              refine Lib.hid ?_
              have hown2' : w2.ownsRow W2.heap.size 24 1 v2 n ((pss r).eraseIdx c) := by
                rw [List.eraseIdx_eq_take_drop_succ, hdr.out]
                exact (by omega : c + 0 = n) ▸ hown2
              have hnx2 : Below W2.heap.size W2 w2 := HNX1.out.grown hg2 hs1 (fun q hq => (hown1.lt q hq).1)
              have hs2 := hnx2.size
              have hgx : W2.grownBy w2 none := grown_below hnx2 none
              have hown6 := hown.kept hgx (by cases hv : Value.ownBlock _ with | none => exact Or.inl rfl | some q => exact Or.inr (by simp))
              have hrows6 : ∀ i, i < zs.length → w2.ownsRow W1.heap.size 24 1 (zs.getD i (.bool false)) n ((pss (i + 1)).eraseIdx c) := fun i hi => (hrows.out i hi).kept hgx (by cases hv : Value.ownBlock _ with | none => exact Or.inl rfl | some q => exact Or.inr (by simp))
              have HR6 : Hid (∀ i, i < zs.length → w2.ownsRow W1.heap.size 24 1 (zs.getD i (.bool false)) n ((pss (i + 1)).eraseIdx c)) := hrows6
              have HO2 : Hid (w2.ownsRow W1.heap.size 24 1 v2 n ((pss r).eraseIdx c)) := own_low hown2' hszX
              have HON2 : Hid (∀ u ∈ [v2], u.oneCell' = true) := own_one hown2'
              obtain ⟨a5, n5, c5, hv5, -, -⟩ := own_cap hown2'
              subst hv5
              have HBX : Hid (Below W1.heap.size W1 w2) := hb.trans (hnx2.mono hszX)
              clear hrows hrows6 hown2 hown2' hg2 hnx2 hgx hown hown1 c2
              go_wp2_with (first
                | (at_builtin; refine wpList_append_own _ rfl _ _ 22 rfl W1.heap.size 23 i2 (.slice none 0 0) 1 24 Try.underlying22 hj hy0 hy1 hy2 rfl (by decide) _ _ _ rfl (hown6.alloc _) ⟨w2.heap.size, 0, none⟩ 1 1 [Value.slice a5 n5 c5] rfl rfl (new_cell1 _ _ _) HON2.out (by unfold maxLen; omega) (by omega) (by simp; omega) ?_; intro v3 w3 hown3 hg3 _; go_frame))
              go_roundw
              case rel =>
                have hO2a := HO2.out.alloc (.cells #[Value.slice a5 n5 c5] 23)
                refine ⟨r + 1, zs ++ [Value.slice a5 n5 c5], by omega, by omega, by go_num, by simp; omega, by rw [List.length_append]; exact hown3, fun i hi => ?_, (HBX.out.alloc (by omega) _).grown hg3 (by simp; omega) (fun q hq => (hown6.lt q hq).1)⟩
                rw [List.length_append, List.length_singleton] at hi
                by_cases hiz : i < zs.length
                · have e : (zs ++ [Value.slice a5 n5 c5]).getD i (.bool false) = zs.getD i (.bool false) := by simp [List.getD, List.getElem?_append_left hiz]
                  rw [e]
                  have h1 := (HR6.out i hiz).alloc (.cells #[Value.slice a5 n5 c5] 23)
                  exact h1.kept hg3 (own_ne h1 (hown6.alloc _) (by decide))
                · obtain rfl : i = zs.length := by omega
                  have e : (zs ++ [Value.slice a5 n5 c5]).getD zs.length (.bool false) = Value.slice a5 n5 c5 := by simp [List.getD]
                  rw [e, hzl]
                  exact hO2a.kept hg3 (own_ne hO2a (hown6.alloc _) (by decide))
              case measure => simp only [intOf]; omega
            · go_wp2_with (first
                | (at_builtin; refine wpList_append_own _ rfl _ _ 23 rfl W2.heap.size 24 i1 (.slice none 0 0) 1 24 Try.underlying23 hi hz0 hz1 hz2 rfl (by decide) _ _ _ rfl hown1 ⟨br, offr + (c + 1), none⟩ (n - c) _ ((pss r).drop (c + 1)) rfl HDL.out (slots_drop HSL3.out HPL.out (c + 1)) (fun u hu => HON.out u (List.mem_of_mem_drop hu)) (by unfold maxLen; omega) (by omega) (by omega) ?_; intro v2 w2 hown2 hg2 _; refine Hid.out ?_))
              refine Lib.hid ?_
              have hown2' : w2.ownsRow W2.heap.size 24 1 v2 n ((pss r).eraseIdx c) := by
                rw [List.eraseIdx_eq_take_drop_succ]
                exact (by omega : c + (n - c) = n) ▸ hown2
              have hnx2 : Below W2.heap.size W2 w2 := HNX1.out.grown hg2 hs1 (fun q hq => (hown1.lt q hq).1)
              have hs2 := hnx2.size
              have hgx : W2.grownBy w2 none := grown_below hnx2 none
              have hown6 := hown.kept hgx (by cases hv : Value.ownBlock _ with | none => exact Or.inl rfl | some q => exact Or.inr (by simp))
              have hrows6 : ∀ i, i < zs.length → w2.ownsRow W1.heap.size 24 1 (zs.getD i (.bool false)) n ((pss (i + 1)).eraseIdx c) := fun i hi => (hrows.out i hi).kept hgx (by cases hv : Value.ownBlock _ with | none => exact Or.inl rfl | some q => exact Or.inr (by simp))
              have HR6 : Hid (∀ i, i < zs.length → w2.ownsRow W1.heap.size 24 1 (zs.getD i (.bool false)) n ((pss (i + 1)).eraseIdx c)) := hrows6
              have HO2 : Hid (w2.ownsRow W1.heap.size 24 1 v2 n ((pss r).eraseIdx c)) := own_low hown2' hszX
              have HON2 : Hid (∀ u ∈ [v2], u.oneCell' = true) := own_one hown2'
              obtain ⟨a5, n5, c5, hv5, -, -⟩ := own_cap hown2'
              subst hv5
              have HBX : Hid (Below W1.heap.size W1 w2) := hb.trans (hnx2.mono hszX)
              clear hrows hrows6 hown2 hown2' hg2 hnx2 hgx hown hown1 c2
              go_wp2_with (first
                | (at_builtin; refine wpList_append_own _ rfl _ _ 22 rfl W1.heap.size 23 i2 (.slice none 0 0) 1 24 Try.underlying22 hj hy0 hy1 hy2 rfl (by decide) _ _ _ rfl (hown6.alloc _) ⟨w2.heap.size, 0, none⟩ 1 1 [Value.slice a5 n5 c5] rfl rfl (new_cell1 _ _ _) HON2.out (by unfold maxLen; omega) (by omega) (by simp; omega) ?_; intro v3 w3 hown3 hg3 _; go_frame))
              go_roundw
              case rel =>
                have hO2a := HO2.out.alloc (.cells #[Value.slice a5 n5 c5] 23)
                refine ⟨r + 1, zs ++ [Value.slice a5 n5 c5], by omega, by omega, by go_num, by simp; omega, by rw [List.length_append]; exact hown3, fun i hi => ?_, (HBX.out.alloc (by omega) _).grown hg3 (by simp; omega) (fun q hq => (hown6.lt q hq).1)⟩
                rw [List.length_append, List.length_singleton] at hi
                by_cases hiz : i < zs.length
                · have e : (zs ++ [Value.slice a5 n5 c5]).getD i (.bool false) = zs.getD i (.bool false) := by simp [List.getD, List.getElem?_append_left hiz]
                  rw [e]
                  have h1 := (HR6.out i hiz).alloc (.cells #[Value.slice a5 n5 c5] 23)
                  exact h1.kept hg3 (own_ne h1 (hown6.alloc _) (by decide))
                · obtain rfl : i = zs.length := by omega
                  have e : (zs ++ [Value.slice a5 n5 c5]).getD zs.length (.bool false) = Value.slice a5 n5 c5 := by simp [List.getD]
                  rw [e, hzl]
                  exact hO2a.kept hg3 (own_ne hO2a (hown6.alloc _) (by decide))
              case measure => simp only [intOf]; omega
          · obtain rfl : r = n + 1 := by omega
            have hszX := hb.size
            have HB2 : Hid (Below w.heap.size w W2) := HBW.out.trans (hb.mono hszW)
            have HLT := less_table HGT.out hlt (by omega) hown HPS.out hrows.out HB2.out
            have HLT2 : Hid (TableC W2 W2.heap.size _ (lessOf T c)) := HLT
            have c0 := bcell HB2.out hbw HC0.out
            have c1 := bcell HB2.out hb0 HCL0.out
            have hbr2 : b < W2.heap.size := by omega
            have hb02 : b0 < W2.heap.size := by omega
            have HP2 : Hid (PolyC W2 W2.heap.size u3 lo) := HP.out.up hb
            have HGL : Hid (GoodT (lessOf T c) n) := good_less' HGT.out hlt
            have HDA : Hid (∀ x, (detOf (lessOf T c) x).natAbs ≤ bd n) := fun x => det_abs HGL.out (by omega) x
            have HDS : Hid (∀ x, detOf (lessOf T c) x ≠ 0 → -((1000 * n : Nat) : Int) ≤ x ∧ x ≤ ((1000 * n : Nat) : Int)) := fun x hx => by have := det_supp n _ HGL.out x hx; omega
            have HBD : Hid (bd n ≤ 2000000000000) := (bd_le n (by omega)).2 (by omega)
            have HMN : Hid ((((c * (100 * bd n) : Nat) : Int)) + ((100 * bd n : Nat) : Int) ≤ 1000000000000000) := (by
              have h1 := (bd_le (n + 1) (by omega)).1
              have h2 : (c + 1) * (100 * bd n) ≤ (n + 1) * (100 * bd n) := Nat.mul_le_mul_right _ (by omega)
              have h3 : bd (n + 1) = (n + 1) * (100 * bd n) := rfl
              rw [Nat.add_mul c] at h2
              omega : (((c * (100 * bd n) : Nat) : Int)) + ((100 * bd n : Nat) : Int) ≤ 1000000000000000)
            have HFA : Hid (∀ x, -((c * (100 * bd n) : Nat) : Int) ≤ partOf T c x ∧ partOf T c x ≤ ((c * (100 * bd n) : Nat) : Int)) := fun x => by
              have := detPart_abs HGT.out (by omega) c (by omega) x
              omega
            have HFS : Hid (∀ x, partOf T c x ≠ 0 → -((1000 * (n + 1) : Nat) : Int) ≤ x ∧ x ≤ ((1000 * (n + 1) : Nat) : Int)) := fun x hx => by
              have := detPart_supp HGT.out c (by omega) x hx
              omega
            have HGA : Hid (∀ x, -((100 * bd n : Nat) : Int) ≤ prodL l (detOf (lessOf T c)) x ∧ prodL l (detOf (lessOf T c)) x ≤ ((100 * bd n : Nat) : Int)) := fun x => by
              have := prodL_100 l HGD.out.2 (detOf (lessOf T c)) (bd n) HDA.out x
              omega
            have HGS : Hid (∀ x, prodL l (detOf (lessOf T c)) x ≠ 0 → -((1000 * (n + 1) : Nat) : Int) ≤ x ∧ x ≤ ((1000 * (n + 1) : Nat) : Int)) := fun x hx => by
              have := prodL_supp l _ _ x (may_exps HGD.out.1) HDS.out hx
              omega
            clear HLT hown hrows
            go_wp2
            go_region_with (first
              | (go_at_call 23; refine (HIH.out _ (lessOf T c) _ HGL.out (HLT2.out.up (Below.refl _ _).drew)).mono ?_; rintro r1 w3 ⟨vd, ld, rfl, hPd, hcd, hb3⟩
                 have hs3 : W2.heap.size ≤ w3.heap.size := hb3.size
                 have HB3 : Hid (Below w.heap.size w w3) := HB2.out.drew.trans (hb3.mono (Nat.le_trans hszW hszX))
                 have c03 := bcell HB3.out hbw HC0.out
                 have c13 := bcell HB3.out hb0 HCL0.out
                 have HPd : Hid (PolyC w3 w3.heap.size vd ld) := hPd
                 have HCd : Hid (Canon ld (detOf (lessOf T c))) := hcd
                 have HP3 : Hid (PolyC w3 w3.heap.size u3 lo) := (HP2.out.up (Below.refl _ _).drew).up hb3
                 have HQ3 : Hid (Poly w3 w3.heap.size (.slice al l.length capl) l) := (HQ.out.on HB3.out).mono HB3.out.size
                 clear hPd hcd hb3)
              | (go_at_call 82; refine (prod_gen _ vd l ld (detOf (lessOf T c)) _ HGD.out.1 HGD.out.2 HCd.out (bd n) (1000 * n) HBD.out (by omega) HDA.out HDS.out HQ3.out HPd.out.1).mono ?_; rintro r1 w4 ⟨vp, lp, rfl, hPp, hcp, hb4⟩
                 have hs4 : w3.heap.size ≤ w4.heap.size := hb4.size
                 have HPp : Hid (PolyC w4 w4.heap.size vp lp) := hPp
                 have HCp : Hid (Canon lp (prodL l (detOf (lessOf T c)))) := hcp
                 have HP4 : Hid (PolyC w4 w4.heap.size u3 lo) := HP3.out.up hb4
                 have HB4 : Hid (Below w.heap.size w w4) := HB3.out.trans (hb4.mono HB3.out.size)
                 clear hPp hcp hb4)
              | (go_at_call 81; refine (sum_gen u3 vp lo lp (partOf T c) (prodL l (detOf (lessOf T c))) sg _ HSG.out HCN.out HCp.out _ _ (by omega) (by omega) HMN.out (1000 * (n + 1)) (by omega) HFA.out HGA.out HFS.out HGS.out HP4.out HPp.out).mono ?_; rintro r1 w5 ⟨vs, ls, rfl, hPs, hcs, hb5⟩))
            all_goals go_wp2
            all_goals go_roundw
            all_goals first | (simp only [intOf]; omega) | skip
            all_goals refine ⟨c + 1, ls, by omega, by go_num, by rw [HSN.out], hPs, canon_congr hcs fun y => (HPN.out y).symm, HB4.out.trans (hb5.mono HB4.out.size)⟩
    · obtain rfl : c = n + 1 := by omega
      go_wp2
      go_ret
      exact ⟨_, lo, rfl, hP.out, canon_congr hCan.out (part_all' HGT.out.1), hb⟩

theorem det21 : ∀ n, n ≤ 6 → Det21 n := by
  intro n
  induction n with
  | zero =>
    intro _ v T w hT h
    have e : T = [] := List.length_eq_zero_iff.1 hT.1
    subst e
    obtain ⟨rs, pss, hrl, ⟨a, cap, rfl, g⟩, hR⟩ := h
    have hr0 : rs.length = 0 := by simpa using hrl
    rw [hr0]
    exact det21_zero a cap w
  | succ n ih =>
    intro hn
    exact det21_next n (by omega) (ih (by omega))
end Go.Proofs.Ytdbpiggohncjiaa.Poly
