/- The walk of the law knotworklaw.PolyTables itself: it answers true. -/
import Derived.Test.YtdbpiggohncjiaaPE3
import Derived.Test.YtdbpiggohncjiaaPD12
namespace Go.Proofs.Ytdbpiggohncjiaa.Poly
open Go.RowKit Go.Maps

theorem own_capS {w : World} {B e s n : Nat} {v : Value} {xs : List Value} (h : w.ownsRow B e s v n xs) : ∃ a c, v = .slice a n c := by
  rcases h.2 with ⟨rfl, h0⟩ | ⟨g, cap, cur, rfl, _, _, h1, h2, _⟩
  · exact ⟨none, 0, by rw [h0]⟩
  · exact ⟨_, _, rfl⟩
theorem own_oneS {w : World} {B e s n : Nat} {v : Value} {xs : List Value} (h : w.ownsRow B e s v n xs) : ∀ u ∈ [v], u.oneCell' = true := by
  obtain ⟨a, c, rfl⟩ := own_capS h
  intro u hu
  simp only [List.mem_singleton] at hu
  subst hu
  rfl
theorem own_any {w w' : World} {B e s n : Nat} {v : Value} {xs : List Value} (h : w.ownsRow B e s v n xs) (hg : w.grownBy w' none) : w'.ownsRow B e s v n xs :=
  h.kept hg (by cases v.ownBlock with | none => exact Or.inl rfl | some q => exact Or.inr (by simp))

/-- A row of polynomials that the call itself owns, all of it. -/
def RowOwn (w : World) (B : Nat) (v : Value) (R : List (List (Int × Int))) : Prop :=
  ∃ ys : List Value, ys.length = R.length ∧ w.ownsRow B 24 1 v ys.length ys ∧ ∀ j, j < R.length → w.ownsRow B 111 2 (ys.getD j (.bool false)) (R.getD j []).length (flat (R.getD j []))

theorem RowOwn.any {w w' : World} {B : Nat} {v : Value} {R : List (List (Int × Int))} (h : RowOwn w B v R) (hg : w.grownBy w' none) : RowOwn w' B v R := by
  obtain ⟨ys, h1, h2, h3⟩ := h
  exact ⟨ys, h1, own_any h2 hg, fun j hj => own_any (h3 j hj) hg⟩
theorem RowOwn.low {w : World} {B B' : Nat} {v : Value} {R : List (List (Int × Int))} (h : RowOwn w B v R) (hB : B' ≤ B) : RowOwn w B' v R := by
  obtain ⟨ys, h1, h2, h3⟩ := h
  exact ⟨ys, h1, own_low h2 hB, fun j hj => own_low (h3 j hj) hB⟩
theorem RowOwn.other {w w' : World} {B B' n : Nat} {v u : Value} {R : List (List (Int × Int))} {xs : List Value} (h : RowOwn w B v R) (ho : w.ownsRow B' 23 1 u n xs) (hg : w.grownBy w' u.ownBlock) : RowOwn w' B v R := by
  obtain ⟨ys, h1, h2, h3⟩ := h
  exact ⟨ys, h1, h2.kept hg (own_ne h2 ho (by decide)), fun j hj => (h3 j hj).kept hg (own_ne (h3 j hj) ho (by decide))⟩
theorem RowOwn.row {w : World} {B : Nat} {v : Value} {R : List (List (Int × Int))} (h : RowOwn w B v R) : Row w w.heap.size v R := by
  obtain ⟨ys, h1, h2, h3⟩ := h
  exact ⟨ys, h1, slots_of_own h2, fun j hj => Poly.ofRow (h3 j hj)⟩

theorem table_own {w : World} {B : Nat} {v : Value} {T : List (List (List (Int × Int)))} {zs : List Value} (hz : zs.length = T.length) (ho : w.ownsRow B 23 1 v zs.length zs) (hr : ∀ i, i < T.length → RowOwn w B (zs.getD i (.bool false)) (T.getD i [])) : Table w w.heap.size v T :=
  ⟨zs, hz, slots_of_own ho, fun i hi => (hr i hi).row⟩

theorem getD_left (zs : List Value) (x : Value) (i : Nat) (h : i < zs.length) : (zs ++ [x]).getD i (.bool false) = zs.getD i (.bool false) := by simp [List.getD, List.getElem?_append_left h]
theorem getD_last (zs : List Value) (x : Value) : (zs ++ [x]).getD zs.length (.bool false) = x := by simp [List.getD]

set_option maxHeartbeats 8000000 in
set_option maxRecDepth 100000 in
theorem tables_any (v : Value) (T : List (List (List (Int × Int)))) (w : World) (hl : T.length * 24 ≤ 140737488355328) (hr : ∀ i, i < T.length → (T.getD i []).length * 24 ≤ 140737488355328) (hp : ∀ i, i < T.length → ∀ j, j < (T.getD i []).length → ((T.getD i []).getD j []).length * 16 ≤ 140737488355328) (h : TableC w w.heap.size v T) :
    Calls Try.prog 3 #[v] w fun e w' => e = .returned (.bool true) ∧ Below w.heap.size w w' := by
  obtain ⟨i1, hi, hz0, hz1, hz2⟩ := info_parts infoPoly
  obtain ⟨i2, hj, hy0, hy1, hy2⟩ := info_parts infoRow
  have HTC : Hid (TableC w w.heap.size v T) := h
  have HLR : Hid (∀ i, i < T.length → (T.getD i []).length * 24 ≤ 140737488355328) := hr
  have HLP : Hid (∀ i, i < T.length → ∀ j, j < (T.getD i []).length → ((T.getD i []).getD j []).length * 16 ≤ 140737488355328) := hp
  obtain ⟨rs, pss, hrl, ⟨a, cap, rfl, g⟩, hR⟩ := h
  rw [hrl] at g
  have HTC2 : Hid (TableC w w.heap.size (.slice a T.length cap) T) := (by have := HTC.out; rw [hrl] at this; exact this : TableC w w.heap.size (.slice a T.length cap) T)
  rw [hrl]
  have HG : Hid (0 < T.length → ∃ b off, a = some ⟨b, off, none⟩ ∧ b < w.heap.size ∧ ∀ i, i < T.length → w.cell? ⟨b, off + i, none⟩ = some (rs.getD i (.bool false))) := g
  have HR : Hid (∀ i, i < T.length → (pss i).length = (T.getD i []).length ∧ Slots w w.heap.size (rs.getD i (.bool false)) (pss i) ∧ ∀ j, j < (T.getD i []).length → Poly w w.heap.size ((pss i).getD j (.bool false)) ((T.getD i []).getD j [])) := fun i hi => ⟨(hR i hi).1, (hR i hi).2.1, (hR i hi).2.2.2⟩
  clear g hR hr hp HTC hrl
  go_enter Try.func3, Try.ntmps3
  go_wp2
  go_loopw [3, 4] (fun vc i wr => ∃ (r : Nat) (zs : List Value), r ≤ T.length ∧ i = .int .i64 r ∧ zs.length = r ∧ wr.ownsRow w.heap.size 23 1 vc zs.length zs ∧
      Hid (∀ i, i < r → RowOwn wr w.heap.size (zs.getD i (.bool false)) (T.getD i [])) ∧ Below w.heap.size w wr) (fun _ i _ => T.length - (intOf i).toNat)
  case atStart => exact ⟨0, [], Nat.zero_le _, rfl, rfl, World.ownsRow_nil _ _ _ _, fun i hi => absurd hi (Nat.not_lt_zero _), Below.refl _ _⟩
  case round =>
    rename World => W1
    obtain ⟨r, zs, hrn, rfl, hzl, hown, hrows, hb⟩ := hrel
    by_cases hlt : r < T.length
    · obtain ⟨b, off, rfl, hbw, hc⟩ := HG.out (by omega)
      have hszW := hb.size
      obtain ⟨hpl, ⟨a2, cap2, hv2, g2⟩, hPs⟩ := HR.out r hlt
      have HC0 : Hid (w.cell? ⟨b, off + r, none⟩ = some (.slice a2 (T.getD r []).length cap2)) := (by have := hc r hlt; rw [hv2, hpl] at this; exact this : w.cell? ⟨b, off + r, none⟩ = some (.slice a2 (T.getD r []).length cap2))
      rw [hpl] at g2
      have HG2 : Hid (0 < (T.getD r []).length → ∃ b off, a2 = some ⟨b, off, none⟩ ∧ b < w.heap.size ∧ ∀ i, i < (T.getD r []).length → w.cell? ⟨b, off + i, none⟩ = some ((pss r).getD i (.bool false))) := g2
      have HPs : Hid (∀ j, j < (T.getD r []).length → Poly w w.heap.size ((pss r).getD j (.bool false)) ((T.getD r []).getD j [])) := hPs
      have hlr := HLR.out r hlt
      have HLP2 : Hid (∀ j, j < (T.getD r []).length → ((T.getD r []).getD j []).length * 16 ≤ 140737488355328) := HLP.out r hlt
      have HOW : Hid (W1.ownsRow w.heap.size 23 1 _ zs.length zs) := hown
      have HRW : Hid (∀ i, i < r → RowOwn W1 w.heap.size (zs.getD i (.bool false)) (T.getD i [])) := hrows
      have HBW : Hid (Below w.heap.size w W1) := hb
      have HTR : Hid (∀ i, i < r + 1 → ∀ (zv : Value) (wx : World), RowOwn wx w.heap.size zv (T.getD r []) → i = r → RowOwn wx w.heap.size zv (T.getD i [])) := fun i _ zv wx hx he => by rw [he]; exact hx
      clear hc hv2 hpl g2 hPs hown hrows
      generalize T.getD r [] = R at HC0 HG2 HPs hlr HLP2 HTR
      generalize pss r = ps at HG2 HPs
      go_wp2
      go_loopw [5, 6] (fun vr i ws => ∃ (k : Nat) (ys : List Value), k ≤ R.length ∧ i = .int .i64 k ∧ ys.length = k ∧ ws.ownsRow W1.heap.size 24 1 vr ys.length ys ∧
          Hid (∀ j, j < k → ws.ownsRow W1.heap.size 111 2 (ys.getD j (.bool false)) (R.getD j []).length (flat (R.getD j []))) ∧ Below W1.heap.size W1 ws) (fun _ i _ => R.length - (intOf i).toNat)
      case atStart => exact ⟨0, [], Nat.zero_le _, rfl, rfl, World.ownsRow_nil _ _ _ _, fun i hi => absurd hi (Nat.not_lt_zero _), Below.refl _ _⟩
      case round =>
        clear hb
        rename World => W2
        obtain ⟨k, ys, hkn, rfl, hyl, hown, hpol, hb⟩ := hrel
        have hszX := hb.size
        have HB2 : Hid (Below w.heap.size w W2) := HBW.out.trans (hb.mono hszW)
        have c0 := bcell HB2.out hbw HC0.out
        have hbr : b < W2.heap.size := by omega
        by_cases hkl : k < R.length
        · obtain ⟨b2, off2, rfl, hbw2, hc2⟩ := HG2.out (by omega)
          have c1 := bcell HB2.out hbw2 (hc2 k hkl)
          have hbr2 : b2 < W2.heap.size := by omega
          have HQ : Hid (Poly W2 W2.heap.size (ps.getD k (.bool false)) (R.getD k [])) := ((HPs.out k hkl).on HB2.out).mono HB2.out.size
          have HQL : Hid ((R.getD k []).length * 16 ≤ 140737488355328) := HLP2.out k hkl
          have HRK : Hid (∀ i, i < k + 1 → ∀ (zv : Value) (wx : World), wx.ownsRow W1.heap.size 111 2 zv (R.getD k []).length (flat (R.getD k [])) → i = k → wx.ownsRow W1.heap.size 111 2 zv (R.getD i []).length (flat (R.getD i []))) := fun i _ zv wx hx he => by rw [he]; exact hx
          clear hc2
          generalize ps.getD k (.bool false) = pv at c1 HQ
          generalize R.getD k [] = l at HQ HQL HRK
          go_wp2_with (go_at_call 19; refine (terms_any pv l _ HQL.out HQ.out).mono ?_; rintro q w3 ⟨v7, rfl, hown7, hb7⟩; refine Hid.out ?_)
          refine Lib.hid ?_
          have hs3 := hb7.size
          obtain ⟨a7, c7, rfl⟩ := own_capS hown7
          have hgx : W2.grownBy w3 none := grown_below hb7 none
          have hown3 := own_any hown hgx
          have HPO : Hid (∀ j, j < k → w3.ownsRow W1.heap.size 111 2 (ys.getD j (.bool false)) (R.getD j []).length (flat (R.getD j []))) := fun j hj => own_any (hpol.out j hj) hgx
          have HO7 : Hid (w3.ownsRow W1.heap.size 111 2 (.slice a7 l.length c7) l.length (flat l)) := own_low hown7 hszX
          have HON : Hid (∀ u ∈ [Value.slice a7 l.length c7], u.oneCell' = true) := own_oneS hown7
          have HBX : Hid (Below W1.heap.size W1 w3) := hb.trans (hb7.mono hszX)
          clear hown hpol hown7 hb7 hgx c0 c1
          go_wp2_with (first
            | (at_builtin; refine wpList_append_own _ rfl _ _ 23 rfl W1.heap.size 24 i1 (.slice none 0 0) 1 24 Try.underlying23 hi hz0 hz1 hz2 rfl (by decide) _ _ _ rfl (hown3.alloc _) ⟨w3.heap.size, 0, none⟩ 1 1 [Value.slice a7 l.length c7] rfl rfl (new_cell1 _ _ _) HON.out (by unfold maxLen; omega) (by omega) (by simp; omega) ?_; intro v8 w8 hown8 hg8 _; go_frame))
          go_roundw
          case rel =>
            refine ⟨k + 1, ys ++ [Value.slice a7 l.length c7], by omega, by go_num, by simp; omega, by rw [List.length_append]; exact hown8, fun j hj => ?_, (HBX.out.alloc (by omega) _).grown hg8 (by simp; omega) (fun q hq => (hown3.lt q hq).1)⟩
            by_cases hjk : j < k
            · rw [getD_left ys _ j (by omega)]
              have h1 := (HPO.out j hjk).alloc (.cells #[Value.slice a7 l.length c7] 24)
              exact h1.kept hg8 (own_ne h1 (hown3.alloc _) (by decide))
            · have ej : j = ys.length := by omega
              have h1 := HO7.out.alloc (.cells #[Value.slice a7 l.length c7] 24)
              have e2 : (ys ++ [Value.slice a7 l.length c7]).getD j (.bool false) = Value.slice a7 l.length c7 := by rw [ej]; exact getD_last ys _
              rw [e2]
              exact HRK.out j hj _ _ (h1.kept hg8 (own_ne h1 (hown3.alloc _) (by decide))) (by omega)
          case measure => simp only [intOf]; omega
        · obtain rfl : k = R.length := by omega
          rw [hyl] at hown
          obtain ⟨a7, c7, rfl⟩ := own_capS hown
          have hgx : W1.grownBy W2 none := grown_below hb none
          have hown3 := own_any HOW.out hgx
          have HR3 : Hid (∀ i, i < r → RowOwn W2 w.heap.size (zs.getD i (.bool false)) (T.getD i [])) := fun i hi => (HRW.out i hi).any hgx
          have HRO : Hid (RowOwn W2 w.heap.size (.slice a7 R.length c7) R) := RowOwn.low ⟨ys, hyl, by rw [hyl]; exact hown, hpol.out⟩ hszW
          have HON : Hid (∀ u ∈ [Value.slice a7 R.length c7], u.oneCell' = true) := own_oneS hown
          clear hown hpol hgx
          go_wp2_with (first
            | (at_builtin; refine wpList_append_own _ rfl _ _ 22 rfl w.heap.size 23 i2 (.slice none 0 0) 1 24 Try.underlying22 hj hy0 hy1 hy2 rfl (by decide) _ _ _ rfl (hown3.alloc _) ⟨W2.heap.size, 0, none⟩ 1 1 [Value.slice a7 R.length c7] rfl rfl (new_cell1 _ _ _) HON.out (by unfold maxLen; omega) (by omega) (by simp; omega) ?_; intro v8 w8 hown8 hg8 _; go_frame))
          go_roundw
          case rel =>
            refine ⟨r + 1, zs ++ [Value.slice a7 R.length c7], by omega, by go_num, by simp; omega, by rw [List.length_append]; exact hown8, fun j hj => ?_, (HB2.out.alloc (by omega) _).grown hg8 (by simp; omega) (fun q hq => (hown3.lt q hq).1)⟩
            have hga : W2.grownBy (W2.alloc (.cells #[Value.slice a7 R.length c7] 23)) none := World.grownBy_alloc _ _ _
            by_cases hjk : j < r
            · rw [getD_left zs _ j (by omega)]
              exact ((HR3.out j hjk).any hga).other (hown3.alloc _) hg8
            · have ej : j = zs.length := by omega
              have e2 : (zs ++ [Value.slice a7 R.length c7]).getD j (.bool false) = Value.slice a7 R.length c7 := by rw [ej]; exact getD_last zs _
              rw [e2]
              exact HTR.out j hj _ _ ((HRO.out.any hga).other (hown3.alloc _) hg8) (by omega)
          case measure => simp only [intOf]; omega
    · obtain rfl : r = T.length := by omega
      have HTB : Hid (Table W1 W1.heap.size _ T) := table_own hzl hown hrows.out
      have HM0 : Hid (T.length ≤ maxLen) := (by unfold maxLen; omega : T.length ≤ maxLen)
      have HM1 : Hid (∀ i, i < T.length → (T.getD i []).length ≤ maxLen) := fun i hi => by have := HLR.out i hi; unfold maxLen; omega
      have HM2 : Hid (∀ i, i < T.length → ∀ j, j < (T.getD i []).length → ((T.getD i []).getD j []).length ≤ maxLen) := fun i hi j hj => by have := HLP.out i hi j hj; unfold maxLen; omega
      have HB1 : Hid (Below w.heap.size w W1) := hb
      clear hown hrows hb
      go_wp2_with (go_at_call 20; refine (det_any _ T _ HM0.out HM1.out HM2.out HTB.out).mono ?_; rintro q w3 ⟨vd, ld, rfl, hPd, hdn, hdy, hb3⟩; refine Hid.out ?_)
      refine Lib.hid ?_
      have HPd : Hid (Poly w3 w3.heap.size vd ld) := hPd
      have HDN : Hid (detMayN T ≠ 0 → ld = []) := hdn
      have HDY : Hid (detMayN T = 0 → GoodT T T.length ∧ T.length ≤ 6 ∧ Canon ld (detOf T)) := hdy
      have HB3 : Hid (Below w.heap.size w w3) := HB1.out.trans (hb3.mono HB1.out.size)
      have HT3 : Hid (TableC w3 w3.heap.size (.slice a T.length cap) T) := HTC2.out.up HB3.out
      clear hPd hdn hdy hb3
      go_wp2_with (go_at_call 21; refine (detMay_any _ T _ HM0.out HM1.out HM2.out HT3.out.table).mono ?_; rintro q w4 ⟨rfl, hb4⟩; refine Hid.out ?_)
      refine Lib.hid ?_
      have HP4 : Hid (Poly w4 w4.heap.size vd ld) := HPd.out.up hb4
      have HB4 : Hid (Below w.heap.size w w4) := HB3.out.trans (hb4.mono HB3.out.size)
      have HT4 : Hid (TableC w4 w4.heap.size (.slice a T.length cap) T) := HTC2.out.up HB4.out
      clear hb4 HPd HT3 HB3
      generalize detMayN T = m at HDN HDY
      by_cases hm : m = 0
      · subst hm
        obtain ⟨hgt, h6, hcan⟩ := HDY.out rfl
        have HGT : Hid (GoodT T T.length) := hgt
        have HCN : Hid (Canon ld (detOf T)) := hcan
        have HLN : Hid (ld.length ≤ maxLen) := (by
          have := canon_len hcan (1000 * T.length) (fun x hx => by have := det_supp T.length T hgt x hx; omega)
          unfold maxLen
          omega : ld.length ≤ maxLen)
        clear hgt hcan
        go_wp2_with (go_at_call 23; refine (det21 T.length h6 _ T _ HGT.out HT4.out).mono ?_; rintro q w5 ⟨vr, lr, rfl, hPr, hcr, hb5⟩; refine Hid.out ?_)
        refine Lib.hid ?_
        have HP5 : Hid (Poly w5 w5.heap.size vd ld) := HP4.out.up hb5
        have HB5 : Hid (Below w.heap.size w w5) := HB4.out.trans (hb5.mono HB4.out.size)
        have HPr : Hid (Poly w5 w5.heap.size vr lr) := hPr.1
        have HCr : Hid (Canon lr (detOf T)) := hcr
        clear hPr hcr hb5
        go_wp2_with (go_at_call 22; refine (same_canon vd vr ld lr (detOf T) _ HLN.out HP5.out HPr.out HCN.out HCr.out).mono ?_; rintro q w6 ⟨rfl, hb6⟩)
        go_ret
        exact ⟨rfl, HB5.out.trans (hb6.mono HB5.out.size)⟩
      · have hd : (m != 0) = true := by rw [bne_iff_ne]; exact hm
        have hld := HDN.out hm
        subst hld
        obtain ⟨a9, c9, rfl, -⟩ := HP4.out.slice
        have hz9 : ([] : List (Int × Int)).length = 0 := rfl
        rw [hz9]
        go_wp2
        go_ret
        exact ⟨rfl, HB4.out⟩
end Go.Proofs.Ytdbpiggohncjiaa.Poly
