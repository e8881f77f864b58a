/- Ends of strands: the walk of ref.EndsOf. -/
import Derived.Test.YtphhlflcghffbaaBR4
import Derived.Deep.Cut
namespace Go.Proofs.Ytphhlflcghffbaa
open Go.RowKit

/-- Places from 0 on. -/
def subl (L : List Int) : List Int := mapI L.length fun i => L.getD i 0 - 1
theorem subl_len (L : List Int) : (subl L).length = L.length := mapI_len _ _
theorem subl_at (L : List Int) (i : Nat) (h : i < L.length) : (subl L).getD i 0 = L.getD i 0 - 1 := mapI_at _ _ _ h
theorem trd_len (L : List Int) (i : Nat) : (trd L i).length = L.length := by unfold trd; simp
theorem subl_trd (L : List Int) (i : Nat) (h : i < L.length) : trd (subl L) i = subl (trd L i) := by
  apply List.ext_getElem?
  intro j
  by_cases hj : j < L.length
  · have h1 : (trd (subl L) i)[j]? = some ((trd (subl L) i).getD j 0) := by
      rw [List.getD_eq_getElem?_getD, List.getElem?_eq_getElem (by rw [trd_len, subl_len]; exact hj)]; rfl
    have h2 : (subl (trd L i))[j]? = some ((subl (trd L i)).getD j 0) := by
      rw [List.getD_eq_getElem?_getD, List.getElem?_eq_getElem (by rw [subl_len, trd_len]; exact hj)]; rfl
    rw [h1, h2, subl_at _ _ (by rw [trd_len]; exact hj)]
    unfold trd
    rw [getD_setI, getD_setI, getD_setI, getD_setI, List.length_set, List.length_set, subl_len, subl_at _ _ h, subl_at _ _ (show i - 1 < L.length by omega), subl_at _ _ hj]
    congr 1
    split
    · rfl
    · split <;> rfl
  · rw [List.getElem?_eq_none (by rw [trd_len, subl_len]; omega), List.getElem?_eq_none (by rw [subl_len, trd_len]; omega)]
theorem subl_first (n : Nat) (l : List Int) : (mapI n fun i => (i : Int) + 0) = subl (begT n l 0) := by
  have e : begT n l 0 = mapI n fun i => (i : Int) + 1 := rfl
  rw [e]
  unfold subl
  rw [mapI_len]
  exact mapI_congr _ _ _ fun j hj => by rw [mapI_at _ _ _ hj]; omega

set_option maxHeartbeats 8000000 in
set_option maxRecDepth 100000 in
theorem endsOf_any (a : Option Addr) (c n : Nat) (l : List Int) (w : World) (hn : wordN (n : Int) l = 0) (h : RdAt w w.heap.size 1 (.slice a l.length c) l.length (intsV l)) :
    Calls Try.prog 43 #[.int .i64 (n : Nat), .slice a l.length c] w fun e w' => ∃ a2 c2, e = .returned (.slice a2 n c2) ∧ RdAt w' w'.heap.size 1 (.slice a2 n c2) n (intsV (endT (begT n l l.length) n)) ∧ Below w.heap.size w w' := by
  obtain ⟨n2, n6, hlet, hl20⟩ := wordN_ok hn
  have HLT : Hid (∀ j, j < l.length → l.getD j 0 ≠ 0 ∧ -(n : Int) < l.getD j 0 ∧ l.getD j 0 < (n : Int)) := hlet
  have HAB : Hid (∀ j, j < l.length → (l.getD j 0).natAbs < n) := fun j hj => by have := hlet j hj; omega
  have HPL : Hid (∀ k, k ≤ l.length → PlOk n (begT n l k)) := fun k hk => begT_ok n l HAB.out k hk
  have HNX : Hid (∀ k, k < l.length → begT n l (k + 1) = trd (begT n l k) (l.getD k 0).natAbs) := fun k hk => begT_next n l k hk
  have HRD : Hid (RdAt w w.heap.size 1 (.slice a l.length c) l.length (intsV l)) := h
  have hn6 : n ≤ 6 := by omega
  obtain ⟨i0, hi, hz0, hz1, hz2⟩ := info_parts infoInt
  clear h hn hlet
  obtain ⟨m, hm⟩ : ∃ m, l.length = m := ⟨_, rfl⟩
  have HM : Hid (l.length = m) := hm
  rw [hm] at hl20 HLT HAB HPL HNX ⊢
  clear hm
  go_enter Try.func43, Try.ntmps43
  go_wp2_with (first | (at_make; refine wpList_make_full _ rfl _ _ 53 rfl w.heap.size 3 i0 (.int .i64 0) 1 Try.underlying53 hi hz0 hz1 .i64 .i64 _ _ n rfl rfl rfl rfl (by rw [hz2]; omega) (by unfold maxLen; omega) (by simp) ?_; intro w1 hrow1 hg1; refine Hid.out ?_))
  refine Lib.hid ?_
  rw [made_zero, plTo_zero n 0] at hrow1
  obtain ⟨g, hg⟩ : ∃ g, w.heap.size = g := ⟨_, rfl⟩
  have HG : Hid (w.heap.size = g) := hg
  have HB1 : Hid (Below w.heap.size w w1) := (Below.refl _ _).grown hg1 (Nat.le_refl _) (fun k hk => by cases hk)
  rw [hg] at hrow1
  rw [hg]
  have HR1 : Hid (w1.ownsRow g 3 1 (.slice (some ⟨g, 0, none⟩) n n) n (intsV (mapI n (plTo 0 0)))) := hrow1
  clear hrow1 hg1 hg
  go_wp2
  go_loopw [6] (fun v6 wr => ∃ k : Nat, k ≤ n ∧ v6 = .int .i64 (k : Nat) ∧ Hid (wr.ownsRow g 3 1 (.slice (some ⟨g, 0, none⟩) n n) n (intsV (mapI n (plTo 0 k)))) ∧ Hid (Below w.heap.size w wr)) (fun v6 _ => n - (intOf v6).toNat)
  case atStart => exact ⟨0, Nat.zero_le _, rfl, HR1.out, HB1.out⟩
  case round =>
    clear HR1 HB1
    rename World => W1
    obtain ⟨k, hkn, rfl, hp, hb⟩ := hrel
    by_cases hk : k < n
    · have hkI : (k : Int) < (n : Int) := by omega
      have e0 := hp.out.cellAt k (by omega)
      rw [intsV_get _ k (by rw [mapI_len]; exact hk)] at e0
      have f0 := hp.out.frozenAt k
      have lg := (hp.out.lt g rfl).2
      have hst := hp.out.stored k (.int .i64 ((k : Int) + 0))
      rw [intsV_set, plTo_next, Int.add_zero] at hst
      have HST : Hid ((W1.setCell ⟨g, k, none⟩ (.int .i64 (k : Int))).ownsRow g 3 1 (.slice (some ⟨g, 0, none⟩) n n) n (intsV (mapI n (plTo 0 (k + 1))))) := hst.1
      have HBS : Hid (Below w.heap.size w (W1.setCell ⟨g, k, none⟩ (.int .i64 (k : Int)))) := hb.out.grown hst.2 hb.out.size (fun x hx => by have h1 : g = x := Option.some.inj hx; have := HG.out; omega)
      clear hst
      generalize (mapI n (plTo 0 k)).getD k 0 = z at e0
      go_wp2
      go_roundw
      case rel => exact ⟨k + 1, by omega, by go_num, HST.out, HBS.out⟩
      case measure => simp only [intOf]; omega
    · obtain rfl : n = k := by omega
      rw [plTo_all, subl_first n l] at hp
      have HR2 : Hid (W1.ownsRow g 3 1 (.slice (some ⟨g, 0, none⟩) n n) n (intsV (subl (begT n l 0)))) := hp.out
      have HB2 : Hid (Below w.heap.size w W1) := hb.out
      clear hp hb
      go_wp2
      go_loopw [7] (fun v7 wr => ∃ k : Nat, k ≤ m ∧ v7 = .int .i64 (k : Nat) ∧ Hid (wr.ownsRow g 3 1 (.slice (some ⟨g, 0, none⟩) n n) n (intsV (subl (begT n l k)))) ∧ Hid (Below w.heap.size w wr)) (fun v7 _ => m - (intOf v7).toNat)
      case atStart => exact ⟨0, Nat.zero_le _, rfl, HR2.out, HB2.out⟩
      case round =>
        clear HR2 HB2
        rename World => W2
        obtain ⟨k, hkm, rfl, hp, hb⟩ := hrel
        by_cases hk : k < m
        · have hkI : (k : Int) < (m : Int) := by omega
          obtain ⟨b, off, ea, hlt, hc⟩ := (HRD.out.on hb.out).intAt k (by rw [HM.out]; exact hk)
          obtain ⟨q1, q2, q3⟩ := HLT.out k hk
          have hq := HAB.out k hk
          have HN := HNX.out k hk
          have HPK := HPL.out k (by omega)
          generalize l.getD k 0 = x at hc q1 q2 q3 hq HN
          have HSZ : Hid (∀ W, Calls Try.prog 88 #[.int .i64 x] W fun e w' => e = .returned (.int .i64 (x.natAbs : Int)) ∧ w' = W) := fun W => absR_any x W (by omega) (by omega)
          obtain ⟨i, hi⟩ : ∃ i, x.natAbs = i := ⟨_, rfl⟩
          have hi1 : 1 ≤ i := by omega
          rw [hi] at HSZ HN hq
          obtain ⟨j, hij⟩ : ∃ j, i = j + 1 := ⟨i - 1, by omega⟩
          obtain ⟨S, hS⟩ : ∃ S, subl (begT n l k) = S := ⟨_, rfl⟩
          have hSl : S.length = n := by rw [← hS, subl_len, HPK.ln]
          have HSN : Hid (subl (begT n l (k + 1)) = trd S i) := (by rw [HN, ← subl_trd _ _ (by rw [HPK.ln]; exact hq), hS] : subl (begT n l (k + 1)) = trd S i)
          rw [hS] at hp
          have e0 : W2.cell? ⟨g, j, none⟩ = some (.int .i64 (S.getD j 0)) := by rw [hp.out.cellAt j (by omega), intsV_get _ j (by omega)]
          have e1 : W2.cell? ⟨g, i, none⟩ = some (.int .i64 (S.getD i 0)) := by rw [hp.out.cellAt i (by omega), intsV_get _ i (by omega)]
          have f0 : W2.frozen? ⟨g, j, none⟩ = false := hp.out.frozenAt j
          have f1 : W2.frozen? ⟨g, i, none⟩ = false := hp.out.frozenAt i
          have hst := hp.out.stored j (.int .i64 (S.getD i 0))
          have hst2 := hst.1.stored i (.int .i64 (S.getD j 0))
          have etr : (S.set j (S.getD i 0)).set i (S.getD j 0) = trd S i := by unfold trd; rw [show i - 1 = j by omega]
          rw [intsV_set, intsV_set, etr, ← HSN.out] at hst2
          obtain ⟨y0, hy0⟩ : ∃ y, S.getD j 0 = y := ⟨_, rfl⟩
          obtain ⟨y1, hy1⟩ : ∃ y, S.getD i 0 = y := ⟨_, rfl⟩
          rw [hy0] at e0 hst2
          rw [hy1] at e1 hst hst2
          have HST : Hid (((W2.setCell ⟨g, j, none⟩ (.int .i64 y1)).setCell ⟨g, i, none⟩ (.int .i64 y0)).ownsRow g 3 1 (.slice (some ⟨g, 0, none⟩) n n) n (intsV (subl (begT n l (k + 1)))) ∧ W2.grownBy ((W2.setCell ⟨g, j, none⟩ (.int .i64 y1)).setCell ⟨g, i, none⟩ (.int .i64 y0)) (some g)) := ⟨hst2.1, grown_trans hst.2 hst2.2⟩
          have hgw := (hp.out.lt g rfl).2
          have hiI : (i : Int) < (n : Int) := by omega
          have hjI : (j : Int) < (n : Int) := by omega
          have hne : j ≠ i := by omega
          have hjn : j < n := by omega
          have ew : IntKind.i64.wrap ((i : Int) - 1) = (j : Int) := by rw [IntWalk.i64_in _ (by omega)]; omega
          have lb : b < W2.heap.size := Nat.lt_of_lt_of_le hlt hb.out.size
          subst ea
          clear hst hst2 etr hy0 hy1 hij hSl hS hi HN HPK q1 q2 q3 hi1
          go_wp2_with (go_at_call 88; refine (HSZ.out _).mono ?_; rintro e9 w5 ⟨rfl, rfl⟩; refine Hid.out ?_)
          refine Lib.hid ?_
          clear HSZ
          go_upto_region 10 with (fail)
          apply cut_one
          case h =>
            intro key
            go_region_with (fail)
            all_goals exact key.out
          obtain ⟨X, hX⟩ : ∃ X, X = ((w5.setCell ⟨g, j, none⟩ (.int .i64 y1)).setCell ⟨g, i, none⟩ (.int .i64 y0)).drew := ⟨_, rfl⟩
          have HX : Hid (X.ownsRow g 3 1 (.slice (some ⟨g, 0, none⟩) n n) n (intsV (subl (begT n l (k + 1))))) := (by rw [hX]; exact own_any HST.out.1 (grown_below ((Below.refl _ _).drew) none))
          have HBX : Hid (Below w.heap.size w X) := (by
            rw [hX]
            have h1 := hb.out.grown HST.out.2 hb.out.size (fun x hx => by have h1 : g = x := Option.some.inj hx; have := HG.out; omega)
            exact h1.trans ((Below.refl _ _).drew.mono h1.size))
          rw [← hX]
          clear hX HST e0 e1 f0 f1
          go_wp2
          go_roundw
          case rel => exact ⟨k + 1, by omega, by go_num, HX.out, HBX.out⟩
          case measure => simp only [intOf]; omega
        · obtain rfl : m = k := by omega
          have HPM := HPL.out m (Nat.le_refl _)
          obtain ⟨T, hT⟩ : ∃ T, begT n l m = T := ⟨_, rfl⟩
          have HTT : Hid (begT n l m = T) := hT
          rw [hT] at hp HPM
          have HP : Hid (PlOk n T) := HPM
          have HW : Hid (W2.ownsRow g 3 1 (.slice (some ⟨g, 0, none⟩) n n) n (intsV (subl T))) := hp.out
          have HBW : Hid (Below w.heap.size w W2) := hb.out
          clear hT hp hb HPM hk hkm
          go_wp2_with (first | (at_make; refine wpList_make_full _ rfl _ _ 53 rfl W2.heap.size 3 i0 (.int .i64 0) 1 Try.underlying53 hi hz0 hz1 .i64 .i64 _ _ n rfl rfl rfl rfl (by rw [hz2]; omega) (by unfold maxLen; omega) (by simp) ?_; intro w3 hrow3 hg3; refine Hid.out ?_))
          refine Lib.hid ?_
          rw [made_zero] at hrow3
          obtain ⟨g3, hg3e⟩ : ∃ g3, W2.heap.size = g3 := ⟨_, rfl⟩
          have HG3 : Hid (W2.heap.size = g3) := hg3e
          have HB3 : Hid (Below W2.heap.size W2 w3) := (Below.refl _ _).grown hg3 (Nat.le_refl _) (fun k hk => by cases hk)
          rw [hg3e] at hrow3
          rw [hg3e]
          have HR3 : Hid (w3.ownsRow g3 3 1 (.slice (some ⟨g3, 0, none⟩) n n) n (intsV (endT T 0))) := (by
            have e : endT T 0 = List.replicate n 0 := by show List.replicate T.length 0 = _; rw [HP.out.ln]
            rw [e]
            exact hrow3)
          clear hrow3 hg3 hg3e
          go_wp2
          go_loopw [10] (fun v10 wr => ∃ k : Nat, k ≤ n ∧ v10 = .int .i64 (k : Nat) ∧ Hid (wr.ownsRow g3 3 1 (.slice (some ⟨g3, 0, none⟩) n n) n (intsV (endT T k))) ∧ Hid (Below W2.heap.size W2 wr)) (fun v10 _ => n - (intOf v10).toNat)
          case atStart => exact ⟨0, Nat.zero_le _, rfl, HR3.out, HB3.out⟩
          case round =>
            clear HR3 HB3
            rename World => W3
            obtain ⟨k, hkn, rfl, hp, hb⟩ := hrel
            by_cases hk : k < n
            · have hkI : (k : Int) < (n : Int) := by omega
              have hll := HP.out.ln
              have lg2 : g < W2.heap.size := (HW.out.lt g rfl).2
              have hc : W3.cell? ⟨g, k, none⟩ = some (.int .i64 (T.getD k 0 - 1)) := bcell hb.out lg2 (by rw [HW.out.cellAt k (by omega), intsV_get _ k (by rw [subl_len]; omega), subl_at _ _ (by omega)])
              obtain ⟨r1, r2⟩ := HP.out.rng k hk
              have HEN : Hid (endT T (k + 1) = (endT T k).set (T.getD k 0 - 1).toNat ((k : Int) + 1)) := endT_next T k
              obtain ⟨q, hq⟩ : ∃ q : Nat, T.getD k 0 - 1 = (q : Int) := ⟨(T.getD k 0 - 1).toNat, by omega⟩
              rw [hq] at hc HEN
              have hqn : q < n := by omega
              have hqI : (q : Int) < (n : Int) := by omega
              have HEN2 : Hid (endT T (k + 1) = (endT T k).set q ((k : Int) + 1)) := (by rw [HEN.out, Int.toNat_natCast] : endT T (k + 1) = (endT T k).set q ((k : Int) + 1))
              have e0 := hp.out.cellAt q (by omega)
              rw [intsV_get _ q (by rw [endT_len, hll]; exact hqn)] at e0
              generalize (endT T k).getD q 0 = z at e0
              have f0 := hp.out.frozenAt q
              have lg := (hp.out.lt g3 rfl).2
              have lg1 : g < W3.heap.size := Nat.lt_of_lt_of_le lg2 hb.out.size
              have hst := hp.out.stored q (.int .i64 ((k : Int) + 1))
              rw [intsV_set, ← HEN2.out] at hst
              have HST : Hid ((W3.setCell ⟨g3, q, none⟩ (.int .i64 ((k : Int) + 1))).ownsRow g3 3 1 (.slice (some ⟨g3, 0, none⟩) n n) n (intsV (endT T (k + 1)))) := hst.1
              have HBS : Hid (Below W2.heap.size W2 (W3.setCell ⟨g3, q, none⟩ (.int .i64 ((k : Int) + 1)))) := hb.out.grown hst.2 hb.out.size (fun x hx => by have h1 : g3 = x := Option.some.inj hx; have := HG3.out; omega)
              clear hst HEN HEN2 hll r1 r2 hq lg2
              go_wp2
              go_roundw
              case rel => exact ⟨k + 1, by omega, by go_num, HST.out, HBS.out⟩
              case measure => simp only [intOf]; omega
            · obtain rfl : k = n := by omega
              have HFN : Hid (RdAt W3 W3.heap.size 1 (.slice (some ⟨g3, 0, none⟩) k k) k (intsV (endT (begT k l m) k)) ∧ Below w.heap.size w W3) := ⟨by rw [HTT.out]; exact own_rd hp.out, HBW.out.trans (hb.out.mono HBW.out.size)⟩
              go_wp2
              go_ret
              exact ⟨_, _, rfl, HFN.out⟩
end Go.Proofs.Ytphhlflcghffbaa
