/- Several texts of the proof, one behind the other. -/
import Derived.Test.YtnlcknlodjjdbaaDoorTS2
import Derived.Test.YtnlcknlodjjdbaaDoorTS3
import Derived.Test.YtnlcknlodjjdbaaDoorTS0P
import Derived.Test.YtnlcknlodjjdbaaDoorTS1P
/- What was reckoned, told of every fraction. -/
namespace Go.Proofs.YtnlcknlodjjdbaaDoor

theorem fr_all (i : Nat) (hi : i < 20) : okX (1 + 2 * i) = true := by
  match i, hi with
  | 0, _ => exact ok_1
  | 1, _ => exact ok_3
  | 2, _ => exact ok_5
  | 3, _ => exact ok_7
  | 4, _ => exact ok_9
  | 5, _ => exact ok_11
  | 6, _ => exact ok_13
  | 7, _ => exact ok_15
  | 8, _ => exact ok_17
  | 9, _ => exact ok_19
  | 10, _ => exact ok_21
  | 11, _ => exact ok_23
  | 12, _ => exact ok_25
  | 13, _ => exact ok_27
  | 14, _ => exact ok_29
  | 15, _ => exact ok_31
  | 16, _ => exact ok_33
  | 17, _ => exact ok_35
  | 18, _ => exact ok_37
  | 19, _ => exact ok_39
  | n + 20, h => exact absurd h (by omega)
theorem fr_one {x y : Nat} (h : okX x = true) (h1 : 1 ≤ y) (h2 : y ≤ x) : okY x y = true := by
  unfold okX at h
  rw [List.all_eq_true] at h
  have := h (y - 1) (List.mem_range.2 (by omega))
  rw [Bool.and_eq_true, show y - 1 + 1 = y by omega] at this
  exact this.1
theorem fr_two {x y z : Nat} (h : okX x = true) (h1 : 1 ≤ y) (h2 : y ≤ x) (h3 : 1 ≤ z) (h4 : z ≤ x) : okZ x y z = true := by
  unfold okX at h
  rw [List.all_eq_true] at h
  have := h (y - 1) (List.mem_range.2 (by omega))
  rw [Bool.and_eq_true, List.all_eq_true] at this
  have := this.2 (z - 1) (List.mem_range.2 (by omega))
  rw [show y - 1 + 1 = y by omega, show z - 1 + 1 = z by omega] at this
  exact this
theorem fr_may {x y : Nat} (h : okY x y = true) (hl : lowB x y = true) (hn : frN x y ≤ 10) : listN (frL x y) = 0 ∧ noN (frC x y) (lkO (frL x y)) = 0 := by
  unfold okY at h
  rw [hl, show decide (10 < frN x y) = false from decide_eq_false (by omega)] at h
  simpa using h
theorem frC_len (x y : Nat) : (frC x y).length = frN x y := by simp [frC, lkC, frN]
theorem fr_same {x y z : Nat} (h : okZ x y z = true) (hy : okY x y = true) (hz : okY x z = true) (hl : lowB x y = true) (hl2 : lowB x z = true) (hs : sameF x y x z = true) (hn : frN x y ≤ 10) (hn2 : frN x z ≤ 10) :
    Poly.jnF (frC x y) (lkO (frL x y)) = Poly.jnF (frC x z) (lkO (frL x z)) := by
  have e : frJ x y = frJ x z := by
    unfold okZ at h
    rw [hl, hl2, hs, show decide (10 < frN x y) = false from decide_eq_false (by omega), show decide (10 < frN x z) = false from decide_eq_false (by omega)] at h
    simpa using h
  have m1 := (noN_zero (fr_may hy hl hn).2).1
  have m2 := (noN_zero (fr_may hz hl2 hn2).2).1
  rw [Poly.jnE_is m1 (by rw [frC_len]; omega), Poly.jnE_is m2 (by rw [frC_len]; omega)]
  unfold frJ at e
  rw [e]
end Go.Proofs.YtnlcknlodjjdbaaDoor
/- The law TangleSchubert: its walk. -/
namespace Go.Proofs.YtnlcknlodjjdbaaDoor
open Go.RowKit Go.Maps

/-- What is left behind the numbers' choice. -/
theorem sameF_turn (x y z : Int) : sameF x z x y = sameF x y x z := by
  unfold sameF
  refine decide_eq_decide.2 ⟨fun h => ⟨rfl, ?_⟩, fun h => ⟨rfl, ?_⟩⟩
  · rw [Int.mul_comm y z]; exact h.2.imp Eq.symm id
  · rw [Int.mul_comm z y]; exact h.2.imp Eq.symm id
theorem polyC_len {w : World} {B : Nat} {v : Value} {l : List (Int × Int)} (h : Poly.PolyC w B v l) : l.length ≤ maxLen := by
  obtain ⟨h1, a, n, c, rfl, h2, h3⟩ := h
  obtain ⟨a1, c1, e, -⟩ := h1.slice
  injection e with e1 e2 e3
  omega
theorem box_cells {w V : World} {a : Value} {x : Value} (h : w.alloc (.cells #[a, x] 32) = V) : ∀ W, Below V.heap.size V W → W.cell? ⟨w.heap.size, 0, none⟩ = some a ∧ W.cell? ⟨w.heap.size, 1, none⟩ = some x ∧ w.heap.size < W.heap.size := fun W hW => by
  have h0 : V.heap[w.heap.size]? = some (.cells #[a, x] 32 (0, 0)) := by rw [← h]; exact heap_alloc_new _ _
  have g0 := (hW.block _ (Array.getElem?_eq_some_iff.1 h0).1).trans h0
  exact ⟨block_cell g0 rfl, block_cell g0 rfl, (Array.getElem?_eq_some_iff.1 g0).1⟩
theorem total_fr {X Y i : Nat} (hX : 1 + 2 * i = X) (hi : i < 20) (h1 : 1 ≤ Y) (h2 : Y ≤ X) (a : Option Addr) (cap : Nat) (W : World) (h : RdAt W W.heap.size 1 (.slice a (frL X Y).length cap) (frL X Y).length (intsV (frL X Y))) :
    Calls Tryd.prog 7 #[.slice a (frL X Y).length cap] W fun e w' => e = .returned (.int .i64 (frN X Y : Nat)) ∧ Below W.heap.size W w' := by
  subst hX
  obtain ⟨g1, g2⟩ := fr_nn i Y hi h1 h2
  exact total_any a cap _ W g1 g2 h
theorem link_fr {X Y i : Nat} (hX : 1 + 2 * i = X) (hi : i < 20) (h1 : 1 ≤ Y) (h2 : Y ≤ X) (hl : lowB X Y = true) (hn : frN X Y ≤ 10) (a : Option Addr) (cap : Nat) (W : World) (h : RdAt W W.heap.size 1 (.slice a (frL X Y).length cap) (frL X Y).length (intsV (frL X Y))) :
    Calls Tryd.prog 8 #[.slice a (frL X Y).length cap] W fun e w' => ∃ a2 cap2, e = .returned (.tuple #[.agg #[.slice a2 (frN X Y) cap2, .int .i64 (lkO (frL X Y) : Nat)], .int .i64 0]) ∧ Crs w' w'.heap.size (.slice a2 (frN X Y) cap2) (frC X Y) ∧ Below W.heap.size W w' := by
  subst hX
  obtain ⟨g1, g2⟩ := fr_nn i Y hi h1 h2
  exact link_yes a cap _ W (by omega) (fr_may (fr_one (fr_all i hi) h1 h2) hl hn).1 h
theorem jones_fr (hFR : FaceRingsOk) {X Y i : Nat} (hX : 1 + 2 * i = X) (hi : i < 20) (h1 : 1 ≤ Y) (h2 : Y ≤ X) (hl : lowB X Y = true) (hn : frN X Y ≤ 10) (v : Value) (W : World) (h : Crs W W.heap.size v (frC X Y)) (hR : Poly.RingAt W) :
    Calls Tryd.prog 9 #[.agg #[v, .int .i64 (lkO (frL X Y) : Nat)]] W fun e w' => ∃ v l, e = .returned (.tuple #[v, .int .i64 0]) ∧ Poly.PolyC w' w'.heap.size v l ∧ Poly.Canon l (Poly.jnF (frC X Y) (lkO (frL X Y))) ∧ Below W.heap.size W w' := by
  subst hX
  exact Poly.jones_yes hFR v _ _ _ W rfl (fr_may (fr_one (fr_all i hi) h1 h2) hl hn).2 (by rw [frC_len]; omega) h hR
theorem expand_fr {X Y : Nat} (hl : lowB X Y = true) (W : World) :
    Calls Tryd.prog 6 #[.int .i64 (X : Nat), .int .i64 (Y : Nat)] W fun e w' => ∃ a c, e = .returned (.tuple #[.slice a (frL X Y).length c, .int .i64 0]) ∧ RdAt w' w'.heap.size 1 (.slice a (frL X Y).length c) (frL X Y).length (intsV (frL X Y)) ∧ Below W.heap.size W w' := by
  refine (expand_yes X Y W hl).mono ?_
  rw [Int.toNat_natCast, Int.toNat_natCast]
  rintro e w' ⟨a, c, rfl, h, hb⟩
  exact ⟨a, c, rfl, own_rd h, hb⟩
def SchEnd (w : World) (e : Ending) (w' : World) : Prop := e = .returned (.bool true) ∧ Below w.heap.size w w'
set_option maxHeartbeats 4000000 in
set_option maxRecDepth 100000 in
theorem tangleSchubert_any (hFR : FaceRingsOk) (p q s : Int) (w : World) (hR : Poly.RingAt w) (hp : -9223372036854775808 ≤ p ∧ p ≤ 9223372036854775807) (hq : -9223372036854775808 ≤ q ∧ q ≤ 9223372036854775807) (hs : -9223372036854775808 ≤ s ∧ s ≤ 9223372036854775807) :
    Calls Tryd.prog 3 #[.int .i64 p, .int .i64 q, .int .i64 s] w (SchEnd w) := by
  have HP := Poly.hid_mkP hp
  have HQ := Poly.hid_mkP hq
  have HS := Poly.hid_mkP hs
  have HFR := Poly.hid_mkP hFR
  have HRG := Poly.hid_mkP hR
  clear hp hq hs hFR hR
  go_enter Tryd.func3, Tryd.ntmps3
  go_wp2_with (go_at_call 4; refine (picked_any p 20 _ HP.out (by decide) (by decide)).mono ?_; rintro e9 w9 ⟨i, rfl, hi, hw⟩; replace hw := hw.symm; subst hw; refine Hid.out ?_)
  refine Lib.hid ?_
  have en : IntKind.i64.wrap (1 + 2 * (i : Int)) = ((1 + 2 * i : Nat) : Int) := (IntWalk.i64_in _ (by omega)).trans (by omega)
  have en2 : IntKind.i64.wrap (2 * (i : Int)) = 2 * (i : Int) := IntWalk.i64_in _ (by omega)
  have HI := Poly.hid_mkP hi
  generalize hX : 1 + 2 * i = X at en
  have hXr : 1 ≤ X ∧ X ≤ 39 := by omega
  go_wp2_with (go_at_call 4; refine (picked_any q X _ HQ.out (by omega) (by omega)).mono ?_; rintro e9 w9 ⟨j, rfl, hj, hw⟩; replace hw := hw.symm; subst hw; refine Hid.out ?_)
  refine Lib.hid ?_
  have HJ := Poly.hid_mkP hj
  have ej : IntKind.i64.wrap (1 + (j : Int)) = ((1 + j : Nat) : Int) := (IntWalk.i64_in _ (by omega)).trans (by omega)
  generalize hY : 1 + j = Y at ej
  go_wp2_with (go_at_call 4; refine (picked_any s X _ HS.out (by omega) (by omega)).mono ?_; rintro e9 w9 ⟨k, rfl, hk, hw⟩; replace hw := hw.symm; subst hw; refine Hid.out ?_)
  refine Lib.hid ?_
  have ek : IntKind.i64.wrap (1 + (k : Int)) = ((1 + k : Nat) : Int) := (IntWalk.i64_in _ (by omega)).trans (by omega)
  generalize hZ : 1 + k = Z at ek
  have HY : Hid (1 ≤ Y ∧ Y ≤ X) := (by omega : 1 ≤ Y ∧ Y ≤ X)
  have HZ : Hid (1 ≤ Z ∧ Z ≤ X) := (by omega : 1 ≤ Z ∧ Z ≤ X)
  have HX := Poly.hid_mkP hX
  clear hY hZ hj hk hX hi
  by_cases hbad : lowB X Y = false ∨ lowB X Z = false
  · have HSA := Poly.hid_mkP (fun W => same_bad X Y X Z W hbad)
    have HSB := Poly.hid_mkP (fun W => same_bad X Z X Y W hbad.symm)
    have HSC := Poly.hid_mkP (fun W => same_good 5 2 5 3 W (by decide) (by decide))
    go_wp2_with (go_at_call 5; refine (HSA.out _).mono ?_; rintro e9 w1 ⟨rfl, hb1⟩; refine Hid.out ?_)
    refine Lib.hid ?_
    go_wp2_with (go_at_call 5; refine (HSB.out _).mono ?_; rintro e9 w2 ⟨rfl, hb2⟩; refine Hid.out ?_)
    refine Lib.hid ?_
    go_wp2_with (go_at_call 5; refine (HSC.out _).mono ?_; rw [show sameF 5 2 5 3 = true by decide]; rintro e9 w3 ⟨rfl, hb3⟩; refine Hid.out ?_)
    refine Lib.hid ?_
    have HB : Hid (Below w.heap.size w w3) := (hb1.trans (hb2.mono hb1.size)).trans (hb3.mono (hb1.trans (hb2.mono hb1.size)).size)
    go_wp2
    go_ret
    exact ⟨rfl, HB.out⟩
  · have h1 : lowB X Y = true := by
      cases hh : lowB X Y with
      | true => rfl
      | false => exact absurd (Or.inl hh) hbad
    have h2 : lowB X Z = true := by
      cases hh : lowB X Z with
      | true => rfl
      | false => exact absurd (Or.inr hh) hbad
    obtain ⟨y1, y2⟩ := HY.out
    obtain ⟨z1, z2⟩ := HZ.out
    have HSA := Poly.hid_mkP (fun W => same_good X Y X Z W h1 h2)
    have HSB := Poly.hid_mkP (fun W => same_good X Z X Y W h2 h1)
    rw [sameF_turn X Y Z] at HSB
    have HSC := Poly.hid_mkP (fun W => same_good 5 2 5 3 W (by decide) (by decide))
    have HEA := Poly.hid_mkP (fun W => expand_fr h1 W)
    have HEB := Poly.hid_mkP (fun W => expand_fr h2 W)
    have HTA := Poly.hid_mkP (fun a c W h => total_fr HX.out HI.out y1 y2 a c W h)
    have HTB := Poly.hid_mkP (fun a c W h => total_fr HX.out HI.out z1 z2 a c W h)
    have HLA := Poly.hid_mkP (fun hn a c W h => link_fr HX.out HI.out y1 y2 h1 hn a c W h)
    have HLB := Poly.hid_mkP (fun hn a c W h => link_fr HX.out HI.out z1 z2 h2 hn a c W h)
    have HJA := Poly.hid_mkP (fun hn v W h hr => jones_fr HFR.out HX.out HI.out y1 y2 h1 hn v W h hr)
    have HJB := Poly.hid_mkP (fun hn v W h hr => jones_fr HFR.out HX.out HI.out z1 z2 h2 hn v W h hr)
    have HFS : Hid (sameF X Y X Z = true → frN X Y ≤ 10 → frN X Z ≤ 10 → Poly.jnF (frC X Y) (lkO (frL X Y)) = Poly.jnF (frC X Z) (lkO (frL X Z))) := fun hs n1 n2 => by
      have hall := fr_all i HI.out
      rw [HX.out] at hall
      exact fr_same (fr_two hall y1 y2 z1 z2) (fr_one hall y1 y2) (fr_one hall z1 z2) h1 h2 hs n1 n2
    generalize frL X Y = LA at HEA HTA HLA HJA HFS
    generalize frL X Z = LB at HEB HTB HLB HJB HFS
    generalize frC X Y = CA at HLA HJA HFS
    generalize frC X Z = CB at HLB HJB HFS
    generalize frN X Y = nA at HTA HLA HJA HFS
    generalize frN X Z = nB at HTB HLB HJB HFS
    generalize lkO LA = oA at HLA HJA HFS
    generalize lkO LB = oB at HLB HJB HFS
    generalize sameF X Y X Z = B at HSA HSB HFS
    clear hbad h1 h2 y1 y2 z1 z2 HFR HX HI HJ HY HZ HP HQ HS
    have h55 : ((0 : Int) == 0) = true := rfl
    cases B
    · go_wp2_with (go_at_call 5; refine (HSA.out _).mono ?_; rintro e9 w1 ⟨rfl, hb1⟩; refine Hid.out ?_)
      refine Lib.hid ?_
      go_wp2_with (go_at_call 5; refine (HSB.out _).mono ?_; rintro e9 w2 ⟨rfl, hb2⟩; refine Hid.out ?_)
      refine Lib.hid ?_
      go_wp2_with (go_at_call 5; refine (HSC.out _).mono ?_; rw [show sameF 5 2 5 3 = true by decide]; rintro e9 w3 ⟨rfl, hb3⟩; refine Hid.out ?_)
      refine Lib.hid ?_
      have HB3 : Hid (Below w.heap.size w w3) := (hb1.trans (hb2.mono hb1.size)).trans (hb3.mono (hb1.trans (hb2.mono hb1.size)).size)
      clear hb1 hb2 hb3
      go_wp2_with (go_at_call 6; refine (HEA.out _).mono ?_; rintro e9 w4 ⟨a4, c4, rfl, hr4, hb4⟩; refine Hid.out ?_)
      refine Lib.hid ?_
      have HB4 : Hid (Below w.heap.size w w4) := HB3.out.trans (hb4.mono HB3.out.size)
      have HR4 := Poly.hid_mkP hr4
      clear hb4 hr4
      go_wp2_with (go_at_call 6; refine (HEB.out _).mono ?_; rintro e9 w5 ⟨a5, c5, rfl, hr5, hb5⟩; refine Hid.out ?_)
      refine Lib.hid ?_
      have HB5 : Hid (Below w.heap.size w w5) := HB4.out.trans (hb5.mono HB4.out.size)
      have HR5 := Poly.hid_mkP hr5
      have HR45 := Poly.hid_mkP ((HR4.out.on hb5).mono hb5.size)
      clear hb5 hr5
      go_wp2
      go_ret
      exact ⟨by first | rfl | simp, HB5.out⟩
    · by_cases hA : 10 < nA
      · have HD : Hid (10 < nA) := hA
        have hd : decide ((nA : Int) > 10) = true := decide_eq_true (by omega)
        have hd2 : decide (10 < (nA : Int)) = true := decide_eq_true (by omega)
        clear hA
        go_wp2_with (go_at_call 5; refine (HSA.out _).mono ?_; rintro e9 w1 ⟨rfl, hb1⟩; refine Hid.out ?_)
        refine Lib.hid ?_
        go_wp2_with (go_at_call 5; refine (HSB.out _).mono ?_; rintro e9 w2 ⟨rfl, hb2⟩; refine Hid.out ?_)
        refine Lib.hid ?_
        go_wp2_with (go_at_call 5; refine (HSC.out _).mono ?_; rw [show sameF 5 2 5 3 = true by decide]; rintro e9 w3 ⟨rfl, hb3⟩; refine Hid.out ?_)
        refine Lib.hid ?_
        have HB3 : Hid (Below w.heap.size w w3) := (hb1.trans (hb2.mono hb1.size)).trans (hb3.mono (hb1.trans (hb2.mono hb1.size)).size)
        clear hb1 hb2 hb3
        go_wp2_with (go_at_call 6; refine (HEA.out _).mono ?_; rintro e9 w4 ⟨a4, c4, rfl, hr4, hb4⟩; refine Hid.out ?_)
        refine Lib.hid ?_
        have HB4 : Hid (Below w.heap.size w w4) := HB3.out.trans (hb4.mono HB3.out.size)
        have HR4 := Poly.hid_mkP hr4
        clear hb4 hr4
        go_wp2_with (go_at_call 6; refine (HEB.out _).mono ?_; rintro e9 w5 ⟨a5, c5, rfl, hr5, hb5⟩; refine Hid.out ?_)
        refine Lib.hid ?_
        have HB5 : Hid (Below w.heap.size w w5) := HB4.out.trans (hb5.mono HB4.out.size)
        have HR5 := Poly.hid_mkP hr5
        have HR45 := Poly.hid_mkP ((HR4.out.on hb5).mono hb5.size)
        clear hb5 hr5
        go_wp2_with (go_at_call 7; refine (HTA.out _ _ _ HR45.out).mono ?_; rintro e9 w6 ⟨rfl, hb6⟩; refine Hid.out ?_)
        refine Lib.hid ?_
        have HB6 : Hid (Below w.heap.size w w6) := HB5.out.trans (hb6.mono HB5.out.size)
        have HR6 := Poly.hid_mkP ((HR45.out.on hb6).mono hb6.size)
        have HR56 := Poly.hid_mkP ((HR5.out.on hb6).mono hb6.size)
        clear hb6
        go_wp2
        go_ret
        exact ⟨by first | rfl | simp, HB6.out⟩
      · by_cases hB : 10 < nB
        · have hd : decide (10 < (nA : Int)) = false := decide_eq_false (by omega)
          have hd2 : decide (10 < (nB : Int)) = true := decide_eq_true (by omega)
          clear hA hB
          go_wp2_with (go_at_call 5; refine (HSA.out _).mono ?_; rintro e9 w1 ⟨rfl, hb1⟩; refine Hid.out ?_)
          refine Lib.hid ?_
          go_wp2_with (go_at_call 5; refine (HSB.out _).mono ?_; rintro e9 w2 ⟨rfl, hb2⟩; refine Hid.out ?_)
          refine Lib.hid ?_
          go_wp2_with (go_at_call 5; refine (HSC.out _).mono ?_; rw [show sameF 5 2 5 3 = true by decide]; rintro e9 w3 ⟨rfl, hb3⟩; refine Hid.out ?_)
          refine Lib.hid ?_
          have HB3 : Hid (Below w.heap.size w w3) := (hb1.trans (hb2.mono hb1.size)).trans (hb3.mono (hb1.trans (hb2.mono hb1.size)).size)
          clear hb1 hb2 hb3
          go_wp2_with (go_at_call 6; refine (HEA.out _).mono ?_; rintro e9 w4 ⟨a4, c4, rfl, hr4, hb4⟩; refine Hid.out ?_)
          refine Lib.hid ?_
          have HB4 : Hid (Below w.heap.size w w4) := HB3.out.trans (hb4.mono HB3.out.size)
          have HR4 := Poly.hid_mkP hr4
          clear hb4 hr4
          go_wp2_with (go_at_call 6; refine (HEB.out _).mono ?_; rintro e9 w5 ⟨a5, c5, rfl, hr5, hb5⟩; refine Hid.out ?_)
          refine Lib.hid ?_
          have HB5 : Hid (Below w.heap.size w w5) := HB4.out.trans (hb5.mono HB4.out.size)
          have HR5 := Poly.hid_mkP hr5
          have HR45 := Poly.hid_mkP ((HR4.out.on hb5).mono hb5.size)
          clear hb5 hr5
          go_wp2_with (go_at_call 7; refine (HTA.out _ _ _ HR45.out).mono ?_; rintro e9 w6 ⟨rfl, hb6⟩; refine Hid.out ?_)
          refine Lib.hid ?_
          have HB6 : Hid (Below w.heap.size w w6) := HB5.out.trans (hb6.mono HB5.out.size)
          have HR6 := Poly.hid_mkP ((HR45.out.on hb6).mono hb6.size)
          have HR56 := Poly.hid_mkP ((HR5.out.on hb6).mono hb6.size)
          clear hb6
          go_wp2_with (go_at_call 7; refine (HTB.out _ _ _ HR56.out).mono ?_; rintro e9 w7 ⟨rfl, hb7⟩; refine Hid.out ?_)
          refine Lib.hid ?_
          have HB7 : Hid (Below w.heap.size w w7) := HB6.out.trans (hb7.mono HB6.out.size)
          have HR67 := Poly.hid_mkP ((HR6.out.on hb7).mono hb7.size)
          have HR57 := Poly.hid_mkP ((HR56.out.on hb7).mono hb7.size)
          clear hb7
          go_wp2
          go_ret
          exact ⟨by first | rfl | simp, HB7.out⟩
        · have HLA := Poly.hid_mkP (HLA.out (by omega))
          have HLB := Poly.hid_mkP (HLB.out (by omega))
          have HJA := Poly.hid_mkP (HJA.out (by omega))
          have HJB := Poly.hid_mkP (HJB.out (by omega))
          have HFZ := Poly.hid_mkP (HFS.out rfl (by omega) (by omega))
          have hd : decide (10 < (nA : Int)) = false := decide_eq_false (by omega)
          have hd2 : decide (10 < (nB : Int)) = false := decide_eq_false (by omega)
          clear hA hB
          go_wp2_with (go_at_call 5; refine (HSA.out _).mono ?_; rintro e9 w1 ⟨rfl, hb1⟩; refine Hid.out ?_)
          refine Lib.hid ?_
          go_wp2_with (go_at_call 5; refine (HSB.out _).mono ?_; rintro e9 w2 ⟨rfl, hb2⟩; refine Hid.out ?_)
          refine Lib.hid ?_
          go_wp2_with (go_at_call 5; refine (HSC.out _).mono ?_; rw [show sameF 5 2 5 3 = true by decide]; rintro e9 w3 ⟨rfl, hb3⟩; refine Hid.out ?_)
          refine Lib.hid ?_
          have HB3 : Hid (Below w.heap.size w w3) := (hb1.trans (hb2.mono hb1.size)).trans (hb3.mono (hb1.trans (hb2.mono hb1.size)).size)
          clear hb1 hb2 hb3
          go_wp2_with (go_at_call 6; refine (HEA.out _).mono ?_; rintro e9 w4 ⟨a4, c4, rfl, hr4, hb4⟩; refine Hid.out ?_)
          refine Lib.hid ?_
          have HB4 : Hid (Below w.heap.size w w4) := HB3.out.trans (hb4.mono HB3.out.size)
          have HR4 := Poly.hid_mkP hr4
          clear hb4 hr4
          go_wp2_with (go_at_call 6; refine (HEB.out _).mono ?_; rintro e9 w5 ⟨a5, c5, rfl, hr5, hb5⟩; refine Hid.out ?_)
          refine Lib.hid ?_
          have HB5 : Hid (Below w.heap.size w w5) := HB4.out.trans (hb5.mono HB4.out.size)
          have HR5 := Poly.hid_mkP hr5
          have HR45 := Poly.hid_mkP ((HR4.out.on hb5).mono hb5.size)
          clear hb5 hr5
          go_wp2_with (go_at_call 7; refine (HTA.out _ _ _ HR45.out).mono ?_; rintro e9 w6 ⟨rfl, hb6⟩; refine Hid.out ?_)
          refine Lib.hid ?_
          have HB6 : Hid (Below w.heap.size w w6) := HB5.out.trans (hb6.mono HB5.out.size)
          have HR6 := Poly.hid_mkP ((HR45.out.on hb6).mono hb6.size)
          have HR56 := Poly.hid_mkP ((HR5.out.on hb6).mono hb6.size)
          clear hb6
          go_wp2_with (go_at_call 7; refine (HTB.out _ _ _ HR56.out).mono ?_; rintro e9 w7 ⟨rfl, hb7⟩; refine Hid.out ?_)
          refine Lib.hid ?_
          have HB7 : Hid (Below w.heap.size w w7) := HB6.out.trans (hb7.mono HB6.out.size)
          have HR67 := Poly.hid_mkP ((HR6.out.on hb7).mono hb7.size)
          have HR57 := Poly.hid_mkP ((HR56.out.on hb7).mono hb7.size)
          clear hb7
          go_wp2_with (go_at_call 8; refine (HLA.out _ _ _ HR67.out).mono ?_; rintro e9 w8 ⟨a8, c8, rfl, hc8, hb8⟩; refine Hid.out ?_)
          refine Lib.hid ?_
          have HB8 : Hid (Below w.heap.size w w8) := HB7.out.trans (hb8.mono HB7.out.size)
          have HC8 := Poly.hid_mkP hc8
          have HR58 := Poly.hid_mkP ((HR57.out.on hb8).mono hb8.size)
          clear hb8 hc8
          obtain ⟨V8, hV8⟩ : ∃ V, w8.alloc (.cells #[.slice a8 nA c8, .int .i64 (oA : Nat)] 32) = V := ⟨_, rfl⟩
          have HV8 := Poly.hid_mkP hV8
          have HU8 : Hid (Below w8.heap.size w8 V8) := (by rw [← hV8]; exact (Below.refl _ _).alloc (Nat.le_refl _) _ : Below w8.heap.size w8 V8)
          have HF8 : Hid (∀ W, Below V8.heap.size V8 W → W.cell? ⟨w8.heap.size, 0, none⟩ = some (.slice a8 nA c8) ∧ W.cell? ⟨w8.heap.size, 1, none⟩ = some (.int .i64 (oA : Nat)) ∧ w8.heap.size < W.heap.size) := box_cells hV8
          have HA8 : Hid (Below w.heap.size w V8) := HB8.out.trans (HU8.out.mono HB8.out.size)
          clear hV8
          have HRV8 := Poly.hid_mkP ((HR58.out.on HU8.out).mono HU8.out.size)
          go_wp2_with (go_at_call 8; rw [HV8.out]; refine (HLB.out _ _ _ HRV8.out).mono ?_; rintro e9 w9 ⟨a9, c9, rfl, hc9, hb9⟩; refine Hid.out ?_)
          refine Lib.hid ?_
          have HB9 : Hid (Below w.heap.size w w9) := HA8.out.trans (hb9.mono HA8.out.size)
          have HW9 : Hid (Below V8.heap.size V8 w9) := hb9
          have HC9 := Poly.hid_mkP hc9
          clear hb9 hc9
          obtain ⟨V9, hV9⟩ : ∃ V, w9.alloc (.cells #[.slice a9 nB c9, .int .i64 (oB : Nat)] 32) = V := ⟨_, rfl⟩
          have HV9 := Poly.hid_mkP hV9
          have HU9 : Hid (Below w9.heap.size w9 V9) := (by rw [← hV9]; exact (Below.refl _ _).alloc (Nat.le_refl _) _ : Below w9.heap.size w9 V9)
          have HF9 : Hid (∀ W, Below V9.heap.size V9 W → W.cell? ⟨w9.heap.size, 0, none⟩ = some (.slice a9 nB c9) ∧ W.cell? ⟨w9.heap.size, 1, none⟩ = some (.int .i64 (oB : Nat)) ∧ w9.heap.size < W.heap.size) := box_cells hV9
          have HA9 : Hid (Below w.heap.size w V9) := HB9.out.trans (HU9.out.mono HB9.out.size)
          clear hV9
          have HX9 : Hid (Below V8.heap.size V8 V9) := HW9.out.trans (HU9.out.mono HW9.out.size)
          have HC89 := Poly.hid_mkP ((HC8.out.up HU8.out).up HX9.out)
          have HC99 := Poly.hid_mkP (HC9.out.up HU9.out)
          obtain ⟨p0, p1, p2⟩ := HF8.out w9 HW9.out
          go_wp2_with (go_at_call 9; rw [HV9.out]; refine (HJA.out _ _ HC89.out (HRG.out.any HA9.out)).mono ?_; rintro e9 wa ⟨va, la, rfl, hpa, hCa, hba⟩; refine Hid.out ?_)
          refine Lib.hid ?_
          have HBa : Hid (Below w.heap.size w wa) := HA9.out.trans (hba.mono HA9.out.size)
          have HC9a := Poly.hid_mkP (HC99.out.up hba)
          have HPa := Poly.hid_mkP hpa
          have HCa := Poly.hid_mkP hCa
          clear p0 p1 p2
          obtain ⟨p0, p1, p2⟩ := HF9.out wa hba
          clear hba hpa hCa
          go_wp2_with (go_at_call 9; refine (HJB.out _ _ HC9a.out (HRG.out.any HBa.out)).mono ?_; rintro e9 wb ⟨vb, lb, rfl, hpb, hCb, hbb⟩; refine Hid.out ?_)
          refine Lib.hid ?_
          have HBb : Hid (Below w.heap.size w wb) := HBa.out.trans (hbb.mono HBa.out.size)
          have HSM := Poly.hid_mkP (Poly.same_polyK va vb la lb wb (polyC_len HPa.out) (HPa.out.up hbb).1 hpb.1)
          have hCb2 : Poly.Canon lb (Poly.jnF CA oA) := (HFZ.out.symm ▸ hCb)
          have HEQ : Hid (decide (la = lb) = true) := decide_eq_true (Poly.canon_unique HCa.out hCb2)
          rw [HEQ.out] at HSM
          clear hbb hpb hCb hCb2 p0 p1 p2
          go_wp2_with (go_at_call 10; refine HSM.out.mono ?_; rintro e9 wc ⟨rfl, hbc⟩; refine Hid.out ?_)
          refine Lib.hid ?_
          have HBc : Hid (Below w.heap.size w wc) := HBb.out.trans (hbc.mono HBb.out.size)
          clear hbc
          go_wp2
          go_ret
          exact ⟨by first | rfl | simp, HBc.out⟩
end Go.Proofs.YtnlcknlodjjdbaaDoor
