/- The walk of the law CodeShows. -/
import Derived.Test.YtdigjjgdfpccpaaDoorDTb
namespace Go.Proofs.YtdigjjgdfpccpaaDoor
open Go.RowKit

set_option maxHeartbeats 4000000 in
set_option maxRecDepth 100000 in
theorem codeMayD_any (v : Value) (C : List Cr) (loops : Int) (w : World) (h : Crs w w.heap.size v C) :
    Calls Tryd.prog 8 #[.agg #[v, .int .i64 loops]] w fun e w' => e = .returned (.bool (mayD C loops)) ∧ Below w.heap.size w w' := by
  have HC : Hid (Crs w w.heap.size v C) := h
  obtain ⟨a, cap, rfl, hn, -⟩ := h
  have HB1 : Hid (Below w.heap.size w (w.alloc (.cells #[.slice a C.length cap, .int .i64 loops] 24))) := (Below.refl _ _).alloc (Nat.le_refl _) _
  cases hm : mayD C loops with
  | false =>
    have HM : Hid (mayD C loops = false) := hm
    clear hm
    go_enter Tryd.func8, Tryd.ntmps8
    go_wp2_with (go_at_call 13; refine (of_any _ C loops _ (HC.out.up HB1.out)).mono ?_; rw [HM.out]; rintro e9 w2 ⟨d, rfl, hb2, hd⟩; rw [hd.no HM.out]; refine Hid.out ?_)
    refine Lib.hid ?_
    unfold noDrawing
    have HB2 : Hid (Below w.heap.size w w2) := HB1.out.trans (hb2.mono HB1.out.size)
    clear hb2 hd
    go_wp2
    go_ret
    exact ⟨rfl, HB2.out.alloc HB2.out.size _⟩
  | true =>
    have HM : Hid (mayD C loops = true) := hm
    clear hm
    go_enter Tryd.func8, Tryd.ntmps8
    go_wp2_with (go_at_call 13; refine (of_any _ C loops _ (HC.out.up HB1.out)).mono ?_; rw [HM.out]; rintro e9 w2 ⟨d, rfl, hb2, hd⟩; obtain ⟨gF, cF, gT, cT, rfl, -⟩ := hd.yes HM.out; refine Hid.out ?_)
    refine Lib.hid ?_
    have HB2 : Hid (Below w.heap.size w w2) := HB1.out.trans (hb2.mono HB1.out.size)
    clear hb2 hd
    go_wp2
    go_ret
    exact ⟨rfl, HB2.out.alloc HB2.out.size _⟩

set_option maxHeartbeats 4000000 in
set_option maxRecDepth 100000 in
theorem show_no (v : Value) (C : List Cr) (loops : Int) (w : World) (hm : mayD C loops = false) (h : Crs w w.heap.size v C) :
    Calls Tryd.prog 4 #[.agg #[v, .int .i64 loops]] w fun e w' => e = .returned (.tuple #[.string ⟨#[]⟩, .int .i64 7]) ∧ Below w.heap.size w w' := by
  have HC : Hid (Crs w w.heap.size v C) := h
  have HM : Hid (mayD C loops = false) := hm
  obtain ⟨a, cap, rfl, hn, -⟩ := h
  have HB1 : Hid (Below w.heap.size w (w.alloc (.cells #[.slice a C.length cap, .int .i64 loops] 24))) := (Below.refl _ _).alloc (Nat.le_refl _) _
  clear hm
  go_enter Tryd.func4, Tryd.ntmps4
  go_wp2_with (go_at_call 8; refine (codeMayD_any _ C loops _ (HC.out.up HB1.out)).mono ?_; rw [HM.out]; rintro e9 w2 ⟨rfl, hb2⟩; have HB2 : Hid (Below w.heap.size w w2) := HB1.out.trans (hb2.mono HB1.out.size); clear hb2)
  go_ret2
  exact ⟨rfl, HB2.out⟩

set_option maxHeartbeats 4000000 in
set_option maxRecDepth 100000 in
theorem show_yes (v : Value) (C : List Cr) (m : Nat) (w : World) (hm : mayD C (m : Nat) = true) (h : Crs w w.heap.size v C) (hT : Tab w) :
    Calls Tryd.prog 4 #[.agg #[v, .int .i64 (m : Nat)]] w fun e w' => e = .returned (.tuple #[.string ⟨(textD C m).toArray⟩, .int .i64 0]) ∧ Below w.heap.size w w' := by
  have HC : Hid (Crs w w.heap.size v C) := h
  have HM : Hid (mayD C (m : Nat) = true) := hm
  have HT : Hid (Tab w) := hT
  obtain ⟨a, cap, rfl, hn, -⟩ := h
  obtain ⟨X, hX⟩ : ∃ X, X = w.alloc (.cells #[.slice a C.length cap, .int .i64 (m : Nat)] 24) := ⟨_, rfl⟩
  have HX := hid_of hX
  have HB1 : Hid (Below w.heap.size w X) := (by rw [hX]; exact (Below.refl _ _).alloc (Nat.le_refl _) _ : Below w.heap.size w X)
  have HTX : Hid (X.heap[w.heap.size]? = some (.cells #[.slice a C.length cap, .int .i64 (m : Nat)] 24 (0, 0))) := (by rw [hX]; exact alloc_at rfl : X.heap[w.heap.size]? = some (.cells #[.slice a C.length cap, .int .i64 (m : Nat)] 24 (0, 0)))
  clear hm hX hT
  go_enter Tryd.func4, Tryd.ntmps4
  go_upto_region 3 with (go_at_call 8; rw [← HX.out]; refine (codeMayD_any _ C (m : Nat) _ (HC.out.up HB1.out)).mono ?_; rw [HM.out]; rintro e9 w2 ⟨rfl, hb2⟩)
  have HB2 : Hid (Below w.heap.size w w2) := HB1.out.trans (hb2.mono HB1.out.size)
  have ht2 := (hb2.block _ (Array.getElem?_eq_some_iff.1 HTX.out).1).trans HTX.out
  have k0 : w2.cell? ⟨w.heap.size, 0, none⟩ = some (.slice a C.length cap) := block_cell ht2 rfl
  have k1 : w2.cell? ⟨w.heap.size, 1, none⟩ = some (.int .i64 (m : Nat)) := block_cell ht2 rfl
  have hlw : w.heap.size < w2.heap.size := (Array.getElem?_eq_some_iff.1 ht2).1
  clear hb2 ht2
  go_wp2_with (go_at_call 9; refine (told_any _ C m _ HM.out (HC.out.up HB2.out) (HT.out.on HB2.out)).mono ?_; rintro e9 w3 ⟨rfl, hb3⟩; have HB3 : Hid (Below w.heap.size w w3) := HB2.out.trans (hb3.mono HB2.out.size); clear hb3)
  go_ret2
  exact ⟨rfl, HB3.out⟩

set_option maxHeartbeats 4000000 in
set_option maxRecDepth 100000 in
theorem codeShows_no (v : Value) (C : List Cr) (loops : Int) (w : World) (hm : mayD C loops = false) (hl : C.length * 40 ≤ 140737488355328) (h : CrsW w w.heap.size v C) :
    Calls Tryd.prog 3 #[.agg #[v, .int .i64 loops]] w fun e w' => e = .returned (.bool true) ∧ Below w.heap.size w w' := by
  have HW : Hid (CrsW w w.heap.size v C) := h
  have HC : Hid (Crs w w.heap.size v C) := h.crs (by unfold maxLen; omega)
  have HM : Hid (mayD C loops = false) := hm
  obtain ⟨X, hX⟩ : ∃ X, X = w.alloc (.cells #[v, .int .i64 loops] 24) := ⟨_, rfl⟩
  have HX := hid_of hX
  have HB1 : Hid (Below w.heap.size w X) := (by rw [hX]; exact (Below.refl _ _).alloc (Nat.le_refl _) _ : Below w.heap.size w X)
  have HTX : Hid (X.heap[w.heap.size]? = some (.cells #[v, .int .i64 loops] 24 (0, 0))) := (by rw [hX]; exact alloc_at rfl : X.heap[w.heap.size]? = some (.cells #[v, .int .i64 loops] 24 (0, 0)))
  obtain ⟨a, cap, rfl, -, -⟩ := HC.out
  clear hm h hX
  go_enter Tryd.func3, Tryd.ntmps3
  go_upto_region 2 with (first
    | (go_at_call 5; rw [← HX.out]; refine (diagramOf_any _ C loops _ hl (HW.out.up HB1.out)).mono ?_; rintro e9 w2 ⟨v2, rfl, hc2, hb2⟩; have HC2 : Hid (Crs w2 w2.heap.size v2 C) := hc2; have HB2 : Hid (Below w.heap.size w w2) := HB1.out.trans (hb2.mono HB1.out.size); have HT2 : Hid (w2.heap[w.heap.size]? = some (.cells #[.slice a C.length cap, .int .i64 loops] 24 (0, 0))) := (hb2.block _ (Array.getElem?_eq_some_iff.1 HTX.out).1).trans HTX.out; clear hc2 hb2)
    | (go_at_call 4; refine (show_no _ C loops _ HM.out HC2.out).mono ?_; rintro e9 w3 ⟨rfl, hb3⟩))
  have HB3 : Hid (Below w.heap.size w w3) := HB2.out.trans (hb3.mono HB2.out.size)
  have ht3 := (hb3.block _ (Array.getElem?_eq_some_iff.1 HT2.out).1).trans HT2.out
  have k0 : w3.cell? ⟨w.heap.size, 0, none⟩ = some (.slice a C.length cap) := block_cell ht3 rfl
  have k1 : w3.cell? ⟨w.heap.size, 1, none⟩ = some (.int .i64 loops) := block_cell ht3 rfl
  have hlw : w.heap.size < w3.heap.size := (Array.getElem?_eq_some_iff.1 ht3).1
  clear hb3 ht3
  go_wp2_with (go_at_call 6; refine (may17_any _ C loops _ (HC.out.up HB3.out)).mono ?_; rw [HM.out]; rintro e9 w4 ⟨rfl, hb4⟩; have HB4 : Hid (Below w.heap.size w w4) := HB3.out.trans (hb4.mono HB3.out.size); clear hb4)
  go_ret
  exact ⟨by first | rfl | simp, HB4.out⟩

set_option maxHeartbeats 4000000 in
set_option maxRecDepth 100000 in
theorem codeShows_yes (v : Value) (C : List Cr) (m : Nat) (w : World) (hm : mayD C (m : Nat) = true) (hl : C.length * 40 ≤ 140737488355328) (h : CrsW w w.heap.size v C) (hT : Tab w) :
    Calls Tryd.prog 3 #[.agg #[v, .int .i64 (m : Nat)]] w fun e w' => e = .returned (.bool true) ∧ Below w.heap.size w w' := by
  have HW : Hid (CrsW w w.heap.size v C) := h
  have HC : Hid (Crs w w.heap.size v C) := h.crs (by unfold maxLen; omega)
  have HM : Hid (mayD C (m : Nat) = true) := hm
  have HT : Hid (Tab w) := hT
  obtain ⟨X, hX⟩ : ∃ X, X = w.alloc (.cells #[v, .int .i64 (m : Nat)] 24) := ⟨_, rfl⟩
  have HX := hid_of hX
  have HB1 : Hid (Below w.heap.size w X) := (by rw [hX]; exact (Below.refl _ _).alloc (Nat.le_refl _) _ : Below w.heap.size w X)
  have HTX : Hid (X.heap[w.heap.size]? = some (.cells #[v, .int .i64 (m : Nat)] 24 (0, 0))) := (by rw [hX]; exact alloc_at rfl : X.heap[w.heap.size]? = some (.cells #[v, .int .i64 (m : Nat)] 24 (0, 0)))
  obtain ⟨a, cap, rfl, -, -⟩ := HC.out
  clear hm h hX hT
  obtain ⟨D, hD⟩ : ∃ D, textD C m = D := ⟨_, rfl⟩
  have HSY : Hid (∀ (v2 : Value) (W : World), Crs W W.heap.size v2 C → Below w.heap.size w W → Calls Tryd.prog 4 #[.agg #[v2, .int .i64 (m : Nat)]] W fun e w' => e = .returned (.tuple #[.string ⟨D.toArray⟩, .int .i64 0]) ∧ Below W.heap.size W w') := fun v2 W hc hb => by rw [← hD]; exact show_yes v2 C m W HM.out hc (HT.out.on hb)
  have HDT : Hid (∀ W : World, Below w.heap.size w W → Calls Tryd.prog 7 #[.agg #[.slice a C.length cap, .int .i64 (m : Nat)]] W fun e w' => e = .returned (.string ⟨D.toArray⟩) ∧ Below W.heap.size W w') := fun W hb => by rw [← hD]; exact diagramText_any _ C m W HM.out (HC.out.up hb)
  clear hD
  go_enter Tryd.func3, Tryd.ntmps3
  go_upto_region 2 with (first
    | (go_at_call 5; rw [← HX.out]; refine (diagramOf_any _ C (m : Nat) _ hl (HW.out.up HB1.out)).mono ?_; rintro e9 w2 ⟨v2, rfl, hc2, hb2⟩; have HC2 : Hid (Crs w2 w2.heap.size v2 C) := hc2; have HB2 : Hid (Below w.heap.size w w2) := HB1.out.trans (hb2.mono HB1.out.size); have HT2 : Hid (w2.heap[w.heap.size]? = some (.cells #[.slice a C.length cap, .int .i64 (m : Nat)] 24 (0, 0))) := (hb2.block _ (Array.getElem?_eq_some_iff.1 HTX.out).1).trans HTX.out; clear hc2 hb2)
    | (go_at_call 4; refine (HSY.out _ _ HC2.out HB2.out).mono ?_; rintro e9 w3 ⟨rfl, hb3⟩))
  have HB3 : Hid (Below w.heap.size w w3) := HB2.out.trans (hb3.mono HB2.out.size)
  have HT3 : Hid (w3.heap[w.heap.size]? = some (.cells #[.slice a C.length cap, .int .i64 (m : Nat)] 24 (0, 0))) := (hb3.block _ (Array.getElem?_eq_some_iff.1 HT2.out).1).trans HT2.out
  have k0 : w3.cell? ⟨w.heap.size, 0, none⟩ = some (.slice a C.length cap) := block_cell HT3.out rfl
  have k1 : w3.cell? ⟨w.heap.size, 1, none⟩ = some (.int .i64 (m : Nat)) := block_cell HT3.out rfl
  have hlw : w.heap.size < w3.heap.size := (Array.getElem?_eq_some_iff.1 HT3.out).1
  clear hb3
  go_upto_region 4 with (go_at_call 6; refine (may17_any _ C (m : Nat) _ (HC.out.up HB3.out)).mono ?_; rw [HM.out]; rintro e9 w4 ⟨rfl, hb4⟩)
  have HB4 : Hid (Below w.heap.size w w4) := HB3.out.trans (hb4.mono HB3.out.size)
  have ht4 := (hb4.block _ (Array.getElem?_eq_some_iff.1 HT3.out).1).trans HT3.out
  clear k0 k1 hlw hb4
  have k0 : w4.cell? ⟨w.heap.size, 0, none⟩ = some (.slice a C.length cap) := block_cell ht4 rfl
  have k1 : w4.cell? ⟨w.heap.size, 1, none⟩ = some (.int .i64 (m : Nat)) := block_cell ht4 rfl
  have hlw : w.heap.size < w4.heap.size := (Array.getElem?_eq_some_iff.1 ht4).1
  clear ht4
  go_wp2_with (go_at_call 7; refine (HDT.out _ HB4.out).mono ?_; rintro e9 w5 ⟨rfl, hb5⟩; have HB5 : Hid (Below w.heap.size w w5) := HB4.out.trans (hb5.mono HB4.out.size); clear hb5)
  go_ret
  exact ⟨by first | rfl | simp, HB5.out⟩

/-- The law at every diagram. -/
theorem codeShows_any (v : Value) (C : List Cr) (loops : Int) (w : World) (hl : C.length * 40 ≤ 140737488355328) (h : CrsW w w.heap.size v C) (hT : Tab w) :
    Calls Tryd.prog 3 #[.agg #[v, .int .i64 loops]] w fun e w' => e = .returned (.bool true) ∧ Below w.heap.size w w' := by
  cases hm : mayD C loops with
  | false => exact codeShows_no v C loops w hm hl h
  | true =>
    obtain ⟨m, rfl⟩ := Int.eq_ofNat_of_zero_le (sizeB_iff (may_size hm)).2.1
    exact codeShows_yes v C m w hm hl h hT
end Go.Proofs.YtdigjjgdfpccpaaDoor
