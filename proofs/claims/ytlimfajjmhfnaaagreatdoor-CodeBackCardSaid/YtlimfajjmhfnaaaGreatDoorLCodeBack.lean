/- The statement CodeBack: its walk. -/
import Derived.Test.YtlimfajjmhfnaaaGreatDoorA0
import Derived.Test.YtlimfajjmhfnaaaGreatDoorDTaP
import Derived.Test.YtlimfajjmhfnaaaGreatDoorRD6P
namespace Go.Proofs.YtlimfajjmhfnaaaGreatDoor
open Go.RowKit

set_option maxHeartbeats 4000000 in
set_option maxRecDepth 100000 in
theorem codeBack_no (v : Value) (C : List Cr) (loops : Int) (w : World) (hm : mayD C loops = false) (h : Crs w w.heap.size v C) :
    Calls Tryz.prog 3 #[.agg #[v, .int .i64 loops]] w fun e w' => e = .returned (.bool true) ∧ Below w.heap.size w w' := by
  have HM : Hid (mayD C loops = false) := hm
  obtain ⟨a, cap, rfl⟩ : ∃ a cap, v = .slice a C.length cap := by obtain ⟨a, cap, e, -, -⟩ := h; exact ⟨a, cap, e⟩
  obtain ⟨X, hX⟩ : ∃ X, X = w.alloc (.cells #[.slice a C.length cap, .int .i64 loops] 24) := ⟨_, rfl⟩
  have HX : Hid (X = w.alloc (.cells #[.slice a C.length cap, .int .i64 loops] 24)) := hX
  have hsX : w.heap.size < X.heap.size := by rw [hX]; simp
  have HBW : Hid (Below w.heap.size w X) := (by rw [hX]; exact (Below.refl _ _).alloc (Nat.le_refl _) _ : Below w.heap.size w X)
  have HT : Hid (X.heap[w.heap.size]? = some (.cells #[.slice a C.length cap, .int .i64 loops] 24 (0, 0))) := (by rw [hX]; exact alloc_at rfl : X.heap[w.heap.size]? = some (.cells #[.slice a C.length cap, .int .i64 loops] 24 (0, 0)))
  have HC : Hid (∀ w', Below X.heap.size X w' → Crs w' w'.heap.size (.slice a C.length cap) C) := fun w' hb => (h.up HBW.out).up hb
  have HF : Hid (∀ w', Below X.heap.size X w' → w'.cell? ⟨w.heap.size, 0, none⟩ = some (.slice a C.length cap) ∧ w'.cell? ⟨w.heap.size, 1, none⟩ = some (.int .i64 loops) ∧ w.heap.size < w'.heap.size) := fun w' hb => by
    have g := (hb.block _ hsX).trans HT.out
    exact ⟨block_cell g rfl, block_cell g rfl, (Array.getElem?_eq_some_iff.1 g).1⟩
  clear hX hm h
  go_enter Tryz.func3, Tryz.ntmps3
  go_upto_region 3 with (go_at_call 4; rw [← HX.out]; refine (awake_any _).mono ?_; rintro e9 w1 ⟨rfl, hb1⟩)
  have H1 : Hid (Below X.heap.size X w1) := hb1
  clear hb1
  obtain ⟨p0, p1, p2⟩ := HF.out w1 H1.out
  go_upto_region 4 with (go_at_call 5; refine (show_no _ C loops _ HM.out (HC.out _ H1.out)).mono ?_; rintro e9 w2 ⟨rfl, hb2⟩)
  have H2 : Hid (Below X.heap.size X w2) := H1.out.trans (hb2.mono H1.out.size)
  clear hb2 p0 p1 p2
  obtain ⟨p0, p1, p2⟩ := HF.out w2 H2.out
  go_wp2_with (go_at_call 6; refine (codeMayD_any _ C loops _ (HC.out _ H2.out)).mono ?_; rw [HM.out]; rintro e9 w3 ⟨rfl, hb3⟩; have H3 : Hid (Below w.heap.size w w3) := HBW.out.trans ((H2.out.trans (hb3.mono H2.out.size)).mono HBW.out.size); clear hb3)
  go_ret
  exact ⟨rfl, H3.out⟩

set_option maxHeartbeats 8000000 in
set_option maxRecDepth 100000 in
theorem codeBack_yes (v : Value) (C : List Cr) (m : Nat) (w : World) (hm : mayD C (m : Nat) = true) (h : Crs w w.heap.size v C) (hT : Tab w) (hU : TabsAt w.heap.size w) (hM : MaxAt w) :
    Calls Tryz.prog 3 #[.agg #[v, .int .i64 (m : Nat)]] w fun e w' => e = .returned (.bool true) ∧ Below w.heap.size w w' := by
  have HM : Hid (mayD C (m : Nat) = true) := hm
  obtain ⟨s1, -, s3, -⟩ := sizeB_iff (may_size hm)
  have HRB : Hid (rdM (textD C m) = (0, C, m)) := rdM_back hm
  have hlen := text_len (tiny_may hm) s1 (by omega : m ≤ 16)
  obtain ⟨L, hL⟩ : ∃ L, textD C m = L := ⟨_, rfl⟩
  have HL : Hid (textD C m = L) := hL
  rw [hL] at HRB hlen
  obtain ⟨a, cap, rfl⟩ : ∃ a cap, v = .slice a C.length cap := by obtain ⟨a, cap, e, -, -⟩ := h; exact ⟨a, cap, e⟩
  obtain ⟨X, hX⟩ : ∃ X, X = w.alloc (.cells #[.slice a C.length cap, .int .i64 (m : Nat)] 24) := ⟨_, rfl⟩
  have HX : Hid (X = w.alloc (.cells #[.slice a C.length cap, .int .i64 (m : Nat)] 24)) := hX
  have hsX : w.heap.size < X.heap.size := by rw [hX]; simp
  have HBW : Hid (Below w.heap.size w X) := (by rw [hX]; exact (Below.refl _ _).alloc (Nat.le_refl _) _ : Below w.heap.size w X)
  have HT : Hid (X.heap[w.heap.size]? = some (.cells #[.slice a C.length cap, .int .i64 (m : Nat)] 24 (0, 0))) := (by rw [hX]; exact alloc_at rfl : X.heap[w.heap.size]? = some (.cells #[.slice a C.length cap, .int .i64 (m : Nat)] 24 (0, 0)))
  have HC : Hid (∀ w', Below X.heap.size X w' → Crs w' w'.heap.size (.slice a C.length cap) C) := fun w' hb => (h.up HBW.out).up hb
  have HF : Hid (∀ w', Below X.heap.size X w' → w'.cell? ⟨w.heap.size, 0, none⟩ = some (.slice a C.length cap) ∧ w'.cell? ⟨w.heap.size, 1, none⟩ = some (.int .i64 (m : Nat)) ∧ w.heap.size < w'.heap.size) := fun w' hb => by
    have g := (hb.block _ hsX).trans HT.out
    exact ⟨block_cell g rfl, block_cell g rfl, (Array.getElem?_eq_some_iff.1 g).1⟩
  have HTab : Hid (∀ w', Below X.heap.size X w' → Tab w' ∧ TabsAt w'.heap.size w' ∧ MaxAt w') := fun w' hb => by
    have hb0 := HBW.out.trans (hb.mono HBW.out.size)
    exact ⟨hT.on hb0, ⟨(hU.on (fun k hk => hb0.block k hk)).1, Nat.lt_of_lt_of_le hU.2.1 hb0.size, Nat.lt_of_lt_of_le hU.2.2 hb0.size⟩, hM.on hb0⟩
  clear hX hm h hT hU hM hL
  go_enter Tryz.func3, Tryz.ntmps3
  go_upto_region 3 with (go_at_call 4; rw [← HX.out]; refine (awake_any _).mono ?_; rintro e9 w1 ⟨rfl, hb1⟩)
  have H1 : Hid (Below X.heap.size X w1) := hb1
  clear hb1
  obtain ⟨p0, p1, p2⟩ := HF.out w1 H1.out
  go_upto_region 4 with (go_at_call 5; refine (show_yes _ C m _ HM.out (HC.out _ H1.out) (HTab.out _ H1.out).1).mono ?_; rw [HL.out]; rintro e9 w2 ⟨rfl, hb2⟩)
  have H2 : Hid (Below X.heap.size X w2) := H1.out.trans (hb2.mono H1.out.size)
  clear hb2 p0 p1 p2
  obtain ⟨p0, p1, p2⟩ := HF.out w2 H2.out
  go_upto_region 6 with (go_at_call 6; refine (codeMayD_any _ C (m : Nat) _ (HC.out _ H2.out)).mono ?_; rw [HM.out]; rintro e9 w3 ⟨rfl, hb3⟩)
  have H3 : Hid (Below X.heap.size X w3) := H2.out.trans (hb3.mono H2.out.size)
  clear hb3 p0 p1 p2
  have HRA : Hid (Calls Tryz.prog 7 #[.string ⟨L.toArray⟩] w3 fun e w' => ∃ a c, e = .returned (.tuple #[.agg #[.slice a C.length c, .int .i64 (m : Nat)], .int .i64 0]) ∧ Crs w' w'.heap.size (.slice a C.length c) C ∧ Below w3.heap.size w3 w') := by
    obtain ⟨-, hU, hM⟩ := HTab.out w3 H3.out
    refine (read_any L w3 hU hM (by omega)).mono fun e w' h => ?_
    obtain ⟨v, he, hc, hb⟩ := h
    rw [HRB.out] at he hc
    have hc' := hc
    obtain ⟨a, c, rfl, -⟩ := hc
    exact ⟨a, c, he, hc', hb⟩
  go_upto_region 7 with (go_at_call 7; refine HRA.out.mono ?_; rintro e9 w4 ⟨a4, c4, rfl, hc4, hb4⟩)
  have H4 : Hid (Below X.heap.size X w4) := H3.out.trans (hb4.mono H3.out.size)
  obtain ⟨Y, hY⟩ : ∃ Y, Y = w4.alloc (.cells #[.slice a4 C.length c4, .int .i64 (m : Nat)] 24) := ⟨_, rfl⟩
  rw [← hY]
  have HCY : Hid (Crs Y Y.heap.size (.slice a4 C.length c4) C) := (by rw [hY]; exact hc4.up ((Below.refl _ _).alloc (Nat.le_refl _) _) : Crs Y Y.heap.size (.slice a4 C.length c4) C)
  have HDY : Hid (Y.heap[w4.heap.size]? = some (.cells #[.slice a4 C.length c4, .int .i64 (m : Nat)] 24 (0, 0))) := (by rw [hY]; exact alloc_at rfl : Y.heap[w4.heap.size]? = some (.cells #[.slice a4 C.length c4, .int .i64 (m : Nat)] 24 (0, 0)))
  have HBY : Hid (Below X.heap.size X Y) := (by rw [hY]; exact H4.out.alloc H4.out.size _ : Below X.heap.size X Y)
  have lY := (Array.getElem?_eq_some_iff.1 HDY.out).1
  clear hY hc4 hb4 HRA
  have HCX : Hid (Crs Y Y.heap.size (.slice a C.length cap) C) := HC.out _ HBY.out
  obtain ⟨p0, p1, p2⟩ := HF.out Y HBY.out
  have q0 : Y.cell? ⟨w4.heap.size, 0, none⟩ = some (.slice a4 C.length c4) := block_cell HDY.out rfl
  have q1 : Y.cell? ⟨w4.heap.size, 1, none⟩ = some (.int .i64 (m : Nat)) := block_cell HDY.out rfl
  have hd1 : ((m : Int) != (m : Int)) = false := by simp
  have hd2 : ((C.length : Int) != (C.length : Int)) = false := by simp
  go_wp2
  clear q0 q1 p0 p1 p2
  go_loopw [7] (fun v7 wr => ∃ i : Nat, i ≤ C.length ∧ v7 = .int .i64 (i : Nat) ∧ Hid (Below Y.heap.size Y wr)) (fun v7 _ => C.length - (intOf v7).toNat)
  case atStart => exact ⟨0, Nat.zero_le _, rfl, Below.refl _ _⟩
  case round =>
    rename World => W1
    obtain ⟨i, hin, rfl, hb⟩ := hrel
    have hBX := HBY.out.trans (hb.out.mono HBY.out.size)
    obtain ⟨p0, p1, p2⟩ := HF.out W1 hBX
    have g2 := (hb.out.block _ lY).trans HDY.out
    have q0 : W1.cell? ⟨w4.heap.size, 0, none⟩ = some (.slice a4 C.length c4) := block_cell g2 rfl
    have hl2 : w4.heap.size < W1.heap.size := (Array.getElem?_eq_some_iff.1 g2).1
    have HBB : Hid (Below w.heap.size w W1) := HBW.out.trans (hBX.mono HBW.out.size)
    clear g2 hBX
    by_cases hil : i < C.length
    · have hdi : decide ((i : Int) < (C.length : Int)) = true := by simp; omega
      obtain ⟨b1, o1, ea1, hb1, hC1⟩ := crs_some HCX.out (by omega)
      subst ea1
      obtain ⟨b2, o2, ea2, hb2, hC2⟩ := crs_some HCY.out (by omega)
      subst ea2
      obtain ⟨x0, x1, x2, x3, x4⟩ := (hC1.on hb.out hb1) i hil
      obtain ⟨y0, y1, y2, y3, y4⟩ := (hC2.on hb.out hb2) i hil
      have hsz := hb.out.size
      clear hC1 hC2
      obtain ⟨x, hx⟩ : ∃ x, C.getD i Cr.none = x := ⟨_, rfl⟩
      rw [hx] at x0 x1 x2 x3 x4 y0 y1 y2 y3 y4
      clear hx
      have hb1w : b1 < W1.heap.size := by omega
      have hb2w : b2 < W1.heap.size := by omega
      have n0 : (0 : Int) ≤ (i : Int) := by omega
      have n1 : (i : Int) < (C.length : Int) := by omega
      have hcmp := neqCross x x
      rw [crEq_refl] at hcmp
      simp only [Bool.not_true] at hcmp
      go_wp2
      go_quiet (fail)
      go_wp2
      go_roundw
      case rel => exact ⟨i + 1, by omega, by go_num, below_drewN hb.out _⟩
      case measure => simp only [intOf]; omega
    · have n1 : ¬ (i : Int) < (C.length : Int) := by omega
      go_wp2
      go_ret
      exact ⟨rfl, HBB.out⟩
theorem codeBack_any (v : Value) (C : List Cr) (loops : Int) (w : World) (h : Crs w w.heap.size v C) (hT : Tab w) (hU : TabsAt w.heap.size w) (hM : MaxAt w) :
    Calls Tryz.prog 3 #[.agg #[v, .int .i64 loops]] w fun e w' => e = .returned (.bool true) ∧ Below w.heap.size w w' := by
  cases hm : mayD C loops with
  | false => exact codeBack_no v C loops w hm h
  | true =>
    obtain ⟨-, s2, -, -⟩ := sizeB_iff (may_size hm)
    obtain ⟨m, rfl⟩ : ∃ m : Nat, loops = m := ⟨loops.toNat, by omega⟩
    exact codeBack_yes v C m w hm h hT hU hM
end Go.Proofs.YtlimfajjmhfnaaaGreatDoor
