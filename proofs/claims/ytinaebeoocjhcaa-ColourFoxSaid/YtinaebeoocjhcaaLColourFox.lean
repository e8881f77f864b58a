/- The law ColourFox: its walk, the rings of FaceRings being given. -/
import Derived.Test.YtinaebeoocjhcaaQ6
import Derived.Test.YtinaebeoocjhcaaQ7
namespace Go.Proofs.Ytinaebeoocjhcaa
open Go.RowKit

theorem slf_Crs {w : World} {B : Nat} {v : Value} {C : List Cr} (h : Crs w B v C) : ∃ a c, v = .slice a C.length c := by
  obtain ⟨a, c, e, _⟩ := h
  exact ⟨a, c, e⟩
theorem slf_CrsW {w : World} {B : Nat} {v : Value} {C : List Cr} (h : CrsW w B v C) : ∃ a c, v = .slice a C.length c := by
  rcases h with ⟨rfl, rfl⟩ | ⟨ad, cap, rfl, rfl⟩ | ⟨b, off, cap, rfl, -, -⟩
  · exact ⟨_, _, rfl⟩
  · exact ⟨_, _, rfl⟩
  · exact ⟨_, _, rfl⟩
theorem foxOf_any (a : Option Addr) (cap : Nat) (C : List Cr) (loops : Int) (p : Nat) (w : World) (hp : p < 98) (hpr : primeN p = true) (hm : mayD C loops = true) (hD : Crs w w.heap.size (.slice a C.length cap) C) :
    Calls Try.prog 49 #[.agg #[.slice a C.length cap, .int .i64 loops], .int .i64 (p : Nat)] w fun e w' => e = .returned (.int .i64 (foxM C loops p)) ∧ Below w.heap.size w w' := by
  by_cases h0 : 0 < C.length
  · exact foxOf_some a cap C loops p w hp hpr hm h0 hD
  · exact foxOf_nil a cap C loops p w hm (by omega) hD

set_option maxHeartbeats 4000000 in
set_option maxRecDepth 100000 in
theorem colourFox_out (v : Value) (C : List Cr) (loops : Int) (w : World) (hl : C.length * 40 ≤ 140737488355328) (h : CrsW w w.heap.size v C) (p : Int) (hlo : -9223372036854775808 ≤ p) (hp : p < 2 ∨ 97 < p) :
    Calls Try.prog 14 #[.agg #[v, .int .i64 loops], .int .i64 p] w fun e w' => e = .returned (.bool true) ∧ Below w.heap.size w w' := by
  have HL : Hid (C.length * 40 ≤ 140737488355328) := hl
  have HP : Hid (97 < p ∨ primeN p.toNat = false) := (by
    rcases hp with h1 | h1
    · right
      cases e : primeN p.toNat with
      | false => rfl
      | true =>
        have := (Bool.and_eq_true_iff.1 e).1
        simp at this
        omega
    · exact Or.inl h1 : 97 < p ∨ primeN p.toNat = false)
  obtain ⟨a, cap, rfl⟩ := slf_CrsW h
  obtain ⟨w0, hw0⟩ : ∃ w0, w0 = w.alloc (.cells #[.slice a C.length cap, .int .i64 loops] 24) := ⟨_, rfl⟩
  have HW0 : Hid (w0 = w.alloc (.cells #[.slice a C.length cap, .int .i64 loops] 24)) := hw0
  have hs0 : w0.heap.size = w.heap.size + 1 := by rw [hw0]; simp
  have HB0 : Hid (Below w.heap.size w w0) := (by rw [hw0]; exact (Below.refl _ _).alloc (Nat.le_refl _) _ : Below w.heap.size w w0)
  have HT0 : Hid (w0.heap[w.heap.size]? = some (.cells #[.slice a C.length cap, .int .i64 loops] 24 (0, 0))) := (by rw [hw0]; exact alloc_at rfl : w0.heap[w.heap.size]? = some (.cells #[.slice a C.length cap, .int .i64 loops] 24 (0, 0)))
  have HCW : Hid (∀ w', Below w0.heap.size w0 w' → CrsW w' w'.heap.size (.slice a C.length cap) C) := fun w' hb => (h.up HB0.out).up hb
  have HCC : Hid (∀ w', Below w0.heap.size w0 w' → Crs w' w'.heap.size (.slice a C.length cap) C) := fun w' hb => (HCW.out w' hb).crs (by have := HL.out; unfold maxLen; omega)
  have HF : Hid (∀ w', Below w0.heap.size w0 w' → w'.cell? ⟨w.heap.size, 0, none⟩ = some (.slice a C.length cap) ∧ w'.cell? ⟨w.heap.size, 1, none⟩ = some (.int .i64 loops) ∧ w.heap.size < w'.heap.size) := fun w' hw' => by
    have g0 := (hw'.block _ (by omega)).trans HT0.out
    exact ⟨block_cell g0 rfl, block_cell g0 rfl, (Array.getElem?_eq_some_iff.1 g0).1⟩
  clear hw0 h hl
  go_enter Try.func14, Try.ntmps14
  go_wp2_with (go_at_call 25; rw [← HW0.out]; refine (diagramOf_any _ C loops _ HL.out (HCW.out _ (Below.refl _ _))).mono ?_; rintro e9 w1 ⟨v1, rfl, hc1, hb1⟩; refine Hid.out ?_)
  refine Lib.hid ?_
  obtain ⟨a1, c1, rfl⟩ := slf_Crs hc1
  have HB1 : Hid (Below w0.heap.size w0 w1) := hb1
  have HC1 : Hid (Crs w1 w1.heap.size (.slice a1 C.length c1) C) := hc1
  clear hb1 hc1
  go_wp2_with (go_at_call 47; refine (fox_range _ loops C p _ hlo HP.out HC1.out).mono ?_; rintro e9 w2 ⟨rfl, hb2⟩; refine Hid.out ?_)
  refine Lib.hid ?_
  have HB2 : Hid (Below w0.heap.size w0 w2) := HB1.out.trans (hb2.mono HB1.out.size)
  clear hb2
  rcases hp with h1 | h1
  all_goals
    go_wp2
    go_ret
    exact ⟨by first | rfl | simp, HB0.out.trans (HB2.out.mono HB0.out.size)⟩

set_option maxHeartbeats 4000000 in
set_option maxRecDepth 100000 in
theorem colourFox_comp (v : Value) (C : List Cr) (loops : Int) (w : World) (hl : C.length * 40 ≤ 140737488355328) (h : CrsW w w.heap.size v C) (q : Nat) (hq2 : 2 ≤ q) (hq97 : q ≤ 97) (hp : primeN q = false) :
    Calls Try.prog 14 #[.agg #[v, .int .i64 loops], .int .i64 (q : Nat)] w fun e w' => e = .returned (.bool true) ∧ Below w.heap.size w w' := by
  have HL : Hid (C.length * 40 ≤ 140737488355328) := hl
  have HPN : Hid (primeN q = false) := hp
  have HP : Hid (97 < (q : Int) ∨ primeN (q : Int).toNat = false) := (by rw [Int.toNat_natCast]; exact Or.inr hp : 97 < (q : Int) ∨ primeN (q : Int).toNat = false)
  clear hp
  obtain ⟨a, cap, rfl⟩ := slf_CrsW h
  obtain ⟨w0, hw0⟩ : ∃ w0, w0 = w.alloc (.cells #[.slice a C.length cap, .int .i64 loops] 24) := ⟨_, rfl⟩
  have HW0 : Hid (w0 = w.alloc (.cells #[.slice a C.length cap, .int .i64 loops] 24)) := hw0
  have hs0 : w0.heap.size = w.heap.size + 1 := by rw [hw0]; simp
  have HB0 : Hid (Below w.heap.size w w0) := (by rw [hw0]; exact (Below.refl _ _).alloc (Nat.le_refl _) _ : Below w.heap.size w w0)
  have HT0 : Hid (w0.heap[w.heap.size]? = some (.cells #[.slice a C.length cap, .int .i64 loops] 24 (0, 0))) := (by rw [hw0]; exact alloc_at rfl : w0.heap[w.heap.size]? = some (.cells #[.slice a C.length cap, .int .i64 loops] 24 (0, 0)))
  have HCW : Hid (∀ w', Below w0.heap.size w0 w' → CrsW w' w'.heap.size (.slice a C.length cap) C) := fun w' hb => (h.up HB0.out).up hb
  have HCC : Hid (∀ w', Below w0.heap.size w0 w' → Crs w' w'.heap.size (.slice a C.length cap) C) := fun w' hb => (HCW.out w' hb).crs (by have := HL.out; unfold maxLen; omega)
  have HF : Hid (∀ w', Below w0.heap.size w0 w' → w'.cell? ⟨w.heap.size, 0, none⟩ = some (.slice a C.length cap) ∧ w'.cell? ⟨w.heap.size, 1, none⟩ = some (.int .i64 loops) ∧ w.heap.size < w'.heap.size) := fun w' hw' => by
    have g0 := (hw'.block _ (by omega)).trans HT0.out
    exact ⟨block_cell g0 rfl, block_cell g0 rfl, (Array.getElem?_eq_some_iff.1 g0).1⟩
  clear hw0 h hl
  go_enter Try.func14, Try.ntmps14
  go_wp2_with (go_at_call 25; rw [← HW0.out]; refine (diagramOf_any _ C loops _ HL.out (HCW.out _ (Below.refl _ _))).mono ?_; rintro e9 w1 ⟨v1, rfl, hc1, hb1⟩; refine Hid.out ?_)
  refine Lib.hid ?_
  obtain ⟨a1, c1, rfl⟩ := slf_Crs hc1
  have HB1 : Hid (Below w0.heap.size w0 w1) := hb1
  have HC1 : Hid (Crs w1 w1.heap.size (.slice a1 C.length c1) C) := hc1
  clear hb1 hc1
  go_wp2_with (go_at_call 47; refine (fox_range _ loops C (q : Int) _ (by omega) HP.out HC1.out).mono ?_; rintro e9 w2 ⟨rfl, hb2⟩; refine Hid.out ?_)
  refine Lib.hid ?_
  have HB2 : Hid (Below w0.heap.size w0 w2) := HB1.out.trans (hb2.mono HB1.out.size)
  clear hb2
  go_wp2_with (go_at_call 48; refine (primeR_any q _ hq2 hq97).mono ?_; rw [HPN.out]; rintro e9 w3 ⟨rfl, hb3⟩; refine Hid.out ?_)
  refine Lib.hid ?_
  have HB3 : Hid (Below w0.heap.size w0 w3) := HB2.out.trans (hb3.mono HB2.out.size)
  clear hb3
  go_wp2
  go_ret
  exact ⟨by first | rfl | simp, HB0.out.trans (HB3.out.mono HB0.out.size)⟩

set_option maxHeartbeats 4000000 in
set_option maxRecDepth 100000 in
theorem colourFox_no (v : Value) (C : List Cr) (loops : Int) (w : World) (hl : C.length * 40 ≤ 140737488355328) (h : CrsW w w.heap.size v C) (hFR : FaceRingsOk) (q : Nat) (hq2 : 2 ≤ q) (hq97 : q ≤ 97) (hp : primeN q = true) (hn : noN C loops ≠ 0) :
    Calls Try.prog 14 #[.agg #[v, .int .i64 loops], .int .i64 (q : Nat)] w fun e w' => e = .returned (.bool true) ∧ Below w.heap.size w w' := by
  have HL : Hid (C.length * 40 ≤ 140737488355328) := hl
  have HPN : Hid (primeN q = true) := hp
  have HFA : Hid FaceRingsOk := hFR
  have HN : Hid (noN C loops ≠ 0) := hn
  obtain ⟨r, hr⟩ : ∃ r, noN C loops = r := ⟨_, rfl⟩
  have HR : Hid (noN C loops = r) := hr
  rw [hr] at hn
  have hr0 : (r == 0) = false := beq_eq_false_iff_ne.2 hn
  have hrr : (r == r) = true := beq_self_eq_true r
  clear hr hp
  obtain ⟨a, cap, rfl⟩ := slf_CrsW h
  obtain ⟨w0, hw0⟩ : ∃ w0, w0 = w.alloc (.cells #[.slice a C.length cap, .int .i64 loops] 24) := ⟨_, rfl⟩
  have HW0 : Hid (w0 = w.alloc (.cells #[.slice a C.length cap, .int .i64 loops] 24)) := hw0
  have hs0 : w0.heap.size = w.heap.size + 1 := by rw [hw0]; simp
  have HB0 : Hid (Below w.heap.size w w0) := (by rw [hw0]; exact (Below.refl _ _).alloc (Nat.le_refl _) _ : Below w.heap.size w w0)
  have HT0 : Hid (w0.heap[w.heap.size]? = some (.cells #[.slice a C.length cap, .int .i64 loops] 24 (0, 0))) := (by rw [hw0]; exact alloc_at rfl : w0.heap[w.heap.size]? = some (.cells #[.slice a C.length cap, .int .i64 loops] 24 (0, 0)))
  have HCW : Hid (∀ w', Below w0.heap.size w0 w' → CrsW w' w'.heap.size (.slice a C.length cap) C) := fun w' hb => (h.up HB0.out).up hb
  have HCC : Hid (∀ w', Below w0.heap.size w0 w' → Crs w' w'.heap.size (.slice a C.length cap) C) := fun w' hb => (HCW.out w' hb).crs (by have := HL.out; unfold maxLen; omega)
  have HF : Hid (∀ w', Below w0.heap.size w0 w' → w'.cell? ⟨w.heap.size, 0, none⟩ = some (.slice a C.length cap) ∧ w'.cell? ⟨w.heap.size, 1, none⟩ = some (.int .i64 loops) ∧ w.heap.size < w'.heap.size) := fun w' hw' => by
    have g0 := (hw'.block _ (by omega)).trans HT0.out
    exact ⟨block_cell g0 rfl, block_cell g0 rfl, (Array.getElem?_eq_some_iff.1 g0).1⟩
  clear hw0 h hl
  go_enter Try.func14, Try.ntmps14
  go_wp2_with (go_at_call 25; rw [← HW0.out]; refine (diagramOf_any _ C loops _ HL.out (HCW.out _ (Below.refl _ _))).mono ?_; rintro e9 w1 ⟨v1, rfl, hc1, hb1⟩; refine Hid.out ?_)
  refine Lib.hid ?_
  obtain ⟨a1, c1, rfl⟩ := slf_Crs hc1
  have HB1 : Hid (Below w0.heap.size w0 w1) := hb1
  have HC1 : Hid (Crs w1 w1.heap.size (.slice a1 C.length c1) C) := hc1
  clear hb1 hc1
  go_wp2_with (go_at_call 47; refine (fox_no HFA.out _ C loops q _ hq97 HPN.out HN.out HC1.out).mono ?_; rw [HR.out]; rintro e9 w2 ⟨rfl, hb2⟩; refine Hid.out ?_)
  refine Lib.hid ?_
  have HB2 : Hid (Below w0.heap.size w0 w2) := HB1.out.trans (hb2.mono HB1.out.size)
  clear hb2
  go_wp2_with (go_at_call 48; refine (primeR_any q _ hq2 hq97).mono ?_; rw [HPN.out]; rintro e9 w3 ⟨rfl, hb3⟩; refine Hid.out ?_)
  refine Lib.hid ?_
  have HB3 : Hid (Below w0.heap.size w0 w3) := HB2.out.trans (hb3.mono HB2.out.size)
  clear hb3
  obtain ⟨p0, p1, p2⟩ := HF.out w3 HB3.out
  go_wp2_with (go_at_call 44; refine (planarMay_any _ C loops _ (HCC.out _ HB3.out)).mono ?_; rw [HR.out]; rintro e9 w4 ⟨rfl, hb4⟩; refine Hid.out ?_)
  refine Lib.hid ?_
  have HB4 : Hid (Below w0.heap.size w0 w4) := HB3.out.trans (hb4.mono HB3.out.size)
  clear hb4 p0 p1 p2
  go_wp2
  go_ret
  exact ⟨by first | rfl | simp, HB0.out.trans (HB4.out.mono HB0.out.size)⟩

set_option maxHeartbeats 4000000 in
set_option maxRecDepth 100000 in
theorem colourFox_yes (v : Value) (C : List Cr) (loops : Int) (w : World) (hl : C.length * 40 ≤ 140737488355328) (h : CrsW w w.heap.size v C) (hFR : FaceRingsOk) (q : Nat) (hq2 : 2 ≤ q) (hq97 : q ≤ 97) (hp : primeN q = true) (hn : noN C loops = 0) :
    Calls Try.prog 14 #[.agg #[v, .int .i64 loops], .int .i64 (q : Nat)] w fun e w' => e = .returned (.bool true) ∧ Below w.heap.size w w' := by
  have HL : Hid (C.length * 40 ≤ 140737488355328) := hl
  have HPN : Hid (primeN q = true) := hp
  have HFA : Hid FaceRingsOk := hFR
  have HN : Hid (noN C loops = 0) := hn
  have HM : Hid (mayD C loops = true) := (noN_zero hn).1
  obtain ⟨fx, hfx⟩ : ∃ f, foxM C loops q = f := ⟨_, rfl⟩
  have HFX : Hid (foxM C loops q = fx) := hfx
  have hff : (fx == fx) = true := beq_self_eq_true fx
  clear hp hn hfx
  obtain ⟨a, cap, rfl⟩ := slf_CrsW h
  obtain ⟨w0, hw0⟩ : ∃ w0, w0 = w.alloc (.cells #[.slice a C.length cap, .int .i64 loops] 24) := ⟨_, rfl⟩
  have HW0 : Hid (w0 = w.alloc (.cells #[.slice a C.length cap, .int .i64 loops] 24)) := hw0
  have hs0 : w0.heap.size = w.heap.size + 1 := by rw [hw0]; simp
  have HB0 : Hid (Below w.heap.size w w0) := (by rw [hw0]; exact (Below.refl _ _).alloc (Nat.le_refl _) _ : Below w.heap.size w w0)
  have HT0 : Hid (w0.heap[w.heap.size]? = some (.cells #[.slice a C.length cap, .int .i64 loops] 24 (0, 0))) := (by rw [hw0]; exact alloc_at rfl : w0.heap[w.heap.size]? = some (.cells #[.slice a C.length cap, .int .i64 loops] 24 (0, 0)))
  have HCW : Hid (∀ w', Below w0.heap.size w0 w' → CrsW w' w'.heap.size (.slice a C.length cap) C) := fun w' hb => (h.up HB0.out).up hb
  have HCC : Hid (∀ w', Below w0.heap.size w0 w' → Crs w' w'.heap.size (.slice a C.length cap) C) := fun w' hb => (HCW.out w' hb).crs (by have := HL.out; unfold maxLen; omega)
  have HF : Hid (∀ w', Below w0.heap.size w0 w' → w'.cell? ⟨w.heap.size, 0, none⟩ = some (.slice a C.length cap) ∧ w'.cell? ⟨w.heap.size, 1, none⟩ = some (.int .i64 loops) ∧ w.heap.size < w'.heap.size) := fun w' hw' => by
    have g0 := (hw'.block _ (by omega)).trans HT0.out
    exact ⟨block_cell g0 rfl, block_cell g0 rfl, (Array.getElem?_eq_some_iff.1 g0).1⟩
  clear hw0 h hl
  go_enter Try.func14, Try.ntmps14
  go_wp2_with (go_at_call 25; rw [← HW0.out]; refine (diagramOf_any _ C loops _ HL.out (HCW.out _ (Below.refl _ _))).mono ?_; rintro e9 w1 ⟨v1, rfl, hc1, hb1⟩; refine Hid.out ?_)
  refine Lib.hid ?_
  obtain ⟨a1, c1, rfl⟩ := slf_Crs hc1
  have HB1 : Hid (Below w0.heap.size w0 w1) := hb1
  have HC1 : Hid (Crs w1 w1.heap.size (.slice a1 C.length c1) C) := hc1
  clear hb1 hc1
  go_wp2_with (go_at_call 47; refine (fox_yes HFA.out _ C loops q _ hq97 HPN.out HN.out HC1.out).mono ?_; rw [HFX.out]; rintro e9 w2 ⟨rfl, hb2⟩; refine Hid.out ?_)
  refine Lib.hid ?_
  have HB2 : Hid (Below w0.heap.size w0 w2) := HB1.out.trans (hb2.mono HB1.out.size)
  clear hb2
  go_wp2_with (go_at_call 48; refine (primeR_any q _ hq2 hq97).mono ?_; rw [HPN.out]; rintro e9 w3 ⟨rfl, hb3⟩; refine Hid.out ?_)
  refine Lib.hid ?_
  have HB3 : Hid (Below w0.heap.size w0 w3) := HB2.out.trans (hb3.mono HB2.out.size)
  clear hb3
  obtain ⟨p0, p1, p2⟩ := HF.out w3 HB3.out
  go_wp2_with (go_at_call 44; refine (planarMay_any _ C loops _ (HCC.out _ HB3.out)).mono ?_; rw [HN.out]; rintro e9 w4 ⟨rfl, hb4⟩; refine Hid.out ?_)
  refine Lib.hid ?_
  have HB4 : Hid (Below w0.heap.size w0 w4) := HB3.out.trans (hb4.mono HB3.out.size)
  clear hb4 p0 p1 p2
  obtain ⟨p0, p1, p2⟩ := HF.out w4 HB4.out
  go_wp2_with (first
    | (go_at_call 49; refine (foxOf_any a cap C loops q _ (by omega) HPN.out HM.out (HCC.out _ HB4.out)).mono ?_; rw [HFX.out]; rintro e9 w5 ⟨rfl, hb5⟩; refine Hid.out ?_))
  refine Lib.hid ?_
  have HB5 : Hid (Below w0.heap.size w0 w5) := HB4.out.trans (hb5.mono HB4.out.size)
  clear hb5 p0 p1 p2
  go_wp2
  go_ret
  exact ⟨by first | rfl | simp, HB0.out.trans (HB5.out.mono HB0.out.size)⟩

theorem colourFox_any (hFR : FaceRingsOk) (v : Value) (C : List Cr) (loops p : Int) (w : World) (hl : C.length * 40 ≤ 140737488355328) (hlo : -9223372036854775808 ≤ p) (h : CrsW w w.heap.size v C) :
    Calls Try.prog 14 #[.agg #[v, .int .i64 loops], .int .i64 p] w fun e w' => e = .returned (.bool true) ∧ Below w.heap.size w w' := by
  by_cases hp : p < 2 ∨ 97 < p
  · exact colourFox_out v C loops w hl h p hlo hp
  · obtain ⟨q, rfl⟩ : ∃ q : Nat, p = (q : Int) := ⟨p.toNat, by omega⟩
    have h2 : 2 ≤ q := by omega
    have h97 : q ≤ 97 := by omega
    cases e : primeN q with
    | false => exact colourFox_comp v C loops w hl h q h2 h97 e
    | true =>
      by_cases hn : noN C loops = 0
      · exact colourFox_yes v C loops w hl h hFR q h2 h97 e hn
      · exact colourFox_no v C loops w hl h hFR q h2 h97 e hn
end Go.Proofs.Ytinaebeoocjhcaa
