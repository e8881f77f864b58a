/- The law SignShades: its walk, whole. Made by genlss.py. -/
import Derived.Test.YtagaajlbkfkaiaaLSignShades
namespace Go.Proofs.Ytagaajlbkfkaiaa
open Go.RowKit Go.Maps

theorem sls_crs {w : World} {B : Nat} {v : Value} {C : List Cr} (h : CrsW w B v C) : ∃ a c, v = .slice a C.length c := by
  rcases h with ⟨rfl, rfl⟩ | ⟨ad, cap, rfl, rfl⟩ | ⟨b, off, cap, rfl, -, -⟩
  · exact ⟨_, _, rfl⟩
  · exact ⟨_, _, rfl⟩
  · exact ⟨_, _, rfl⟩
theorem slots_ints {w : World} {B g F : Nat} {L : List Int} (h : w.ownsRow B 3 1 (.slice (some ⟨g, 0, none⟩) F F) F (intsV L)) (hL : L.length = F) : Slots w w.heap.size (.slice (some ⟨g, 0, none⟩) F F) (intsV L) := by
  subst hL
  have h2 : w.ownsRow B 3 1 (.slice (some ⟨g, 0, none⟩) L.length L.length) (intsV L).length (intsV L) := by rw [intsV_len]; exact h
  have h3 := slots_of_own h2
  first | exact h3 | (rw [intsV_len] at h3; exact h3)

set_option maxHeartbeats 8000000 in
set_option maxRecDepth 100000 in
theorem signShades_no (a : Option Addr) (cap : Nat) (C : List Cr) (loops sh fr r : Int) (w : World) (hl : C.length * 40 ≤ 140737488355328) (h : CrsW w w.heap.size (.slice a C.length cap) C) (hone : oneN C loops = r) (hr : r ≠ 0)
    (hSH : ∀ a cap W, Crs W W.heap.size (.slice a C.length cap) C → Calls Try.prog 21 #[.agg #[.slice a C.length cap, .int .i64 loops]] W fun e w' => e = .returned (.tuple #[.slice none 0 0, .int .i64 r]) ∧ Below W.heap.size W w')
    (hGO : ∀ a cap W, Crs W W.heap.size (.slice a C.length cap) C → Calls Try.prog 22 #[.agg #[.slice a C.length cap, .int .i64 loops], .int .i64 sh] W fun e w' => e = .returned (.tuple #[.slice none 0 0, .int .i64 0, .int .i64 fr]) ∧ Below W.heap.size W w')
    (hfr : (sh ≠ 0 ∧ sh ≠ 1 ∧ fr = 3) ∨ ((sh = 0 ∨ sh = 1) ∧ fr = r)) :
    Calls Try.prog 8 #[.agg #[.slice a C.length cap, .int .i64 loops], .int .i64 sh] w fun e w' => e = .returned (.bool true) ∧ Below w.heap.size w w' := by
  have HSH := hidS hSH
  have HGO := hidS hGO
  have hr0 : (r != 0) = true := by simpa using hr
  have hrr : (r != r) = false := by simp
  have hrq : (r == r) = true := by simp
  have HFR := hidS hfr
  clear hSH hGO hr hfr
  have hmx : C.length ≤ maxLen := by unfold maxLen; omega
  obtain ⟨V, hV⟩ : ∃ V, w.alloc (.cells #[.slice a C.length cap, .int .i64 loops] 24) = V := ⟨_, rfl⟩
  have hB : Below w.heap.size w V := by rw [← hV]; exact (Below.refl _ _).alloc (Nat.le_refl _) _
  have k0 : V.heap[w.heap.size]? = some (.cells #[.slice a C.length cap, .int .i64 loops] 24 (0, 0)) := by rw [← hV]; exact alloc_at rfl
  have lV : w.heap.size < V.heap.size := by rw [← hV]; simp
  have HV := hidS hV
  have HB := hidS hB
  have HL := hidS hl
  have HCW : Hid (∀ W, Below V.heap.size V W → CrsW W W.heap.size (.slice a C.length cap) C) := fun W hW => (h.up HB.out).up hW
  have HSV : Hid (∀ W, Below V.heap.size V W → W.cell? ⟨w.heap.size, 0, none⟩ = some (.slice a C.length cap) ∧ W.cell? ⟨w.heap.size, 1, none⟩ = some (.int .i64 loops) ∧ w.heap.size < W.heap.size) := fun W hW => by
    have e := (hW.block _ lV).trans k0
    exact ⟨block_cell e rfl, block_cell e rfl, (Array.getElem?_eq_some_iff.1 e).1⟩
  have HON := hidS (fun W (hW : Below V.heap.size V W) => one_any a cap C loops W ((HCW.out W hW).crs hmx))
  rw [hone] at HON
  have c0 := HSV.out V (Below.refl _ _)
  clear h hl hV hB k0 hone
  go_enter Try.func8, Try.ntmps8
  go_upto_region 1 with (fail)
  rw [HV.out]
  go_upto_region 2 with (first
    | (go_at_call 10; refine (diagramOf_any _ C loops _ HL.out (HCW.out _ (Below.refl _ _))).mono ?_; rintro e9 w1 ⟨v1, rfl, hc1, hb1⟩
       obtain ⟨a1, cp1, rfl, hcl1, hcx1⟩ := hc1
       have HC1 : Hid (Crs w1 w1.heap.size (.slice a1 C.length cp1) C) := ⟨a1, cp1, rfl, hcl1, hcx1⟩
       have HB1 := hidS hb1
       clear hb1 hcl1 hcx1 c0)
    | (go_at_call 21; refine (HSH.out a1 cp1 _ HC1.out).mono ?_; rintro e9 w2 ⟨rfl, hb2⟩
       have HB2 := hidS (HB1.out.trans (hb2.mono HB1.out.size))
       clear hb2))
  have c0 := HSV.out w2 HB2.out
  go_upto_region 3 with (first
    | (go_at_call 10; refine (diagramOf_any _ C loops _ HL.out (HCW.out _ HB2.out)).mono ?_; rintro e9 w3 ⟨v3, rfl, hc3, hb3⟩
       obtain ⟨a3, cp3, rfl, hcl3, hcx3⟩ := hc3
       have HC3 : Hid (Crs w3 w3.heap.size (.slice a3 C.length cp3) C) := ⟨a3, cp3, rfl, hcl3, hcx3⟩
       have HB23 := hidS hb3
       have HB3 := hidS (HB2.out.trans (hb3.mono HB2.out.size))
       clear hb3 hcl3 hcx3 c0)
    | (go_at_call 22; refine (HGO.out a3 cp3 _ HC3.out).mono ?_; rintro e9 w4 ⟨rfl, hb4⟩
       have HB34 := hidS hb4
       have HB4 := hidS (HB3.out.trans (hb4.mono HB3.out.size))
       clear hb4))
  have c0 := HSV.out w4 HB4.out
  go_upto_region 4 with (go_at_call 23; refine (HON.out _ HB4.out).mono ?_; rintro e9 w5 ⟨rfl, hb5⟩
                         have HB45 := hidS hb5
                         have HB5 := hidS (HB4.out.trans (hb5.mono HB4.out.size))
                         clear hb5 c0)
  rcases HFR.out with ⟨h0, h1, hf⟩ | ⟨h0, hf⟩
  · have e0 : (sh != 0) = true := by simpa using h0
    have e1 : (sh != 1) = true := by simpa using h1
    have e3 : (fr == 3) = true := by rw [hf]; rfl
    clear h0 h1 hf
    go_wp2
    go_ret
    exact ⟨by first | rfl | simp, HB.out.trans (HB5.out.mono (by omega))⟩
  · subst hf
    rcases h0 with h0 | h0
    · subst h0
      go_wp2
      go_ret
      exact ⟨by first | rfl | simp, HB.out.trans (HB5.out.mono (by omega))⟩
    · subst h0
      go_wp2
      go_ret
      exact ⟨by first | rfl | simp, HB.out.trans (HB5.out.mono (by omega))⟩

set_option maxHeartbeats 8000000 in
set_option maxRecDepth 100000 in
theorem signShades_range (a : Option Addr) (cap : Nat) (C : List Cr) (loops sh : Int) (F : Nat) (L : List Int) (hF : F ≤ 1000) (hLF : L.length = F) (w : World) (hl : C.length * 40 ≤ 140737488355328) (h : CrsW w w.heap.size (.slice a C.length cap) C) (hone : oneN C loops = 0) (h0 : sh ≠ 0) (h1 : sh ≠ 1)
    (hSH : ∀ a cap W, Crs W W.heap.size (.slice a C.length cap) C → Calls Try.prog 21 #[.agg #[.slice a C.length cap, .int .i64 loops]] W fun e w' => ∃ gS, e = .returned (.tuple #[.slice (some ⟨gS, 0, none⟩) F F, .int .i64 0]) ∧ w'.ownsRow W.heap.size 3 1 (.slice (some ⟨gS, 0, none⟩) F F) F (intsV L) ∧ Below W.heap.size W w')
    (hGO : ∀ a cap W, Crs W W.heap.size (.slice a C.length cap) C → Calls Try.prog 22 #[.agg #[.slice a C.length cap, .int .i64 loops], .int .i64 sh] W fun e w' => e = .returned (.tuple #[.slice none 0 0, .int .i64 0, .int .i64 3]) ∧ Below W.heap.size W w')
    (hRF : ∀ a cap W, Crs W W.heap.size (.slice a C.length cap) C → Calls Try.prog 25 #[.agg #[.slice a C.length cap, .int .i64 loops]] W fun e w' => ∃ gO, e = .returned (.slice (some ⟨gO, 0, none⟩) F F) ∧ w'.ownsRow W.heap.size 3 1 (.slice (some ⟨gO, 0, none⟩) F F) F (intsV L) ∧ Below W.heap.size W w') :
    Calls Try.prog 8 #[.agg #[.slice a C.length cap, .int .i64 loops], .int .i64 sh] w fun e w' => e = .returned (.bool true) ∧ Below w.heap.size w w' := by
  have HSH := hidS hSH
  have HGO := hidS hGO
  have HRF := hidS hRF
  have HLF := hidS hLF
  have e0 : (sh != 0) = true := by simpa using h0
  have e1 : (sh != 1) = true := by simpa using h1
  clear hSH hGO hRF h0 h1 hLF
  have hmx : C.length ≤ maxLen := by unfold maxLen; omega
  obtain ⟨V, hV⟩ : ∃ V, w.alloc (.cells #[.slice a C.length cap, .int .i64 loops] 24) = V := ⟨_, rfl⟩
  have hB : Below w.heap.size w V := by rw [← hV]; exact (Below.refl _ _).alloc (Nat.le_refl _) _
  have k0 : V.heap[w.heap.size]? = some (.cells #[.slice a C.length cap, .int .i64 loops] 24 (0, 0)) := by rw [← hV]; exact alloc_at rfl
  have lV : w.heap.size < V.heap.size := by rw [← hV]; simp
  have HV := hidS hV
  have HB := hidS hB
  have HL := hidS hl
  have HCW : Hid (∀ W, Below V.heap.size V W → CrsW W W.heap.size (.slice a C.length cap) C) := fun W hW => (h.up HB.out).up hW
  have HSV : Hid (∀ W, Below V.heap.size V W → W.cell? ⟨w.heap.size, 0, none⟩ = some (.slice a C.length cap) ∧ W.cell? ⟨w.heap.size, 1, none⟩ = some (.int .i64 loops) ∧ w.heap.size < W.heap.size) := fun W hW => by
    have e := (hW.block _ lV).trans k0
    exact ⟨block_cell e rfl, block_cell e rfl, (Array.getElem?_eq_some_iff.1 e).1⟩
  have HON := hidS (fun W (hW : Below V.heap.size V W) => one_any a cap C loops W ((HCW.out W hW).crs hmx))
  rw [hone] at HON
  have c0 := HSV.out V (Below.refl _ _)
  clear h hl hV hB k0 hone
  go_enter Try.func8, Try.ntmps8
  go_upto_region 1 with (fail)
  rw [HV.out]
  go_upto_region 2 with (first
    | (go_at_call 10; refine (diagramOf_any _ C loops _ HL.out (HCW.out _ (Below.refl _ _))).mono ?_; rintro e9 w1 ⟨v1, rfl, hc1, hb1⟩
       obtain ⟨a1, cp1, rfl, hcl1, hcx1⟩ := hc1
       have HC1 : Hid (Crs w1 w1.heap.size (.slice a1 C.length cp1) C) := ⟨a1, cp1, rfl, hcl1, hcx1⟩
       have HB1 := hidS hb1
       clear hb1 hcl1 hcx1 c0)
    | (go_at_call 21; refine (HSH.out a1 cp1 _ HC1.out).mono ?_; rintro e9 w2 ⟨gS, rfl, ho2, hb2⟩; have HO2 := hidS ho2; clear ho2
       have HB2 := hidS (HB1.out.trans (hb2.mono HB1.out.size))
       clear hb2))
  have c0 := HSV.out w2 HB2.out
  go_upto_region 3 with (first
    | (go_at_call 10; refine (diagramOf_any _ C loops _ HL.out (HCW.out _ HB2.out)).mono ?_; rintro e9 w3 ⟨v3, rfl, hc3, hb3⟩
       obtain ⟨a3, cp3, rfl, hcl3, hcx3⟩ := hc3
       have HC3 : Hid (Crs w3 w3.heap.size (.slice a3 C.length cp3) C) := ⟨a3, cp3, rfl, hcl3, hcx3⟩
       have HB23 := hidS hb3
       have HB3 := hidS (HB2.out.trans (hb3.mono HB2.out.size))
       clear hb3 hcl3 hcx3 c0)
    | (go_at_call 22; refine (HGO.out a3 cp3 _ HC3.out).mono ?_; rintro e9 w4 ⟨rfl, hb4⟩
       have HB34 := hidS hb4
       have HB4 := hidS (HB3.out.trans (hb4.mono HB3.out.size))
       clear hb4))
  have c0 := HSV.out w4 HB4.out
  go_upto_region 4 with (go_at_call 23; refine (HON.out _ HB4.out).mono ?_; rintro e9 w5 ⟨rfl, hb5⟩
                         have HB45 := hidS hb5
                         have HB5 := hidS (HB4.out.trans (hb5.mono HB4.out.size))
                         clear hb5 c0)
  have c0 := HSV.out w5 HB5.out
  have HM := hidS hmx
  go_wp2_with (first
    | (go_at_call 25; refine (HRF.out a cap _ ((HCW.out _ HB5.out).crs HM.out)).mono ?_; rintro e9 w6 ⟨gO, rfl, ho6, hb6⟩
       have HS1 : Hid (Slots w6 w6.heap.size (.slice (some ⟨gS, 0, none⟩) F F) (intsV L)) := (by
         have hh := own_any HO2.out (grown_below (HB23.out.trans ((HB34.out.trans ((HB45.out.trans (hb6.mono HB45.out.size)).mono HB34.out.size)).mono HB23.out.size)) none)
         exact slots_ints hh HLF.out)
       have HS2 : Hid (Slots w6 w6.heap.size (.slice (some ⟨gO, 0, none⟩) F F) (intsV L)) := slots_ints ho6 HLF.out
       have HB6 := hidS (HB5.out.trans (hb6.mono HB5.out.size))
       clear ho6 hb6 c0)
    | (go_at_call 24; refine (sameInts_eqI _ _ L _ (by rw [HLF.out]; exact hF) HS1.out HS2.out).mono ?_; rintro e9 w7 ⟨rfl, hb7⟩
       have HB7 := hidS (HB6.out.trans (hb7.mono HB6.out.size))
       clear hb7))
  go_ret
  exact ⟨by first | rfl | simp, HB.out.trans (HB7.out.mono (by omega))⟩

set_option maxHeartbeats 8000000 in
set_option maxRecDepth 100000 in
theorem signShades_yes (a : Option Addr) (cap : Nat) (C : List Cr) (loops : Int) (sh : Nat) (hsh : sh < 2) (F m : Nat) (T : Nat → Nat → Int) (fx : Int) (hm9 : m ≤ 100) (L : List Int) (hF : F ≤ 1000) (hLF : L.length = F) (w : World) (hl : C.length * 40 ≤ 140737488355328) (h : CrsW w w.heap.size (.slice a C.length cap) C) (hone : oneN C loops = 0)
    (hSH : ∀ a cap W, Crs W W.heap.size (.slice a C.length cap) C → Calls Try.prog 21 #[.agg #[.slice a C.length cap, .int .i64 loops]] W fun e w' => ∃ gS, e = .returned (.tuple #[.slice (some ⟨gS, 0, none⟩) F F, .int .i64 0]) ∧ w'.ownsRow W.heap.size 3 1 (.slice (some ⟨gS, 0, none⟩) F F) F (intsV L) ∧ Below W.heap.size W w')
    (hGO : ∀ a cap W, Crs W W.heap.size (.slice a C.length cap) C → Calls Try.prog 22 #[.agg #[.slice a C.length cap, .int .i64 loops], .int .i64 (sh : Nat)] W fun e w' => ∃ gt gs, e = .returned (.tuple #[.slice (some ⟨gt, 0, none⟩) m m, .int .i64 fx, .int .i64 0]) ∧ TabAt W.heap.size gt m gs m T w' ∧ Below W.heap.size W w')
    (hRG : ∀ a cap W, Crs W W.heap.size (.slice a C.length cap) C → Calls Try.prog 26 #[.agg #[.slice a C.length cap, .int .i64 loops], .int .i64 (sh : Nat)] W fun e w' => ∃ gt ct gs, e = .returned (.tuple #[.slice (some ⟨gt, 0, none⟩) m ct, .int .i64 fx]) ∧ TabO W.heap.size gt ct m m gs T w' ∧ Below W.heap.size W w')
    (hRF : ∀ a cap W, Crs W W.heap.size (.slice a C.length cap) C → Calls Try.prog 25 #[.agg #[.slice a C.length cap, .int .i64 loops]] W fun e w' => ∃ gO, e = .returned (.slice (some ⟨gO, 0, none⟩) F F) ∧ w'.ownsRow W.heap.size 3 1 (.slice (some ⟨gO, 0, none⟩) F F) F (intsV L) ∧ Below W.heap.size W w') :
    Calls Try.prog 8 #[.agg #[.slice a C.length cap, .int .i64 loops], .int .i64 (sh : Nat)] w fun e w' => e = .returned (.bool true) ∧ Below w.heap.size w w' := by
  have HSH := hidS hSH
  have HGO := hidS hGO
  have HRF := hidS hRF
  have HLF := hidS hLF
  have HRG := hidS hRG
  have hfq : (fx == fx) = true := by simp
  clear hSH hGO hRF hRG hLF
  have hmx : C.length ≤ maxLen := by unfold maxLen; omega
  obtain ⟨V, hV⟩ : ∃ V, w.alloc (.cells #[.slice a C.length cap, .int .i64 loops] 24) = V := ⟨_, rfl⟩
  have hB : Below w.heap.size w V := by rw [← hV]; exact (Below.refl _ _).alloc (Nat.le_refl _) _
  have k0 : V.heap[w.heap.size]? = some (.cells #[.slice a C.length cap, .int .i64 loops] 24 (0, 0)) := by rw [← hV]; exact alloc_at rfl
  have lV : w.heap.size < V.heap.size := by rw [← hV]; simp
  have HV := hidS hV
  have HB := hidS hB
  have HL := hidS hl
  have HCW : Hid (∀ W, Below V.heap.size V W → CrsW W W.heap.size (.slice a C.length cap) C) := fun W hW => (h.up HB.out).up hW
  have HSV : Hid (∀ W, Below V.heap.size V W → W.cell? ⟨w.heap.size, 0, none⟩ = some (.slice a C.length cap) ∧ W.cell? ⟨w.heap.size, 1, none⟩ = some (.int .i64 loops) ∧ w.heap.size < W.heap.size) := fun W hW => by
    have e := (hW.block _ lV).trans k0
    exact ⟨block_cell e rfl, block_cell e rfl, (Array.getElem?_eq_some_iff.1 e).1⟩
  have HON := hidS (fun W (hW : Below V.heap.size V W) => one_any a cap C loops W ((HCW.out W hW).crs hmx))
  rw [hone] at HON
  have c0 := HSV.out V (Below.refl _ _)
  clear h hl hV hB k0 hone
  go_enter Try.func8, Try.ntmps8
  go_upto_region 1 with (fail)
  rw [HV.out]
  go_upto_region 2 with (first
    | (go_at_call 10; refine (diagramOf_any _ C loops _ HL.out (HCW.out _ (Below.refl _ _))).mono ?_; rintro e9 w1 ⟨v1, rfl, hc1, hb1⟩
       obtain ⟨a1, cp1, rfl, hcl1, hcx1⟩ := hc1
       have HC1 : Hid (Crs w1 w1.heap.size (.slice a1 C.length cp1) C) := ⟨a1, cp1, rfl, hcl1, hcx1⟩
       have HB1 := hidS hb1
       clear hb1 hcl1 hcx1 c0)
    | (go_at_call 21; refine (HSH.out a1 cp1 _ HC1.out).mono ?_; rintro e9 w2 ⟨gS, rfl, ho2, hb2⟩; have HO2 := hidS ho2; clear ho2
       have HB2 := hidS (HB1.out.trans (hb2.mono HB1.out.size))
       clear hb2))
  have c0 := HSV.out w2 HB2.out
  go_upto_region 3 with (first
    | (go_at_call 10; refine (diagramOf_any _ C loops _ HL.out (HCW.out _ HB2.out)).mono ?_; rintro e9 w3 ⟨v3, rfl, hc3, hb3⟩
       obtain ⟨a3, cp3, rfl, hcl3, hcx3⟩ := hc3
       have HC3 : Hid (Crs w3 w3.heap.size (.slice a3 C.length cp3) C) := ⟨a3, cp3, rfl, hcl3, hcx3⟩
       have HB23 := hidS hb3
       have HB3 := hidS (HB2.out.trans (hb3.mono HB2.out.size))
       clear hb3 hcl3 hcx3 c0)
    | (go_at_call 22; refine (HGO.out a3 cp3 _ HC3.out).mono ?_; rintro e9 w4 ⟨gt, gs, rfl, ht4, hb4⟩; have HT4 := hidS ht4; clear ht4
       have HB34 := hidS hb4
       have HB4 := hidS (HB3.out.trans (hb4.mono HB3.out.size))
       clear hb4))
  have c0 := HSV.out w4 HB4.out
  go_upto_region 4 with (go_at_call 23; refine (HON.out _ HB4.out).mono ?_; rintro e9 w5 ⟨rfl, hb5⟩
                         have HB45 := hidS hb5
                         have HB5 := hidS (HB4.out.trans (hb5.mono HB4.out.size))
                         clear hb5 c0)
  have c0 := HSV.out w5 HB5.out
  have HM := hidS hmx
  have e01 : sh = 0 ∨ sh = 1 := by omega
  rcases e01 with rfl | rfl
  all_goals
    go_upto_region 13 with (first
      | (go_at_call 25; refine (HRF.out a cap _ ((HCW.out _ HB5.out).crs HM.out)).mono ?_; rintro e9 w6 ⟨gO, rfl, ho6, hb6⟩
         have HS1 : Hid (Slots w6 w6.heap.size (.slice (some ⟨gS, 0, none⟩) F F) (intsV L)) := (by
           have hh := own_any HO2.out (grown_below (HB23.out.trans ((HB34.out.trans ((HB45.out.trans (hb6.mono HB45.out.size)).mono HB34.out.size)).mono HB23.out.size)) none)
           exact slots_ints hh HLF.out)
         have HS2 : Hid (Slots w6 w6.heap.size (.slice (some ⟨gO, 0, none⟩) F F) (intsV L)) := slots_ints ho6 HLF.out
         have HB56 := hidS hb6
         have HB6 := hidS (HB5.out.trans (hb6.mono HB5.out.size))
         clear ho6 hb6 c0)
      | (go_at_call 24; refine (sameInts_eqI _ _ L _ (by rw [HLF.out]; exact hF) HS1.out HS2.out).mono ?_; rintro e9 w7 ⟨rfl, hb7⟩
         have HB67 := hidS hb7
         have HB7 := hidS (HB6.out.trans (hb7.mono HB6.out.size))
         clear hb7))
    have c0 := HSV.out w7 HB7.out
    go_upto_region 14 with (go_at_call 26; refine (HRG.out a cap _ ((HCW.out _ HB7.out).crs HM.out)).mono ?_; rintro e9 w8 ⟨gt8, ct8, gs8, rfl, ht8, hb8⟩
                            have HI2 := hidS ht8.rdL
                            have HB48 := hidS (HB45.out.trans ((HB56.out.trans ((HB67.out.trans (hb8.mono HB67.out.size)).mono HB56.out.size)).mono HB45.out.size))
                            have HI1 := hidS (HT4.out.rdL.up HB48.out)
                            have HB8 := hidS (HB7.out.trans (hb8.mono HB7.out.size))
                            clear ht8 hb8 c0)
    go_wp2_with (go_at_call 27; refine (sameTables_eq _ _ (tabL m T) _ (by rw [tabL_len]; exact hm9) (fun j hj => by rw [tabL_len] at hj; rw [tabL_get m T j hj, mapI_len]; exact hm9) HI1.out HI2.out).mono ?_; rintro e9 w9 ⟨rfl, hb9⟩
                 have HB9 := hidS (HB8.out.trans (hb9.mono HB8.out.size))
                 clear hb9)
    go_ret
    exact ⟨by first | rfl | simp, HB.out.trans (HB9.out.mono (by omega))⟩

theorem signShades_any (v : Value) (C : List Cr) (loops sh : Int) (w : World) (hl : C.length * 40 ≤ 140737488355328) (h : CrsW w w.heap.size v C) :
    Calls Try.prog 8 #[.agg #[v, .int .i64 loops], .int .i64 sh] w fun e w' => e = .returned (.bool true) ∧ Below w.heap.size w w' := by
  obtain ⟨a, cap, rfl⟩ := sls_crs h
  by_cases hr : oneN C loops = 0
  · obtain ⟨hm, hp, ho⟩ := oneN_zero hr
    obtain ⟨s, hs⟩ := shd_ex hm hp ho
    have hF := faces_few hm hp ho
    obtain ⟨s1, -, -, -⟩ := sizeB_iff (may_size hm)
    by_cases h01 : sh = 0 ∨ sh = 1
    · obtain ⟨n, rfl⟩ : ∃ n : Nat, sh = (n : Int) := ⟨sh.toNat, by omega⟩
      have hn : n < 2 := by omega
      have hc := cnS_le s n (facesM C).length
      exact signShades_yes a cap C loops n hn (facesM C).length (cnS s n (facesM C).length) (goT C s n C.length) (goF C s n C.length) (by omega) (shL s (facesM C).length) (by omega) (shL_len _ _) w hl h hr
        (fun a cap W hW => shades_yes _ C loops s W hm hp ho hs hW) (fun a cap W hW => goer_yes _ C loops s n W hn hm hp ho hs hW) (fun a cap W hW => goeritzOf_any a cap C loops s n W hm hp ho hs hn hW) (fun a cap W hW => shadesOf_any a cap C loops s W hm hp ho hs hW)
    · exact signShades_range a cap C loops sh (facesM C).length (shL s (facesM C).length) (by omega) (shL_len _ _) w hl h hr (fun e => h01 (Or.inl e)) (fun e => h01 (Or.inr e))
        (fun a cap W hW => shades_yes _ C loops s W hm hp ho hs hW) (fun a cap W hW => goer_range a C.length cap loops sh W (fun e => h01 (Or.inl e)) (fun e => h01 (Or.inr e))) (fun a cap W hW => shadesOf_any a cap C loops s W hm hp ho hs hW)
  · by_cases h01 : sh = 0 ∨ sh = 1
    · obtain ⟨n, rfl⟩ : ∃ n : Nat, sh = (n : Int) := ⟨sh.toNat, by omega⟩
      exact signShades_no a cap C loops (n : Int) _ _ w hl h rfl hr (fun a cap W hW => shades_no _ C loops W hr hW) (fun a cap W hW => goer_no _ C loops n W (by omega) hr hW) (Or.inr ⟨h01, rfl⟩)
    · exact signShades_no a cap C loops sh 3 _ w hl h rfl hr (fun a cap W hW => shades_no _ C loops W hr hW) (fun a cap W hW => goer_range a C.length cap loops sh W (fun e => h01 (Or.inl e)) (fun e => h01 (Or.inr e))) (Or.inl ⟨fun e => h01 (Or.inl e), fun e => h01 (Or.inr e), rfl⟩)
end Go.Proofs.Ytagaajlbkfkaiaa
