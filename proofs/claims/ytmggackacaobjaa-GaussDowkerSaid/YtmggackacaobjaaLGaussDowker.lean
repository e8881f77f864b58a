/- The law GaussDowker: its walk. -/
import Derived.Test.YtmggackacaobjaaW13
import Derived.Test.YtmggackacaobjaaLGaussTells
namespace Go.Proofs.Ytmggackacaobjaa
open Go.RowKit

/-- Both tell: it is no knot. -/
def CaseKnot (C : List Cr) (loops : Int) : Prop := (walksM C).length ≠ 1 ∨ 0 < loops
theorem dowker_9 {v : Value} {C : List Cr} {loops : Int} {w : World} (hm : mayD C loops = true) (h : Crs w w.heap.size v C) (hA : CaseKnot C loops) :
    Calls Try.prog 31 #[.agg #[v, .int .i64 loops]] w fun e w' => e = .returned (.tuple #[.slice none 0 0, .int .i64 9]) ∧ Below w.heap.size w w' := by
  refine (dowker_yes v C loops w hm h).mono fun e w' ⟨hb, hc⟩ => ?_
  rcases hc with ⟨_, rfl⟩ | ⟨wk, h1, h2, _⟩
  · exact ⟨rfl, hb⟩
  · rcases hA with h3 | h3
    · rw [h1] at h3; simp at h3
    · omega
theorem dowkerOf_9 {a : Option Addr} {cap : Nat} {C : List Cr} {loops : Int} {w : World} (hm : mayD C loops = true) (h : Crs w w.heap.size (.slice a C.length cap) C) (hA : CaseKnot C loops) :
    Calls Try.prog 32 #[.agg #[.slice a C.length cap, .int .i64 loops]] w fun e w' => e = .returned (.tuple #[.slice none 0 0, .int .i64 9]) ∧ Below w.heap.size w w' := by
  refine (dowkerOf_any a cap C loops w hm h).mono fun e w' hq => ?_
  obtain ⟨hb, hc⟩ := hq
  rcases hc with ⟨_, rfl⟩ | ⟨wk, h1, h2, _⟩
  · exact ⟨rfl, hb⟩
  · rcases hA with h3 | h3
    · rw [h1] at h3; simp at h3
    · omega
theorem dowker_5 {v : Value} {C : List Cr} {loops : Int} {w : World} {wk : List Nat} (hm : mayD C loops = true) (h : Crs w w.heap.size v C) (hA : ¬ CaseKnot C loops) (hwk : walksM C = [wk]) (hp : ¬ plane (vX (visL C wk)) C.length) :
    Calls Try.prog 31 #[.agg #[v, .int .i64 loops]] w fun e w' => e = .returned (.tuple #[.slice none 0 0, .int .i64 5]) ∧ Below w.heap.size w w' := by
  refine (dowker_yes v C loops w hm h).mono fun e w' ⟨hb, hc⟩ => ?_
  rcases hc with ⟨h1, _⟩ | ⟨wk', h1, h2, ⟨_, rfl⟩ | ⟨h3, _⟩⟩
  · exact absurd h1 hA
  · exact ⟨rfl, hb⟩
  · rw [hwk] at h1
    injection h1 with h4 _
    rw [← h4] at h3
    exact absurd h3 hp
theorem dowkerOf_5 {a : Option Addr} {cap : Nat} {C : List Cr} {loops : Int} {w : World} {wk : List Nat} (hm : mayD C loops = true) (h : Crs w w.heap.size (.slice a C.length cap) C) (hA : ¬ CaseKnot C loops) (hwk : walksM C = [wk]) (hp : ¬ plane (vX (visL C wk)) C.length) :
    Calls Try.prog 32 #[.agg #[.slice a C.length cap, .int .i64 loops]] w fun e w' => e = .returned (.tuple #[.slice none 0 0, .int .i64 5]) ∧ Below w.heap.size w w' := by
  refine (dowkerOf_any a cap C loops w hm h).mono fun e w' hq => ?_
  obtain ⟨hb, hc⟩ := hq
  rcases hc with ⟨h1, _⟩ | ⟨wk', h1, h2, ⟨_, rfl⟩ | ⟨h3, _⟩⟩
  · exact absurd h1 hA
  · exact ⟨rfl, hb⟩
  · rw [hwk] at h1
    injection h1 with h4 _
    rw [← h4] at h3
    exact absurd h3 hp
theorem dowker_0 {v : Value} {C : List Cr} {loops : Int} {w : World} {wk : List Nat} (hm : mayD C loops = true) (h : Crs w w.heap.size v C) (hA : ¬ CaseKnot C loops) (hwk : walksM C = [wk]) (hp : plane (vX (visL C wk)) C.length) :
    Calls Try.prog 31 #[.agg #[v, .int .i64 loops]] w fun e w' => ∃ r, e = .returned (.tuple #[r, .int .i64 0]) ∧ Slots w' w'.heap.size r (intsV (dowTo (vX (visL C wk)) (vO (visL C wk)) C.length C.length)) ∧ Below w.heap.size w w' := by
  refine (dowker_yes v C loops w hm h).mono fun e w' ⟨hb, hc⟩ => ?_
  rcases hc with ⟨h1, _⟩ | ⟨wk', h1, h2, ⟨h3, _⟩ | ⟨h3, r, rfl, hr⟩⟩
  · exact absurd h1 hA
  · rw [hwk] at h1
    injection h1 with h4 _
    rw [← h4] at h3
    exact absurd hp h3
  · rw [hwk] at h1
    injection h1 with h4 _
    rw [← h4] at hr
    exact ⟨r, rfl, slots_of_own hr, hb⟩
theorem dowkerOf_0 {a : Option Addr} {cap : Nat} {C : List Cr} {loops : Int} {w : World} {wk : List Nat} (hm : mayD C loops = true) (h : Crs w w.heap.size (.slice a C.length cap) C) (hA : ¬ CaseKnot C loops) (hwk : walksM C = [wk]) (hp : plane (vX (visL C wk)) C.length) :
    Calls Try.prog 32 #[.agg #[.slice a C.length cap, .int .i64 loops]] w fun e w' => ∃ r, e = .returned (.tuple #[r, .int .i64 0]) ∧ Slots w' w'.heap.size r (intsV (dowTo (vX (visL C wk)) (vO (visL C wk)) C.length C.length)) ∧ Below w.heap.size w w' := by
  refine (dowkerOf_any a cap C loops w hm h).mono fun e w' hq => ?_
  obtain ⟨hb, hc⟩ := hq
  rcases hc with ⟨h1, _⟩ | ⟨wk', h1, h2, ⟨h3, _⟩ | ⟨h3, r, rfl, hr⟩⟩
  · exact absurd h1 hA
  · rw [hwk] at h1
    injection h1 with h4 _
    rw [← h4] at h3
    exact absurd hp h3
  · rw [hwk] at h1
    injection h1 with h4 _
    rw [← h4] at hr
    obtain ⟨-, -, k1, k2⟩ := knot_visits hm hwk
    have e := ref_dow (o := vO (visL C wk)) k1 k2 hp C.length (Nat.le_refl _)
    have hs := slots_of_own hr
    rw [e] at hs
    exact ⟨r, rfl, hs, hb⟩
theorem slots_nil (w : World) (B : Nat) : Slots w B (.slice none 0 0) (intsV []) := ⟨none, 0, rfl, fun h => absurd h (by simp [intsV])⟩

set_option maxHeartbeats 8000000 in
set_option maxRecDepth 100000 in
theorem gaussDowker_any (v : Value) (C : List Cr) (loops : Int) (w : World) (hl : C.length * 40 ≤ 140737488355328) (h : CrsW w w.heap.size v C) :
    Calls Try.prog 5 #[.agg #[v, .int .i64 loops]] w fun e w' => e = .returned (.bool true) ∧ Below w.heap.size w w' := by
  have HL : Hid (C.length * 40 ≤ 140737488355328) := hl
  obtain ⟨a, cap, rfl⟩ := slice_CrsW h
  obtain ⟨w0, hw0⟩ : ∃ w0, w0 = w.alloc (.cells #[.slice a C.length cap, .int .i64 loops] 24) := ⟨_, rfl⟩
  have HW0 : Hid (w0 = w.alloc (.cells #[.slice a C.length cap, .int .i64 loops] 24)) := hw0
  have hs0 : w0.heap.size = w.heap.size + 1 := by rw [hw0]; simp
  have HB0 : Hid (Below w.heap.size w w0) := (by rw [hw0]; exact (Below.refl _ _).alloc (Nat.le_refl _) _ : Below w.heap.size w w0)
  have HT0 : Hid (w0.heap[w.heap.size]? = some (.cells #[.slice a C.length cap, .int .i64 loops] 24 (0, 0))) := (by rw [hw0]; exact alloc_at rfl : w0.heap[w.heap.size]? = some (.cells #[.slice a C.length cap, .int .i64 loops] 24 (0, 0)))
  have HD0 : Hid (CrsW w0 w0.heap.size (.slice a C.length cap) C) := h.up HB0.out
  have HDC : Hid (∀ w', Below w0.heap.size w0 w' → Crs w' w'.heap.size (.slice a C.length cap) C) := fun w' hw' => (HD0.out.up hw').crs (by have := HL.out; unfold maxLen; omega)
  have HF : Hid (∀ w', Below w0.heap.size w0 w' → w'.cell? ⟨w.heap.size, 0, none⟩ = some (.slice a C.length cap) ∧ w'.cell? ⟨w.heap.size, 1, none⟩ = some (.int .i64 loops) ∧ w.heap.size < w'.heap.size) := fun w' hw' => by
    have g0 := (hw'.block _ (by omega)).trans HT0.out
    exact ⟨block_cell g0 rfl, block_cell g0 rfl, (Array.getElem?_eq_some_iff.1 g0).1⟩
  clear hw0 h hl
  go_enter Try.func5, Try.ntmps5
  go_wp2_with (go_at_call 20; rw [← HW0.out]; refine (diagramOf_any _ C loops _ HL.out HD0.out).mono ?_; rintro e9 w1 ⟨v1, rfl, hc1, hb1⟩; refine Hid.out ?_)
  refine Lib.hid ?_
  obtain ⟨a1, c1, rfl⟩ := slice_Crs hc1
  have HB1 : Hid (Below w0.heap.size w0 w1) := hb1
  have HC1 : Hid (Crs w1 w1.heap.size (.slice a1 C.length c1) C) := hc1
  clear hb1 hc1
  cases hm : mayD C loops with
  | false =>
    go_wp2_with (go_at_call 31; refine (dowker_no _ C loops _ hm HC1.out).mono ?_; rintro e9 w2 ⟨rfl, hb2⟩; refine Hid.out ?_)
    refine Lib.hid ?_
    have HB2 : Hid (Below w0.heap.size w0 w2) := HB1.out.trans (hb2.mono HB1.out.size)
    obtain ⟨p0, p1, p2⟩ := HF.out w2 HB2.out
    clear hb2
    go_wp2_with (go_at_call 22; refine (may17_any _ C loops _ (HDC.out _ HB2.out)).mono ?_; rw [hm]; rintro e9 w5 ⟨rfl, hb5⟩; refine Hid.out ?_)
    refine Lib.hid ?_
    have HB5 : Hid (Below w0.heap.size w0 w5) := HB2.out.trans (hb5.mono HB2.out.size)
    clear hb5 p0 p1 p2
    go_wp2
    go_ret
    exact ⟨rfl, HB0.out.trans (HB5.out.mono HB0.out.size)⟩
  | true =>
    have HM : Hid (mayD C loops = true) := hm
    clear hm
    by_cases hA : CaseKnot C loops
    · go_wp2_with (go_at_call 31; refine (dowker_9 HM.out HC1.out hA).mono ?_; rintro e9 w2 ⟨rfl, hb2⟩; refine Hid.out ?_)
      refine Lib.hid ?_
      have HB2 : Hid (Below w0.heap.size w0 w2) := HB1.out.trans (hb2.mono HB1.out.size)
      obtain ⟨p0, p1, p2⟩ := HF.out w2 HB2.out
      clear hb2
      go_wp2_with (go_at_call 22; refine (may17_any _ C loops _ (HDC.out _ HB2.out)).mono ?_; rw [HM.out]; rintro e9 w5 ⟨rfl, hb5⟩; refine Hid.out ?_)
      refine Lib.hid ?_
      have HB5 : Hid (Below w0.heap.size w0 w5) := HB2.out.trans (hb5.mono HB2.out.size)
      clear hb5 p0 p1 p2
      obtain ⟨p0, p1, p2⟩ := HF.out w5 HB5.out
      go_wp2_with (go_at_call 32; refine (dowkerOf_9 HM.out (HDC.out _ HB5.out) hA).mono ?_; rintro e9 w6 ⟨rfl, hb6⟩; refine Hid.out ?_)
      refine Lib.hid ?_
      have HB6 : Hid (Below w0.heap.size w0 w6) := HB5.out.trans (hb6.mono HB5.out.size)
      clear hb6 p0 p1 p2
      go_wp2_with (go_at_call 24; refine (sameInts_eqI _ _ [] _ (by simp) (slots_nil _ _) (slots_nil _ _)).mono ?_; rintro e9 w7 ⟨rfl, hb7⟩; refine Hid.out ?_)
      refine Lib.hid ?_
      have HB7 : Hid (Below w0.heap.size w0 w7) := HB6.out.trans (hb7.mono HB6.out.size)
      clear hb7
      go_wp2
      go_ret
      exact ⟨rfl, HB0.out.trans (HB7.out.mono HB0.out.size)⟩
    · obtain ⟨wk, hwk⟩ : ∃ wk, walksM C = [wk] := by
        have h1 : (walksM C).length = 1 := by
          rcases Nat.decEq (walksM C).length 1 with h | h
          · exact absurd (Or.inl h) hA
          · exact h
        match h : walksM C, h1 with
        | [wk], _ => exact ⟨wk, rfl⟩
      by_cases hp : plane (vX (visL C wk)) C.length
      · go_wp2_with (go_at_call 31; refine (dowker_0 HM.out HC1.out hA hwk hp).mono ?_; rintro e9 w2 ⟨r, rfl, hr, hb2⟩; refine Hid.out ?_)
        refine Lib.hid ?_
        have HR2 : Hid (Slots w2 w2.heap.size r (intsV (dowTo (vX (visL C wk)) (vO (visL C wk)) C.length C.length))) := hr
        have HB2 : Hid (Below w0.heap.size w0 w2) := HB1.out.trans (hb2.mono HB1.out.size)
        obtain ⟨p0, p1, p2⟩ := HF.out w2 HB2.out
        clear hb2 hr
        go_wp2_with (go_at_call 22; refine (may17_any _ C loops _ (HDC.out _ HB2.out)).mono ?_; rw [HM.out]; rintro e9 w5 ⟨rfl, hb5⟩; refine Hid.out ?_)
        refine Lib.hid ?_
        have HR5 : Hid (Slots w5 w5.heap.size r (intsV (dowTo (vX (visL C wk)) (vO (visL C wk)) C.length C.length))) := (HR2.out.on hb5).mono hb5.size
        have HB5 : Hid (Below w0.heap.size w0 w5) := HB2.out.trans (hb5.mono HB2.out.size)
        clear hb5 p0 p1 p2
        obtain ⟨p0, p1, p2⟩ := HF.out w5 HB5.out
        go_wp2_with (go_at_call 32; refine (dowkerOf_0 HM.out (HDC.out _ HB5.out) hA hwk hp).mono ?_; rintro e9 w6 ⟨s, rfl, hs, hb6⟩; refine Hid.out ?_)
        refine Lib.hid ?_
        have HR6 : Hid (Slots w6 w6.heap.size r (intsV (dowTo (vX (visL C wk)) (vO (visL C wk)) C.length C.length))) := (HR5.out.on hb6).mono hb6.size
        have HS6 : Hid (Slots w6 w6.heap.size s (intsV (dowTo (vX (visL C wk)) (vO (visL C wk)) C.length C.length))) := hs
        have HB6 : Hid (Below w0.heap.size w0 w6) := HB5.out.trans (hb6.mono HB5.out.size)
        have HLN : Hid ((dowTo (vX (visL C wk)) (vO (visL C wk)) C.length C.length).length ≤ 1000) := (by
          rw [dow_len]
          obtain ⟨s1, -, -, -⟩ := sizeB_iff (may_size HM.out)
          omega : (dowTo (vX (visL C wk)) (vO (visL C wk)) C.length C.length).length ≤ 1000)
        clear hb6 p0 p1 p2 hs
        go_wp2_with (go_at_call 24; refine (sameInts_eqI _ _ (dowTo (vX (visL C wk)) (vO (visL C wk)) C.length C.length) _ HLN.out HR6.out HS6.out).mono ?_; rintro e9 w7 ⟨rfl, hb7⟩; refine Hid.out ?_)
        refine Lib.hid ?_
        have HB7 : Hid (Below w0.heap.size w0 w7) := HB6.out.trans (hb7.mono HB6.out.size)
        clear hb7
        go_wp2
        go_ret
        exact ⟨rfl, HB0.out.trans (HB7.out.mono HB0.out.size)⟩
      · go_wp2_with (go_at_call 31; refine (dowker_5 HM.out HC1.out hA hwk hp).mono ?_; rintro e9 w2 ⟨rfl, hb2⟩; refine Hid.out ?_)
        refine Lib.hid ?_
        have HB2 : Hid (Below w0.heap.size w0 w2) := HB1.out.trans (hb2.mono HB1.out.size)
        obtain ⟨p0, p1, p2⟩ := HF.out w2 HB2.out
        clear hb2
        go_wp2_with (go_at_call 22; refine (may17_any _ C loops _ (HDC.out _ HB2.out)).mono ?_; rw [HM.out]; rintro e9 w5 ⟨rfl, hb5⟩; refine Hid.out ?_)
        refine Lib.hid ?_
        have HB5 : Hid (Below w0.heap.size w0 w5) := HB2.out.trans (hb5.mono HB2.out.size)
        clear hb5 p0 p1 p2
        obtain ⟨p0, p1, p2⟩ := HF.out w5 HB5.out
        go_wp2_with (go_at_call 32; refine (dowkerOf_5 HM.out (HDC.out _ HB5.out) hA hwk hp).mono ?_; rintro e9 w6 ⟨rfl, hb6⟩; refine Hid.out ?_)
        refine Lib.hid ?_
        have HB6 : Hid (Below w0.heap.size w0 w6) := HB5.out.trans (hb6.mono HB5.out.size)
        clear hb6 p0 p1 p2
        go_wp2_with (go_at_call 24; refine (sameInts_eqI _ _ [] _ (by simp) (slots_nil _ _) (slots_nil _ _)).mono ?_; rintro e9 w7 ⟨rfl, hb7⟩; refine Hid.out ?_)
        refine Lib.hid ?_
        have HB7 : Hid (Below w0.heap.size w0 w7) := HB6.out.trans (hb7.mono HB6.out.size)
        clear hb7
        go_wp2
        go_ret
        exact ⟨rfl, HB0.out.trans (HB7.out.mono HB0.out.size)⟩
end Go.Proofs.Ytmggackacaobjaa
