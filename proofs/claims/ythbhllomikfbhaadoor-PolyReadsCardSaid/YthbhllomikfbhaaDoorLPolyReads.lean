/- The walk of the law knotworklaw.PolyReads itself: it answers true. -/
import Derived.Test.YthbhllomikfbhaaDoorPR4
import Derived.Test.YthbhllomikfbhaaDoorPR6
namespace Go.Proofs.YthbhllomikfbhaaDoor.Poly
open Go.RowKit

set_option maxHeartbeats 4000000 in
set_option maxRecDepth 100000 in
theorem readPoly_big (s : List UInt8) (w : World) (h : 2000 < s.length) (hl : s.length ≤ 9223372036854775807) :
    Calls Tryd.prog 13 #[.string ⟨s.toArray⟩] w fun e w' => e = .returned (.tuple #[.slice none 0 0, .int .i64 2]) ∧ Below w.heap.size w w' := by
  have hz : (⟨s.toArray⟩ : ByteArray).size = s.length := arr_size s
  have hI : (2000 : Int) < (s.length : Int) := by omega
  go_enter Tryd.func13, Tryd.ntmps13
  go_wp2
  go_ret2
  exact ⟨rfl, Below.refl _ _⟩

set_option maxHeartbeats 4000000 in
set_option maxRecDepth 100000 in
theorem polyReads_any (s : List UInt8) (w : World) (hl : s.length ≤ 9223372036854775807) (hV : RdVars w) (hT : Tab w) :
    Calls Tryd.prog 4 #[.string ⟨s.toArray⟩] w fun e w' => e = .returned (.bool true) ∧ Below w.heap.size w w' := by
  by_cases hbig : 2000 < s.length
  · have HA : Hid (∀ W, Calls Tryd.prog 12 #[.string ⟨s.toArray⟩] W fun e w' => e = .returned (.tuple #[.slice none 0 0, .int .i64 2]) ∧ Below W.heap.size W w') := fun W => read_big s W hbig hl
    have HB : Hid (∀ W, Calls Tryd.prog 13 #[.string ⟨s.toArray⟩] W fun e w' => e = .returned (.tuple #[.slice none 0 0, .int .i64 2]) ∧ Below W.heap.size W w') := fun W => readPoly_big s W hbig hl
    have HS : Hid (∀ W, Calls Tryd.prog 14 #[.slice none 0 0, .slice none 0 0] W fun e w' => e = .returned (.bool true) ∧ Below W.heap.size W w') := fun W => (same_poly (.slice none 0 0) (.slice none 0 0) [] [] W (by decide) (Or.inl ⟨rfl, rfl⟩) (Or.inl ⟨rfl, rfl⟩)).mono fun e w' h => by simpa using h
    clear hbig hl hV hT
    go_enter Tryd.func4, Tryd.ntmps4
    go_wp2_with (first
      | (go_at_call 12; refine (HA.out _).mono ?_; rintro e W1 ⟨rfl, hb1⟩)
      | (go_at_call 13; refine (HB.out _).mono ?_; rintro e W2 ⟨rfl, hb2⟩; have hb3 := hb1.trans (hb2.mono hb1.size))
      | (go_at_call 14; refine (HS.out _).mono ?_; rintro e W3 ⟨rfl, hb4⟩; have hb5 := hb3.trans (hb4.mono hb3.size)))
    go_ret
    exact ⟨rfl, hb5⟩
  · have hs : s.length ≤ 2000 := by omega
    have HR : Hid (∀ W, Calls Tryd.prog 13 #[.string ⟨s.toArray⟩] W fun e w' => RrOut s e w' ∧ Below W.heap.size W w') := fun W => readPoly_any s W hs
    by_cases hex : ∃ l, mayB l = true ∧ textL l = s
    · obtain ⟨l, hm, ht⟩ := hex
      have hm2 := ((may_iff l).1 hm).1
      have HA := hid_of (read_yes l w hm (by rw [ht]; exact hs) hV hT)
      rw [ht] at HA
      have HB : Hid (∀ W, Calls Tryd.prog 13 #[.string ⟨s.toArray⟩] W fun e w' => ∃ v, e = .returned (.tuple #[v, .int .i64 0]) ∧ Poly w' w'.heap.size v l ∧ Below W.heap.size W w') := fun W => (HR.out W).mono fun e w' h => by
        obtain ⟨v, h1, h2⟩ := h.1.1 l hm ht
        exact ⟨v, h1, h2, h.2⟩
      have HS : Hid (∀ (v1 v2 : Value) (W : World), Poly W W.heap.size v1 l → Poly W W.heap.size v2 l → Calls Tryd.prog 14 #[v1, v2] W fun e w' => e = .returned (.bool true) ∧ Below W.heap.size W w') := fun v1 v2 W h1 h2 => (same_poly v1 v2 l l W (by unfold maxLen; omega) h1 h2).mono fun e w' h => by simpa using h
      clear HR hm ht hbig hl hV hT hm2 hs
      go_enter Tryd.func4, Tryd.ntmps4
      go_wp2_with (first
        | (go_at_call 12; refine HA.out.mono ?_; rintro e W1 ⟨v1, rfl, hp1, hb1⟩; have HP1 := hid_of hp1; clear hp1)
        | (go_at_call 13; refine (HB.out _).mono ?_; rintro e W2 ⟨v2, rfl, hp2, hb2⟩; have HP2 := hid_of hp2; have HP3 := hid_of ((HP1.out.on hb2).mono hb2.size); clear hp2; have hb3 := hb1.trans (hb2.mono hb1.size))
        | (go_at_call 14; refine (HS.out _ _ _ HP3.out HP2.out).mono ?_; rintro e W3 ⟨rfl, hb4⟩; have hb5 := hb3.trans (hb4.mono hb3.size)))
      go_ret
      exact ⟨rfl, hb5⟩
    · have hno : ∀ l, mayB l = true → textL l ≠ s := fun l h1 h2 => hex ⟨l, h1, h2⟩
      have HA := hid_of (read_no s w hs hV hT hno)
      have HB : Hid (∀ W, Calls Tryd.prog 13 #[.string ⟨s.toArray⟩] W fun e w' => e = .returned (.tuple #[.slice none 0 0, .int .i64 1]) ∧ Below W.heap.size W w') := fun W => (HR.out W).mono fun e w' h => ⟨h.1.2 hno, h.2⟩
      have HS : Hid (∀ W, Calls Tryd.prog 14 #[.slice none 0 0, .slice none 0 0] W fun e w' => e = .returned (.bool true) ∧ Below W.heap.size W w') := fun W => (same_poly (.slice none 0 0) (.slice none 0 0) [] [] W (by decide) (Or.inl ⟨rfl, rfl⟩) (Or.inl ⟨rfl, rfl⟩)).mono fun e w' h => by simpa using h
      clear HR hex hno hbig hl hV hT hs
      go_enter Tryd.func4, Tryd.ntmps4
      go_wp2_with (first
        | (go_at_call 12; refine HA.out.mono ?_; rintro e W1 ⟨rfl, hb1⟩)
        | (go_at_call 13; refine (HB.out _).mono ?_; rintro e W2 ⟨rfl, hb2⟩; have hb3 := hb1.trans (hb2.mono hb1.size))
        | (go_at_call 14; refine (HS.out _).mono ?_; rintro e W3 ⟨rfl, hb4⟩; have hb5 := hb3.trans (hb4.mono hb3.size)))
      go_ret
      exact ⟨rfl, hb5⟩
end Go.Proofs.YthbhllomikfbhaaDoor.Poly
