/- The walk of poly.Read. -/
import Derived.Test.YthbhllomikfbhaaDoorPR3
import Derived.Test.YthbhllomikfbhaaDoorXT10
namespace Go.Proofs.YthbhllomikfbhaaDoor.Poly
open Go.RowKit

set_option maxHeartbeats 4000000 in
set_option maxRecDepth 100000 in
theorem read_big (s : List UInt8) (w : World) (h : 2000 < s.length) (hl : s.length ≤ 9223372036854775807) :
    Calls Tryd.prog 12 #[.string ⟨s.toArray⟩] w fun e w' => e = .returned (.tuple #[.slice none 0 0, .int .i64 2]) ∧ Below w.heap.size w w' := by
  have hz : (⟨s.toArray⟩ : ByteArray).size = s.length := arr_size s
  have hI : (2000 : Int) < (s.length : Int) := by omega
  go_enter Tryd.func12, Tryd.ntmps12
  go_wp2
  go_ret2
  exact ⟨rfl, Below.refl _ _⟩

set_option maxHeartbeats 4000000 in
set_option maxRecDepth 100000 in
theorem read_yes (l : List (Int × Int)) (w : World) (hm : mayB l = true) (hs : (textL l).length ≤ 2000) (hV : RdVars w) (hT : Tab w) :
    Calls Tryd.prog 12 #[.string ⟨(textL l).toArray⟩] w fun e w' => ∃ v, e = .returned (.tuple #[v, .int .i64 0]) ∧ Poly w' w'.heap.size v l ∧ Below w.heap.size w w' := by
  have HP := hid_of (parsed_any (textL l) w (by omega) hV)
  rw [parse_text l hm] at HP
  have HP2 : Hid (Calls Tryd.prog 27 #[.string ⟨(textL l).toArray⟩] w fun e w' => ∃ v, e = .returned (.tuple #[v, .bool true]) ∧ Poly w' w'.heap.size v l ∧ Below w.heap.size w w') := HP.out.mono fun e w' h => by
    obtain ⟨⟨v, h1, h2, -⟩, h3⟩ := h
    exact ⟨v, h1, h2, h3⟩
  have hLM : l.length ≤ maxLen := by
    have := ((may_iff l).1 hm).1
    unfold maxLen
    omega
  have HL := hid_of hLM
  clear hLM
  have HM := hid_of hm
  have HTB : Hid (∀ W, Below w.heap.size w W → Tab W) := fun W hW => hT.on hW
  have hz : (⟨(textL l).toArray⟩ : ByteArray).size = (textL l).length := arr_size _
  have HX := hid_of (told_poly (l := l))
  generalize textL l = s at HP2 hs hz HX ⊢
  have hI : ¬ (2000 : Int) < (s.length : Int) := by omega
  clear HP hm hV hT
  go_enter Tryd.func12, Tryd.ntmps12
  go_wp2_with (first
    | (go_at_call 27; refine HP2.out.mono ?_; rintro e W1 ⟨v, rfl, hp1, hb1⟩; have HP1 := hid_of hp1; clear hp1)
    | (go_at_call 23; refine (mayBe_poly v l _ HL.out HP1.out).mono ?_; rintro e W2 ⟨rfl, hb2⟩; rw [HM.out]; have HP3 := hid_of ((HP1.out.on hb2).mono hb2.size); have hb3 := hb1.trans (hb2.mono hb1.size))
    | (go_at_call 24; refine (HX.out v _ HM.out HP3.out (HTB.out _ hb3)).mono ?_; rintro e W3 ⟨rfl, hb4⟩; have HP4 := hid_of ((HP3.out.on hb4).mono hb4.size); have hb5 := hb3.trans (hb4.mono hb3.size)))
  go_ret2
  exact ⟨_, rfl, HP4.out, hb5⟩

set_option maxHeartbeats 4000000 in
set_option maxRecDepth 100000 in
theorem read_no (s : List UInt8) (w : World) (hs : s.length ≤ 2000) (hV : RdVars w) (hT : Tab w) (hno : ∀ l, mayB l = true → textL l ≠ s) :
    Calls Tryd.prog 12 #[.string ⟨s.toArray⟩] w fun e w' => e = .returned (.tuple #[.slice none 0 0, .int .i64 1]) ∧ Below w.heap.size w w' := by
  have HP := hid_of (parsed_any s w (by omega) hV)
  have hz : (⟨s.toArray⟩ : ByteArray).size = s.length := arr_size _
  have hI : ¬ (2000 : Int) < (s.length : Int) := by omega
  have HTB : Hid (∀ W, Below w.heap.size w W → Tab W) := fun W hW => hT.on hW
  cases hp : parseP s with
  | none =>
    rw [hp] at HP
    have HP2 : Hid (Calls Tryd.prog 27 #[.string ⟨s.toArray⟩] w fun e w' => e = .returned (.tuple #[.slice none 0 0, .bool false]) ∧ Below w.heap.size w w') := HP.out
    clear hp HP hno hV hT
    go_enter Tryd.func12, Tryd.ntmps12
    go_wp2_with (first
      | (go_at_call 27; refine HP2.out.mono ?_; rintro e W1 ⟨rfl, hb1⟩))
    go_ret2
    exact ⟨rfl, hb1⟩
  | some l =>
    rw [hp] at HP
    have HP2 : Hid (Calls Tryd.prog 27 #[.string ⟨s.toArray⟩] w fun e w' => ∃ v, e = .returned (.tuple #[v, .bool true]) ∧ Poly w' w'.heap.size v l ∧ l.length ≤ maxLen ∧ Below w.heap.size w w') := HP.out.mono fun e w' h => by
      obtain ⟨⟨v, h1, h2, h4⟩, h3⟩ := h
      exact ⟨v, h1, h2, by unfold maxLen; omega, h3⟩
    cases hm : mayB l with
    | false =>
      have HM := hid_of hm
      clear hp HP hno hV hT hm
      go_enter Tryd.func12, Tryd.ntmps12
      go_wp2_with (first
        | (go_at_call 27; refine HP2.out.mono ?_; rintro e W1 ⟨v, rfl, hp1, hl1, hb1⟩; have HP1 := hid_of hp1; have HL1 := hid_of hl1; clear hp1 hl1)
        | (go_at_call 23; refine (mayBe_poly v l _ HL1.out HP1.out).mono ?_; rintro e W2 ⟨rfl, hb2⟩; rw [HM.out]; have hb3 := hb1.trans (hb2.mono hb1.size)))
      go_ret2
      exact ⟨rfl, hb3⟩
    | true =>
      have hne : (textL l == s) = false := beq_eq_false_iff_ne.2 (hno l hm)
      have HM := hid_of hm
      have HX := hid_of (told_poly (l := l))
      generalize textL l = x at hne HX
      clear hp HP hno hV hT hm
      go_enter Tryd.func12, Tryd.ntmps12
      go_wp2_with (first
        | (go_at_call 27; refine HP2.out.mono ?_; rintro e W1 ⟨v, rfl, hp1, hl1, hb1⟩; have HP1 := hid_of hp1; have HL1 := hid_of hl1; clear hp1 hl1)
        | (go_at_call 23; refine (mayBe_poly v l _ HL1.out HP1.out).mono ?_; rintro e W2 ⟨rfl, hb2⟩; rw [HM.out]; have HP3 := hid_of ((HP1.out.on hb2).mono hb2.size); have hb3 := hb1.trans (hb2.mono hb1.size))
        | (go_at_call 24; refine (HX.out v _ HM.out HP3.out (HTB.out _ hb3)).mono ?_; rintro e W3 ⟨rfl, hb4⟩; have hb5 := hb3.trans (hb4.mono hb3.size)))
      go_ret2
      exact ⟨rfl, hb5⟩
end Go.Proofs.YthbhllomikfbhaaDoor.Poly
