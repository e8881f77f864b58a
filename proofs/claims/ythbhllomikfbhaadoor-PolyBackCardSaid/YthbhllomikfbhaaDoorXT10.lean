/- poly.Text at every list, and the walk of the law knotworklaw.PolyTexts itself: it answers true. -/
import Derived.Test.YthbhllomikfbhaaDoorXT8
import Derived.Test.YthbhllomikfbhaaDoorXT9
import Derived.Test.YthbhllomikfbhaaDoorPA6
namespace Go.Proofs.YthbhllomikfbhaaDoor.Poly
open Go.RowKit

set_option maxHeartbeats 400000 in
set_option maxHeartbeats 400000 in
set_option maxHeartbeats 400000 in
theorem told_nil (a : Option Addr) (cap : Nat) (w : World) : Calls Tryd.prog 24 #[.slice a 0 cap] w fun e w' => e = .returned (.string ⟨#[48]⟩) ∧ Below w.heap.size w w' := by
  go_enter Tryd.func24, Tryd.ntmps24
  go_wp2
  go_ret
  exact ⟨rfl, Below.refl _ _⟩

set_option maxHeartbeats 400000 in
theorem polyText_nil (a : Option Addr) (cap : Nat) (w : World) : Calls Tryd.prog 11 #[.slice a 0 cap] w fun e w' => e = .returned (.string ⟨#[48]⟩) ∧ Below w.heap.size w w' := by
  go_enter Tryd.func11, Tryd.ntmps11
  go_wp2
  go_ret
  exact ⟨rfl, Below.refl _ _⟩

theorem told_poly (v : Value) (l : List (Int × Int)) (w : World) (hm : mayB l = true) (hP : Poly w w.heap.size v l) (hTab : Tab w) :
    Calls Tryd.prog 24 #[v] w fun e w' => e = .returned (.string ⟨(textL l).toArray⟩) ∧ Below w.heap.size w w' := by
  rcases hP with ⟨rfl, rfl⟩ | ⟨a, cap, rfl, rfl⟩ | ⟨b, off, cap, rfl, hlt, hT⟩
  · exact told_nil none 0 w
  · exact told_nil (some a) cap w
  · exact told_any b off cap l w hm hlt hT hTab
theorem polyText_poly (v : Value) (l : List (Int × Int)) (w : World) (hm : mayB l = true) (hP : Poly w w.heap.size v l) :
    Calls Tryd.prog 11 #[v] w fun e w' => e = .returned (.string ⟨(textL l).toArray⟩) ∧ Below w.heap.size w w' := by
  rcases hP with ⟨rfl, rfl⟩ | ⟨a, cap, rfl, rfl⟩ | ⟨b, off, cap, rfl, hlt, hT⟩
  · exact polyText_nil none 0 w
  · exact polyText_nil (some a) cap w
  · exact polyText_any b off cap l w hm hlt hT

set_option maxHeartbeats 400000 in
theorem text_yes (v : Value) (l : List (Int × Int)) (w : World) (hl : l.length ≤ maxLen) (hm : mayB l = true) (hP : Poly w w.heap.size v l) (hTab : Tab w) :
    Calls Tryd.prog 8 #[v] w fun e w' => e = .returned (.tuple #[.string ⟨(textL l).toArray⟩, .int .i64 0]) ∧ Below w.heap.size w w' := by
  have HP : Hid (Poly w w.heap.size v l) := hP
  have HT : Hid (Tab w) := hTab
  have HL : Hid (l.length ≤ maxLen) := hl
  have HM : Hid (mayB l = true) := hm
  clear hP hTab hl hm
  go_enter Tryd.func8, Tryd.ntmps8
  go_wp2_with (first | (go_at_call 23; refine (mayBe_poly _ l _ HL.out HP.out).mono ?_; rw [HM.out]; rintro r w1 ⟨rfl, hb1⟩) | (go_at_call 24; refine (told_poly _ l _ HM.out (HP.out.up hb1) (HT.out.on hb1)).mono ?_; rintro r w2 ⟨rfl, hb2⟩))
  go_ret2
  exact ⟨rfl, hb1.trans (hb2.mono hb1.size)⟩

set_option maxHeartbeats 400000 in
theorem text_no (v : Value) (l : List (Int × Int)) (w : World) (hl : l.length ≤ maxLen) (hm : mayB l = false) (hP : Poly w w.heap.size v l) :
    Calls Tryd.prog 8 #[v] w fun e w' => e = .returned (.tuple #[.string ⟨#[]⟩, .int .i64 1]) ∧ Below w.heap.size w w' := by
  have HP : Hid (Poly w w.heap.size v l) := hP
  have HL : Hid (l.length ≤ maxLen) := hl
  have HM : Hid (mayB l = false) := hm
  clear hP hl hm
  go_enter Tryd.func8, Tryd.ntmps8
  go_wp2_with (go_at_call 23; refine (mayBe_poly _ l _ HL.out HP.out).mono ?_; rw [HM.out]; rintro r w1 ⟨rfl, hb1⟩)
  go_ret2
  exact ⟨rfl, hb1⟩

set_option maxHeartbeats 400000 in
/-- THE LAW. -/
theorem law_any (v : Value) (l : List (Int × Int)) (w : World) (hl : l.length * 16 ≤ 140737488355328) (hP : Poly w w.heap.size v l) (hTab : Tab w) :
    Calls Tryd.prog 3 #[v] w fun e w' => e = .returned (.bool true) ∧ Below w.heap.size w w' := by
  have HP : Hid (Poly w w.heap.size v l) := hP
  have HT : Hid (Tab w) := hTab
  have HL : Hid (l.length * 16 ≤ 140737488355328) := hl
  have HL2 : Hid (l.length ≤ maxLen) := by show _ ≤ _; unfold maxLen; omega
  clear hP hTab hl
  cases hm : mayB l
  · have HM : Hid (mayB l = false) := hm
    clear hm
    go_enter Tryd.func3, Tryd.ntmps3
    go_wp2_with (first | (go_at_call 9; refine (terms_any _ l _ HL.out HP.out).mono ?_; rintro r w1 ⟨v1, rfl, hr1, hb1⟩) | (go_at_call 8; refine (text_no _ l _ HL2.out HM.out (Poly.ofRow hr1)).mono ?_; rintro r w2 ⟨rfl, hb2⟩) | (go_at_call 10; refine (polyMay_poly _ l _ HL2.out ((HP.out.up hb1).up hb2)).mono ?_; rw [HM.out]; rintro r w3 ⟨rfl, hb3⟩))
    go_ret
    exact ⟨rfl, (hb1.trans (hb2.mono hb1.size)).trans (hb3.mono (Nat.le_trans hb1.size hb2.size))⟩
  · have HM : Hid (mayB l = true) := hm
    clear hm
    go_enter Tryd.func3, Tryd.ntmps3
    go_wp2_with (first | (go_at_call 9; refine (terms_any _ l _ HL.out HP.out).mono ?_; rintro r w1 ⟨v1, rfl, hr1, hb1⟩) | (go_at_call 8; refine (text_yes _ l _ HL2.out HM.out (Poly.ofRow hr1) (HT.out.on hb1)).mono ?_; rintro r w2 ⟨rfl, hb2⟩) | (go_at_call 10; refine (polyMay_poly _ l _ HL2.out ((HP.out.up hb1).up hb2)).mono ?_; rw [HM.out]; rintro r w3 ⟨rfl, hb3⟩) | (go_at_call 11; refine (polyText_poly _ l _ HM.out (((HP.out.up hb1).up hb2).up hb3)).mono ?_; rintro r w4 ⟨rfl, hb4⟩))
    go_ret
    exact ⟨rfl, ((hb1.trans (hb2.mono hb1.size)).trans (hb3.mono (Nat.le_trans hb1.size hb2.size))).trans (hb4.mono (Nat.le_trans (Nat.le_trans hb1.size hb2.size) hb3.size))⟩
end Go.Proofs.YthbhllomikfbhaaDoor.Poly
