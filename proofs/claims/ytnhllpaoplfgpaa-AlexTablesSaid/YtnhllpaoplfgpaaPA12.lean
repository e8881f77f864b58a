/- The walk of the law knotworklaw.PolyTurns itself: it answers true. -/
import Derived.Test.YtnhllpaoplfgpaaPA11
namespace Go.Proofs.Ytnhllpaoplfgpaa.Poly
open Go.RowKit Go.Maps

/-- sameTerms of two values that hold one list. -/
theorem same_one (v1 v2 : Value) (l : List (Int × Int)) (w : World) (hl : l.length ≤ 64) (h1 : Poly w w.heap.size v1 l) (h2 : Poly w w.heap.size v2 l) :
    Calls Try.prog 23 #[v1, v2] w fun e w' => e = .returned (.bool true) ∧ Below w.heap.size w w' := by
  refine (same_poly v1 v2 l l w (by unfold maxLen; omega) h1 h2).mono ?_
  rintro e w' ⟨rfl, hb⟩
  exact ⟨ret_bool (by simp), hb⟩

theorem below_up {B : Nat} {w w1 w2 : World} (h1 : Below B w w1) (h2 : Below w1.heap.size w1 w2) (hB : B ≤ w1.heap.size) : Below B w w2 := h1.trans (h2.mono hB)

theorem terms_poly (v : Value) (l : List (Int × Int)) (w : World) (hl : l.length * 16 ≤ 140737488355328) (hP : Poly w w.heap.size v l) :
    Calls Try.prog 20 #[v] w fun e w' => ∃ v', e = .returned v' ∧ Poly w' w'.heap.size v' l ∧ Below w.heap.size w w' :=
  (terms_any v l w hl hP).mono fun _ _ ⟨v', h1, h2, h3⟩ => ⟨v', h1, Poly.ofRow h2, h3⟩

set_option maxHeartbeats 2000000 in
set_option maxRecDepth 100000 in
theorem turns_no (v : Value) (l : List (Int × Int)) (t : Int) (w : World) (hl : l.length * 16 ≤ 140737488355328) (hm : mayB l = false) (hP : Poly w w.heap.size v l) :
    Calls Try.prog 4 #[v, .int .i64 t] w fun e w' => e = .returned (.bool true) ∧ Below w.heap.size w w' := by
  have HP : Hid (Poly w w.heap.size v l) := hP
  have HL : Hid (l.length * 16 ≤ 140737488355328) := hl
  have HL2 : Hid (l.length ≤ maxLen) := by show _ ≤ _; unfold maxLen; omega
  have HM : Hid (mayB l = false) := hm
  clear hP hl hm
  go_enter Try.func4, Try.ntmps4
  go_wp2_with (go_at_call 20; refine (terms_poly _ l _ HL.out HP.out).mono ?_; rintro r w1 ⟨v1, rfl, hP1, hb1⟩; refine Hid.out ?_)
  refine Lib.hid ?_
  go_wp2_with (go_at_call 26; refine (unit_no _ l _ HL2.out HM.out hP1).mono ?_; rintro r w2 ⟨rfl, hb2⟩; refine Hid.out ?_)
  refine Lib.hid ?_
  have hB2 := hb1.trans (hb2.mono hb1.size)
  have hP2 : Hid _ := HP.out.up hB2
  go_wp2_with (go_at_call 20; refine (terms_poly _ l _ HL.out hP2.out).mono ?_; rintro r w3 ⟨v3, rfl, hP3, hb3⟩; refine Hid.out ?_)
  refine Lib.hid ?_
  go_wp2_with (go_at_call 27; refine (flip_no _ l _ HL2.out HM.out hP3).mono ?_; rintro r w4 ⟨rfl, hb4⟩; refine Hid.out ?_)
  refine Lib.hid ?_
  have hB4 := hB2.trans ((hb3.trans (hb4.mono hb3.size)).mono hB2.size)
  have hP4 : Hid _ := HP.out.up hB4
  go_wp2_with (go_at_call 20; refine (terms_poly _ l _ HL.out hP4.out).mono ?_; rintro r w5 ⟨v5, rfl, hP5, hb5⟩; refine Hid.out ?_)
  refine Lib.hid ?_
  go_wp2_with (go_at_call 28; refine (at_no _ l t _ HL2.out HM.out hP5).mono ?_; rintro r w6 ⟨rfl, hb6⟩; refine Hid.out ?_)
  refine Lib.hid ?_
  have hB6 := hB4.trans ((hb5.trans (hb6.mono hb5.size)).mono hB4.size)
  have hP6 : Hid _ := HP.out.up hB6
  go_wp2_with (go_at_call 22; refine (polyMay_poly _ l _ HL2.out hP6.out).mono ?_; rw [HM.out]; rintro r w7 ⟨rfl, hb7⟩)
  go_ret
  exact ⟨rfl, hB6.trans (hb7.mono hB6.size)⟩

set_option maxHeartbeats 4000000 in
set_option maxRecDepth 100000 in
theorem turns_yes (v : Value) (l : List (Int × Int)) (t : Int) (w : World) (hl : l.length * 16 ≤ 140737488355328) (hm : mayB l = true) (hP : Poly w w.heap.size v l) (n h : Int)
    (hat : ∀ w v, Poly w w.heap.size v l → Calls Try.prog 28 #[v, .int .i64 t] w fun e w' => e = .returned (.tuple #[.int .i64 n, .int .i64 h]) ∧ Below w.heap.size w w')
    (hcase : ((t = 1 ∨ t = -1) ∧ n = atTo l t l.length ∧ h = 0) ∨ (¬ (t = 1 ∨ t = -1) ∧ n = 0 ∧ h = 3)) :
    Calls Try.prog 4 #[v, .int .i64 t] w fun e w' => e = .returned (.bool true) ∧ Below w.heap.size w w' := by
  have HP : Hid (Poly w w.heap.size v l) := hP
  have HL : Hid (l.length * 16 ≤ 140737488355328) := hl
  have HL2 : Hid (l.length ≤ maxLen) := by show _ ≤ _; unfold maxLen; omega
  have hl64 := ((may_iff l).1 hm).1
  have HU : Hid ((unitL l).length ≤ 64) := by show _ ≤ _; simp [unitL]; exact hl64
  have HF : Hid ((flipL l).length ≤ 64) := by show _ ≤ _; simp [flipL]; exact hl64
  have HM : Hid (mayB l = true) := hm
  have HAT : Hid _ := hat
  have HC : Hid _ := hcase
  clear hP hl hm hat hl64 hcase
  go_enter Try.func4, Try.ntmps4
  go_wp2_with (go_at_call 20; refine (terms_poly _ l _ HL.out HP.out).mono ?_; rintro r w1 ⟨v1, rfl, hP1, hb1⟩; refine Hid.out ?_)
  refine Lib.hid ?_
  go_wp2_with (go_at_call 26; refine (unit_yes _ l _ HM.out hP1).mono ?_; rintro r w2 ⟨u, rfl, hPu, hb2⟩; refine Hid.out ?_)
  refine Lib.hid ?_
  have hB2 := hb1.trans (hb2.mono hb1.size)
  have hP2 : Hid _ := HP.out.up hB2
  go_wp2_with (go_at_call 20; refine (terms_poly _ l _ HL.out hP2.out).mono ?_; rintro r w3 ⟨v3, rfl, hP3, hb3⟩; refine Hid.out ?_)
  refine Lib.hid ?_
  go_wp2_with (go_at_call 27; refine (flip_yes _ l _ HL2.out HM.out hP3).mono ?_; rintro r w4 ⟨f, rfl, hPf, hb4⟩; refine Hid.out ?_)
  refine Lib.hid ?_
  have hB24 := hb3.trans (hb4.mono hb3.size)
  have hB4 := hB2.trans (hB24.mono hB2.size)
  have hP4 : Hid _ := HP.out.up hB4
  have hPu4 : Hid (Poly w4 w4.heap.size u (unitL l)) := hPu.up hB24
  go_wp2_with (go_at_call 20; refine (terms_poly _ l _ HL.out hP4.out).mono ?_; rintro r w5 ⟨v5, rfl, hP5, hb5⟩; refine Hid.out ?_)
  refine Lib.hid ?_
  go_wp2_with (go_at_call 28; refine (HAT.out _ _ hP5).mono ?_; rintro r w6 ⟨rfl, hb6⟩; refine Hid.out ?_)
  refine Lib.hid ?_
  have hB46 := hb5.trans (hb6.mono hb5.size)
  have hB6 := hB4.trans (hB46.mono hB4.size)
  have hP6 : Hid _ := HP.out.up hB6
  have hPu6 : Hid (Poly w6 w6.heap.size u (unitL l)) := Poly.up hPu4.out hB46
  have hPf6 : Hid (Poly w6 w6.heap.size f (flipL l)) := hPf.up hB46
  go_wp2_with (go_at_call 22; refine (polyMay_poly _ l _ HL2.out hP6.out).mono ?_; rw [HM.out]; rintro r w7 ⟨rfl, hb7⟩; refine Hid.out ?_)
  refine Lib.hid ?_
  have hB7 := hB6.trans (hb7.mono hB6.size)
  have hP7 : Hid _ := HP.out.up hB7
  go_wp2_with (go_at_call 29; refine (unitOf_poly _ l _ HM.out hP7.out).mono ?_; rintro r w8 ⟨u8, rfl, hPu8, hb8⟩; refine Hid.out ?_)
  refine Lib.hid ?_
  have hPu7 : Hid (Poly w8 w8.heap.size u (unitL l)) := Poly.up (Poly.up hPu6.out hb7) hb8
  go_wp2_with (go_at_call 23; refine (same_one _ _ (unitL l) _ HU.out hPu7.out hPu8).mono ?_; rintro r w9 ⟨rfl, hb9⟩; refine Hid.out ?_)
  refine Lib.hid ?_
  have hB79 := hb8.trans (hb9.mono hb8.size)
  have hB9 := hB7.trans (hB79.mono hB7.size)
  have hP9 : Hid _ := HP.out.up hB9
  have hPf9 : Hid (Poly w9 w9.heap.size f (flipL l)) := Poly.up (Poly.up hPf6.out hb7) hB79
  go_wp2_with (go_at_call 30; refine (flipOf_poly _ l _ HM.out hP9.out).mono ?_; rintro r w10 ⟨f10, rfl, hPf10, hb10⟩; refine Hid.out ?_)
  refine Lib.hid ?_
  have hPf11 : Hid (Poly w10 w10.heap.size f (flipL l)) := Poly.up hPf9.out hb10
  go_wp2_with (go_at_call 23; refine (same_one _ _ (flipL l) _ HF.out hPf11.out hPf10).mono ?_; rintro r w11 ⟨rfl, hb11⟩; refine Hid.out ?_)
  refine Lib.hid ?_
  have hB911 := hb10.trans (hb11.mono hb10.size)
  have hB11 := hB9.trans (hB911.mono hB9.size)
  have hP11 : Hid _ := HP.out.up hB11
  rcases HC.out with ⟨ht, hn, hh⟩ | ⟨ht, hn, hh⟩
  · rcases at_tt ht with ⟨te, t1, t2⟩ | ⟨te, t1, t2⟩
    all_goals
      have Ht : Hid _ := ht
      have HN : Hid (n = atTo l t l.length) := hn
      subst hh
      clear ht te hn
      go_wp2_with (go_at_call 31; refine (atOf_poly _ l t _ Ht.out HM.out hP11.out).mono ?_; rw [← HN.out]; rintro r w12 ⟨rfl, hb12⟩)
      go_ret
      exact ⟨ret_bool (by simp), hB11.trans (hb12.mono hB11.size)⟩
  · subst hn hh
    have t1 : (t != 1) = true := by rw [bne_iff_ne]; omega
    have t2 : (t != -1) = true := by rw [bne_iff_ne]; omega
    clear ht
    go_wp2
    go_ret
    exact ⟨rfl, hB11⟩

theorem turns_any (v : Value) (l : List (Int × Int)) (t : Int) (w : World) (hl : l.length * 16 ≤ 140737488355328) (hP : Poly w w.heap.size v l) :
    Calls Try.prog 4 #[v, .int .i64 t] w fun e w' => e = .returned (.bool true) ∧ Below w.heap.size w w' := by
  cases hm : mayB l
  · exact turns_no v l t w hl hm hP
  · by_cases ht : t = 1 ∨ t = -1
    · exact turns_yes v l t w hl hm hP _ _ (fun w v h => at_yes v l t w ht hm h) (Or.inl ⟨ht, rfl, rfl⟩)
    · exact turns_yes v l t w hl hm hP _ _ (fun w v h => at_range v l t w (by unfold maxLen; omega) ht hm h) (Or.inr ⟨ht, rfl, rfl⟩)
end Go.Proofs.Ytnhllpaoplfgpaa.Poly
