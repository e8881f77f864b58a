/- The walk of the law knotworklaw.PolySums itself: it answers true. -/
import Derived.Test.YtnhllpaoplfgpaaPB6
import Derived.Test.YtnhllpaoplfgpaaPA12
namespace Go.Proofs.Ytnhllpaoplfgpaa.Poly
open Go.RowKit Go.Maps

set_option maxHeartbeats 400000 in
theorem prod_none1 (a : Option Addr) (cap : Nat) (v2 : Value) (w : World) :
    Calls Try.prog 25 #[.slice a 0 cap, v2] w fun e w' => e = .returned (.slice none 0 0) ∧ Below w.heap.size w w' := by
  go_enter Try.func25, Try.ntmps25
  go_wp2
  go_loopw [5, 6, 7] (fun v i _ wr => v = .slice none 0 0 ∧ i = .int .i64 0 ∧ Below w.heap.size w wr) (fun _ _ _ _ => 0)
  case atStart => exact ⟨rfl, rfl, Below.refl _ _⟩
  case round =>
    obtain ⟨rfl, rfl, hb⟩ := hrel
    go_wp2
    go_ret
    exact ⟨rfl, hb⟩

set_option maxHeartbeats 400000 in
theorem prod_none2 (a1 a2 : Option Addr) (n cap1 cap2 : Nat) (w : World) (hn : n ≤ 64) :
    Calls Try.prog 25 #[.slice a1 n cap1, .slice a2 0 cap2] w fun e w' => e = .returned (.slice none 0 0) ∧ Below w.heap.size w w' := by
  go_enter Try.func25, Try.ntmps25
  go_wp2
  go_loopw [5, 6, 7] (fun v i _ wr => ∃ k : Nat, k ≤ n ∧ v = .slice none 0 0 ∧ i = .int .i64 k ∧ Below w.heap.size w wr) (fun _ i _ _ => n - (intOf i).toNat)
  case atStart => exact ⟨0, Nat.zero_le _, rfl, rfl, Below.refl _ _⟩
  case round =>
    obtain ⟨k, hk, rfl, rfl, hb⟩ := hrel
    by_cases hlt : k < n
    · go_wp2
      go_loopw [5, 7] (fun v j ws => v = .slice none 0 0 ∧ j = .int .i64 0 ∧ Below w.heap.size w ws) (fun _ _ _ => 0)
      case atStart => exact ⟨rfl, rfl, hb⟩
      case round =>
        clear hb
        obtain ⟨rfl, rfl, hb⟩ := hrel
        go_wp2
        go_roundw
        case rel => exact ⟨k + 1, by omega, rfl, by go_num, hb⟩
        case measure => simp [intOf]; omega
    · go_wp2
      go_ret
      exact ⟨rfl, hb⟩

theorem prodTo_nil (a : List (Int × Int)) : ∀ i, prodTo a [] i = []
  | 0 => rfl
  | i + 1 => by simp only [prodTo, rowTo, List.length_nil]; exact prodTo_nil a i

theorem prod_poly (v1 v2 : Value) (l1 l2 : List (Int × Int)) (w : World) (hm1 : mayB l1 = true) (hm2 : mayB l2 = true) (hP1 : Poly w w.heap.size v1 l1) (hP2 : Poly w w.heap.size v2 l2) :
    Calls Try.prog 25 #[v1, v2] w fun e w' => ∃ v, e = .returned v ∧ Poly w' w'.heap.size v (prodTo l1 l2 l1.length) ∧ Below w.heap.size w w' := by
  obtain ⟨a1, cap1, rfl, hp1⟩ := hP1.slice
  obtain ⟨a2, cap2, rfl, hp2⟩ := hP2.slice
  rcases Nat.eq_zero_or_pos l1.length with h1 | h1
  · have e0 : l1 = [] := List.length_eq_zero_iff.1 h1
    subst e0
    exact (prod_none1 a1 cap1 _ w).mono fun e w' ⟨h1, h2⟩ => ⟨_, h1, Or.inl ⟨rfl, rfl⟩, h2⟩
  · rcases Nat.eq_zero_or_pos l2.length with h2 | h2
    · have e0 : l2 = [] := List.length_eq_zero_iff.1 h2
      subst e0
      exact (prod_none2 a1 a2 l1.length cap1 cap2 w ((may_iff l1).1 hm1).1).mono fun e w' ⟨h1, h2⟩ => ⟨_, h1, Or.inl ⟨rfl, prodTo_nil l1 _⟩, h2⟩
    · obtain ⟨b1, off1, rfl, hlt1, hT1⟩ := hp1 h1
      obtain ⟨b2, off2, rfl, hlt2, hT2⟩ := hp2 h2
      exact (prod_some b1 off1 cap1 b2 off2 cap2 l1 l2 w hm1 hm2 hlt1 hT1 hlt2 hT2).mono fun e w' ⟨v, h1, h2, h3⟩ => ⟨v, h1, h2.1, h3⟩

/-- Any two lists in form for one function: sameTerms says yes. -/
theorem same_canon (v1 v2 : Value) (l1 l2 : List (Int × Int)) (f : Int → Int) (w : World) (hl : l1.length ≤ maxLen) (h1 : Poly w w.heap.size v1 l1) (h2 : Poly w w.heap.size v2 l2) (c1 : Canon l1 f) (c2 : Canon l2 f) :
    Calls Try.prog 23 #[v1, v2] w fun e w' => e = .returned (.bool true) ∧ Below w.heap.size w w' := by
  obtain rfl := canon_unique c1 c2
  refine (same_poly v1 v2 l1 l1 w hl h1 h2).mono ?_
  rintro e w' ⟨rfl, hb⟩
  exact ⟨ret_bool (by simp), hb⟩

set_option maxHeartbeats 2000000 in
set_option maxRecDepth 100000 in
theorem sums_no (v1 v2 : Value) (l1 l2 : List (Int × Int)) (w : World) (hl1 : l1.length * 16 ≤ 140737488355328) (hl2 : l2.length * 16 ≤ 140737488355328) (hm : mayB l1 = false ∨ mayB l2 = false) (hP1 : Poly w w.heap.size v1 l1) (hP2 : Poly w w.heap.size v2 l2) :
    Calls Try.prog 3 #[v1, v2] w fun e w' => e = .returned (.bool true) ∧ Below w.heap.size w w' := by
  have HP1 : Hid (Poly w w.heap.size v1 l1) := hP1
  have HP2 : Hid (Poly w w.heap.size v2 l2) := hP2
  have HL1 : Hid (l1.length * 16 ≤ 140737488355328) := hl1
  have HL2 : Hid (l2.length * 16 ≤ 140737488355328) := hl2
  have HM1 : Hid (l1.length ≤ maxLen) := by show _ ≤ _; unfold maxLen; omega
  have HM2 : Hid (l2.length ≤ maxLen) := by show _ ≤ _; unfold maxLen; omega
  have HM : Hid (mayB l1 = false ∨ mayB l2 = false) := hm
  clear hP1 hP2 hl1 hl2 hm
  go_enter Try.func3, Try.ntmps3
  go_wp2_with (go_at_call 20; refine (terms_poly _ l1 _ HL1.out HP1.out).mono ?_; rintro r w1 ⟨u1, rfl, hQ1, hb1⟩; refine Hid.out ?_)
  refine Lib.hid ?_
  have hR2 : Hid (Poly w1 w1.heap.size v2 l2) := HP2.out.up hb1
  go_wp2_with (go_at_call 20; refine (terms_poly _ l2 _ HL2.out hR2.out).mono ?_; rintro r w2 ⟨u2, rfl, hQ2, hb2⟩; refine Hid.out ?_)
  refine Lib.hid ?_
  have hQ1' : Hid (Poly w2 w2.heap.size u1 l1) := hQ1.up hb2
  go_wp2_with (go_at_call 19; refine (add_no _ _ l1 l2 _ HM1.out HM2.out HM.out hQ1'.out hQ2).mono ?_; rintro r w3 ⟨rfl, hb3⟩; refine Hid.out ?_)
  refine Lib.hid ?_
  have hB2 := hb1.trans (hb2.mono hb1.size)
  have hB3 := hB2.trans (hb3.mono hB2.size)
  have hR1 : Hid (Poly w3 w3.heap.size v1 l1) := HP1.out.up hB3
  go_wp2_with (go_at_call 20; refine (terms_poly _ l1 _ HL1.out hR1.out).mono ?_; rintro r w4 ⟨u4, rfl, hQ4, hb4⟩; refine Hid.out ?_)
  refine Lib.hid ?_
  have hB4 := hB3.trans (hb4.mono hB3.size)
  have hR4 : Hid (Poly w4 w4.heap.size v2 l2) := HP2.out.up hB4
  go_wp2_with (go_at_call 20; refine (terms_poly _ l2 _ HL2.out hR4.out).mono ?_; rintro r w5 ⟨u5, rfl, hQ5, hb5⟩; refine Hid.out ?_)
  refine Lib.hid ?_
  have hQ4' : Hid (Poly w5 w5.heap.size u4 l1) := hQ4.up hb5
  go_wp2_with (go_at_call 21; refine (mul_no _ _ l1 l2 _ HM1.out HM2.out HM.out hQ4'.out hQ5).mono ?_; rintro r w6 ⟨rfl, hb6⟩; refine Hid.out ?_)
  refine Lib.hid ?_
  have hB5 := hB4.trans (hb5.mono hB4.size)
  have hB6 := hB5.trans (hb6.mono hB5.size)
  have hR6 : Hid (Poly w6 w6.heap.size v1 l1) := HP1.out.up hB6
  cases hm1 : mayB l1
  · have HN : Hid (mayB l1 = false) := hm1
    clear hm1
    go_wp2_with (go_at_call 22; refine (polyMay_poly _ l1 _ HM1.out hR6.out).mono ?_; rw [HN.out]; rintro r w7 ⟨rfl, hb7⟩)
    go_ret
    exact ⟨rfl, hB6.trans (hb7.mono hB6.size)⟩
  · have HN : Hid (mayB l1 = true) := hm1
    have HN2 : Hid (mayB l2 = false) := by
      rcases HM.out with h | h
      · rw [hm1] at h; cases h
      · exact h
    clear hm1
    go_wp2_with (go_at_call 22; refine (polyMay_poly _ l1 _ HM1.out hR6.out).mono ?_; rw [HN.out]; rintro r w7 ⟨rfl, hb7⟩; refine Hid.out ?_)
    refine Lib.hid ?_
    have hB7 := hB6.trans (hb7.mono hB6.size)
    have hR7 : Hid (Poly w7 w7.heap.size v2 l2) := HP2.out.up hB7
    go_wp2_with (go_at_call 22; refine (polyMay_poly _ l2 _ HM2.out hR7.out).mono ?_; rw [HN2.out]; rintro r w8 ⟨rfl, hb8⟩)
    go_ret
    exact ⟨rfl, hB7.trans (hb8.mono hB7.size)⟩

set_option maxHeartbeats 2000000 in
set_option maxRecDepth 100000 in
theorem sums_yes (v1 v2 : Value) (l1 l2 : List (Int × Int)) (w : World) (hm1 : mayB l1 = true) (hm2 : mayB l2 = true) (hP1 : PolyC w w.heap.size v1 l1) (hP2 : PolyC w w.heap.size v2 l2) :
    Calls Try.prog 3 #[v1, v2] w fun e w' => e = .returned (.bool true) ∧ Below w.heap.size w w' := by
  have h164 := ((may_iff l1).1 hm1).1
  have h264 := ((may_iff l2).1 hm2).1
  have HC1 : Hid (PolyC w w.heap.size v1 l1) := hP1
  have HC2 : Hid (PolyC w w.heap.size v2 l2) := hP2
  have HP1 : Hid (Poly w w.heap.size v1 l1) := hP1.1
  have HP2 : Hid (Poly w w.heap.size v2 l2) := hP2.1
  have HL1 : Hid (l1.length * 16 ≤ 140737488355328) := by show _ ≤ _; omega
  have HL2 : Hid (l2.length * 16 ≤ 140737488355328) := by show _ ≤ _; omega
  have HK1 : Hid (l1.length ≤ maxLen) := by show _ ≤ _; unfold maxLen; omega
  have HK2 : Hid (l2.length ≤ maxLen) := by show _ ≤ _; unfold maxLen; omega
  have HM1 : Hid (mayB l1 = true) := hm1
  have HM2 : Hid (mayB l2 = true) := hm2
  have HS : Hid (Canon (sumTo l1 l2 1 l2.length) (fun x => coefL l1 x + coefL l2 x)) :=
    canon_congr (sumTo_canon (canon_self (may_rising hm1) (may_nonzero hm1)) 1 l2.length (Nat.le_refl _)) fun x => by rw [List.take_of_length_le (Nat.le_refl _), Int.one_mul]
  have HR : Hid (Canon (prodTo l1 l2 l1.length) (fun y => prodL l1 (coefL l2) y)) :=
    canon_congr (prodTo_canon l1 l2 l1.length (Nat.le_refl _)) fun x => by rw [List.take_of_length_le (Nat.le_refl _)]
  clear hP1 hP2 hm1 hm2
  go_enter Try.func3, Try.ntmps3
  go_wp2_with (go_at_call 20; refine (terms_poly _ l1 _ HL1.out HP1.out).mono ?_; rintro r w1 ⟨u1, rfl, hQ1, hb1⟩; refine Hid.out ?_)
  refine Lib.hid ?_
  have hR2 : Hid (Poly w1 w1.heap.size v2 l2) := HP2.out.up hb1
  go_wp2_with (go_at_call 20; refine (terms_poly _ l2 _ HL2.out hR2.out).mono ?_; rintro r w2 ⟨u2, rfl, hQ2, hb2⟩; refine Hid.out ?_)
  refine Lib.hid ?_
  have hQ1' : Hid (Poly w2 w2.heap.size u1 l1) := hQ1.up hb2
  go_wp2_with (go_at_call 19; refine (add_yes _ _ l1 l2 _ HM1.out HM2.out hQ1'.out hQ2).mono ?_; rintro r w3 ⟨s, rs, rfl, hrs, hcs, hls, hb3⟩; refine Hid.out ?_)
  refine Lib.hid ?_
  have hB2 := hb1.trans (hb2.mono hb1.size)
  have hB3 := hB2.trans (hb3.mono hB2.size)
  have hPs3 : Hid (Poly w3 w3.heap.size s rs) := Poly.ofRow hrs
  have hR1 : Hid (Poly w3 w3.heap.size v1 l1) := HP1.out.up hB3
  have HCS : Hid (Canon rs (fun x => coefL l1 x + coefL l2 x)) := hcs
  clear hrs hcs
  go_wp2_with (go_at_call 20; refine (terms_poly _ l1 _ HL1.out hR1.out).mono ?_; rintro r w4 ⟨u4, rfl, hQ4, hb4⟩; refine Hid.out ?_)
  refine Lib.hid ?_
  have hB4 := hB3.trans (hb4.mono hB3.size)
  have hR4 : Hid (Poly w4 w4.heap.size v2 l2) := HP2.out.up hB4
  go_wp2_with (go_at_call 20; refine (terms_poly _ l2 _ HL2.out hR4.out).mono ?_; rintro r w5 ⟨u5, rfl, hQ5, hb5⟩; refine Hid.out ?_)
  refine Lib.hid ?_
  have hQ4' : Hid (Poly w5 w5.heap.size u4 l1) := hQ4.up hb5
  go_wp2_with (go_at_call 21; refine (mul_yes _ _ l1 l2 _ HM1.out HM2.out hQ4'.out hQ5).mono ?_; rintro r w6 ⟨p, rp, rfl, hrp, hcp, hlp, hb6⟩; refine Hid.out ?_)
  refine Lib.hid ?_
  have hB36 := (hb4.trans (hb5.mono hb4.size)).trans (hb6.mono (Nat.le_trans hb4.size hb5.size))
  have hB6 := hB3.trans (hB36.mono hB3.size)
  have hPs6 : Hid (Poly w6 w6.heap.size s rs) := Poly.up hPs3.out hB36
  have hPp6 : Hid (Poly w6 w6.heap.size p rp) := Poly.ofRow hrp
  have hR6 : Hid (Poly w6 w6.heap.size v1 l1) := HP1.out.up hB6
  have HCP : Hid (Canon rp (fun y => prodL l1 (coefL l2) y)) := hcp
  clear hrp hcp
  go_wp2_with (go_at_call 22; refine (polyMay_poly _ l1 _ HK1.out hR6.out).mono ?_; rw [HM1.out]; rintro r w7 ⟨rfl, hb7⟩; refine Hid.out ?_)
  refine Lib.hid ?_
  have hB7 := hB6.trans (hb7.mono hB6.size)
  have hR7 : Hid (Poly w7 w7.heap.size v2 l2) := HP2.out.up hB7
  go_wp2_with (go_at_call 22; refine (polyMay_poly _ l2 _ HK2.out hR7.out).mono ?_; rw [HM2.out]; rintro r w8 ⟨rfl, hb8⟩; refine Hid.out ?_)
  refine Lib.hid ?_
  have hB68 := hb7.trans (hb8.mono hb7.size)
  have hB8 := hB6.trans (hB68.mono hB6.size)
  have hX1 : Hid (PolyC w8 w8.heap.size v1 l1) := HC1.out.up hB8
  have hX2 : Hid (PolyC w8 w8.heap.size v2 l2) := HC2.out.up hB8
  go_wp2_with (go_at_call 24; refine (sum_poly _ _ l1 l2 _ HM1.out HM2.out hX1.out hX2.out).mono ?_; rintro r w9 ⟨t, rfl, hPt, hb9⟩; refine Hid.out ?_)
  refine Lib.hid ?_
  have hB69 := hB68.trans (hb9.mono hB68.size)
  have hPs9 : Hid (Poly w9 w9.heap.size s rs) := Poly.up hPs6.out hB69
  have hPt9 : Hid (Poly w9 w9.heap.size t (sumTo l1 l2 1 l2.length)) := hPt.1
  clear hPt
  go_wp2_with (go_at_call 23; refine (same_canon _ _ rs (sumTo l1 l2 1 l2.length) _ _ (by unfold maxLen; omega) hPs9.out hPt9.out HCS.out HS.out).mono ?_; rintro r w10 ⟨rfl, hb10⟩; refine Hid.out ?_)
  refine Lib.hid ?_
  have hB610 := hB69.trans (hb10.mono hB69.size)
  have hB10 := hB6.trans (hB610.mono hB6.size)
  have hY1 : Hid (Poly w10 w10.heap.size v1 l1) := HP1.out.up hB10
  have hY2 : Hid (Poly w10 w10.heap.size v2 l2) := HP2.out.up hB10
  go_wp2_with (go_at_call 25; refine (prod_poly _ _ l1 l2 _ HM1.out HM2.out hY1.out hY2.out).mono ?_; rintro r w11 ⟨q, rfl, hPq, hb11⟩; refine Hid.out ?_)
  refine Lib.hid ?_
  have hB611 := hB610.trans (hb11.mono hB610.size)
  have hB11 := hB6.trans (hB611.mono hB6.size)
  have hPp11 : Hid (Poly w11 w11.heap.size p rp) := Poly.up hPp6.out hB611
  have hPq11 : Hid (Poly w11 w11.heap.size q (prodTo l1 l2 l1.length)) := hPq
  clear hPq
  go_wp2_with (go_at_call 23; refine (same_canon _ _ rp (prodTo l1 l2 l1.length) _ _ (by unfold maxLen; omega) hPp11.out hPq11.out HCP.out HR.out).mono ?_; rintro r w12 ⟨rfl, hb12⟩)
  go_ret
  exact ⟨rfl, hB11.trans (hb12.mono hB11.size)⟩
end Go.Proofs.Ytnhllpaoplfgpaa.Poly
