/- The walks of poly.combined, poly.Add and poly.Mul. -/
import Derived.Test.YthbhllomikfbhaaDoorPB3
namespace Go.Proofs.YthbhllomikfbhaaDoor.Poly
open Go.RowKit Go.Maps

theorem coef_bd {D : DataW Unit} {l : List (Int × Int)} (hm : mayB l = true) (h : ∀ x, coefOf D x = coefL l x) : ∀ x, -1000000 ≤ coefOf D x ∧ coefOf D x ≤ 1000000 := by
  intro x
  rw [h]
  by_cases h0 : coefL l x = 0
  · rw [h0]; omega
  · have := (coefL_mem ((may_rising hm).imp fun h => by omega) (may_nonzero hm) x (coefL l x)).2 ⟨rfl, h0⟩
    exact (may_coef hm _ this).2.2

/-- Two lists with one place for each exponent and the same terms are one but for their order. -/
theorem perm_of_mem {a b : List (Int × Int)} (ha : a.Pairwise (fun s t => s.1 ≠ t.1)) (hb : b.Pairwise (fun s t => s.1 ≠ t.1)) (h : ∀ t, t ∈ a ↔ t ∈ b) : a.Perm b := by
  have na : a.Nodup := ha.imp fun h e => h (by rw [e])
  have nb : b.Nodup := hb.imp fun h e => h (by rw [e])
  exact (List.perm_ext_iff_of_nodup na nb).2 h

set_option maxHeartbeats 1000000 in
set_option maxRecDepth 100000 in
theorem combined_add (v1 v2 : Value) (l1 l2 : List (Int × Int)) (w : World) (hm1 : mayB l1 = true) (hm2 : mayB l2 = true) (hP1 : Poly w w.heap.size v1 l1) (hP2 : Poly w w.heap.size v2 l2) :
    Calls Tryd.prog 48 #[v1, v2, .func (.func 49) #[] #[]] w fun e w' => ∃ v r, e = .returned (.tuple #[v, .int .i64 0]) ∧ w'.ownsRow w.heap.size 36 2 v r.length (flat r) ∧ Canon r (fun x => coefL l1 x + coefL l2 x) ∧ r.length ≤ 128 ∧ Below w.heap.size w w' := by
  have h164 := ((may_iff l1).1 hm1).1
  have h264 := ((may_iff l2).1 hm2).1
  have HP1 : Hid (Poly w w.heap.size v1 l1) := hP1
  have HP2 : Hid (Poly w w.heap.size v2 l2) := hP2
  have HL1 : Hid (l1.length ≤ maxLen) := by show _ ≤ _; unfold maxLen; omega
  have HL2 : Hid (l2.length ≤ maxLen) := by show _ ≤ _; unfold maxLen; omega
  have HM1 : Hid (mayB l1 = true) := hm1
  have HM2 : Hid (mayB l2 = true) := hm2
  clear hP1 hP2 hm1 hm2
  go_enter Tryd.func48, Tryd.ntmps48
  go_wp2_with (go_at_call 23; refine (mayBe_poly _ l1 _ HL1.out HP1.out).mono ?_; rw [HM1.out]; rintro r w1 ⟨rfl, hb1⟩; refine Hid.out ?_)
  refine Lib.hid ?_
  go_wp2_with (go_at_call 23; refine (mayBe_poly _ l2 _ HL2.out (HP2.out.up hb1)).mono ?_; rw [HM2.out]; rintro r w2 ⟨rfl, hb2⟩; refine Hid.out ?_)
  refine Lib.hid ?_
  have hB2 := hb1.trans (hb2.mono hb1.size)
  go_wp2_with (go_at_call 65; refine (collected_poly _ l1 _ HM1.out (HP1.out.up hB2)).mono ?_; rintro r w3 ⟨D1, rfl, hown1, hc1, hk1, hb3⟩; refine Hid.out ?_)
  refine Lib.hid ?_
  have hB3 := hB2.trans (hb3.mono hB2.size)
  go_wp2_with (go_at_call 65; refine (collected_poly _ l2 _ HM2.out (HP2.out.up hB3)).mono ?_; rintro r w4 ⟨D2, rfl, hown2, hc2, hk2, hb4⟩; refine Hid.out ?_)
  refine Lib.hid ?_
  have hB4 := hB3.trans (hb4.mono hB3.size)
  have hown1' := map_on hown1 hb4 hown1.lt
  go_wp2_with (go_at_call 49; refine (plus23 _ _ _ _ D1 D2 _ hown1' hown2 h164 h264 hk2 (coef_bd HM1.out hc1) (coef_bd HM2.out hc2)).mono ?_; rintro r w5 ⟨D, rfl, hown, hc, hb5⟩; refine Hid.out ?_)
  refine Lib.hid ?_
  have hB5 := hB4.trans (hb5.mono hB4.size)
  have hs := size_le hown
  have HC : Hid (∀ x, coefOf D x = coefL l1 x + coefL l2 x) := fun x => by rw [hc, hc1, hc2]
  clear hc hc1 hc2 hk1 hk2
  go_wp2_with (go_at_call 38; refine (terms34 _ _ D _ hown (by omega)).mono ?_; rintro r w6 ⟨v, m, rfl, hrow, hcan, hml, hb6⟩)
  go_ret2
  exact ⟨v, m, rfl, own_lower hrow hB5.size, canon_congr hcan HC.out, by omega, hB5.trans (hb6.mono hB5.size)⟩

set_option maxHeartbeats 1000000 in
set_option maxRecDepth 100000 in
theorem combined_mul (v1 v2 : Value) (l1 l2 : List (Int × Int)) (w : World) (hm1 : mayB l1 = true) (hm2 : mayB l2 = true) (hP1 : Poly w w.heap.size v1 l1) (hP2 : Poly w w.heap.size v2 l2) :
    Calls Tryd.prog 48 #[v1, v2, .func (.func 50) #[] #[]] w fun e w' => ∃ v r, e = .returned (.tuple #[v, .int .i64 0]) ∧ w'.ownsRow w.heap.size 36 2 v r.length (flat r) ∧ Canon r (fun y => prodL l1 (coefL l2) y) ∧ r.length ≤ 4096 ∧ Below w.heap.size w w' := by
  have h164 := ((may_iff l1).1 hm1).1
  have h264 := ((may_iff l2).1 hm2).1
  have HP1 : Hid (Poly w w.heap.size v1 l1) := hP1
  have HP2 : Hid (Poly w w.heap.size v2 l2) := hP2
  have HL1 : Hid (l1.length ≤ maxLen) := by show _ ≤ _; unfold maxLen; omega
  have HL2 : Hid (l2.length ≤ maxLen) := by show _ ≤ _; unfold maxLen; omega
  have HM1 : Hid (mayB l1 = true) := hm1
  have HM2 : Hid (mayB l2 = true) := hm2
  clear hP1 hP2 hm1 hm2
  go_enter Tryd.func48, Tryd.ntmps48
  go_wp2_with (go_at_call 23; refine (mayBe_poly _ l1 _ HL1.out HP1.out).mono ?_; rw [HM1.out]; rintro r w1 ⟨rfl, hb1⟩; refine Hid.out ?_)
  refine Lib.hid ?_
  go_wp2_with (go_at_call 23; refine (mayBe_poly _ l2 _ HL2.out (HP2.out.up hb1)).mono ?_; rw [HM2.out]; rintro r w2 ⟨rfl, hb2⟩; refine Hid.out ?_)
  refine Lib.hid ?_
  have hB2 := hb1.trans (hb2.mono hb1.size)
  go_wp2_with (go_at_call 65; refine (collected_poly _ l1 _ HM1.out (HP1.out.up hB2)).mono ?_; rintro r w3 ⟨D1, rfl, hown1, hc1, hk1, hb3⟩; refine Hid.out ?_)
  refine Lib.hid ?_
  have hB3 := hB2.trans (hb3.mono hB2.size)
  go_wp2_with (go_at_call 65; refine (collected_poly _ l2 _ HM2.out (HP2.out.up hB3)).mono ?_; rintro r w4 ⟨D2, rfl, hown2, hc2, hk2, hb4⟩; refine Hid.out ?_)
  refine Lib.hid ?_
  have hB4 := hB3.trans (hb4.mono hB3.size)
  have hown1' := map_on hown1 hb4 hown1.lt
  go_wp2_with (go_at_call 50; refine (times24 _ _ _ _ D1 D2 _ hown1' hown2 h164 h264 hk1 hk2 (coef_bd HM1.out hc1) (coef_bd HM2.out hc2)).mono ?_; rintro r w5 ⟨D, acc, rfl, hown, hc, hmem, honce, hb5⟩; refine Hid.out ?_)
  refine Lib.hid ?_
  have hB5 := hB4.trans (hb5.mono hB4.size)
  have hs := size_le hown
  have HC : Hid (∀ y, coefOf D y = prodL l1 (coefL l2) y) := fun y => by
    have hp : acc.Perm l1 := perm_of_mem honce ((may_rising HM1.out).imp fun h => by omega) fun t => by
      rw [show t = (t.1, t.2) from rfl, hmem, hc1]
      exact (coefL_mem ((may_rising HM1.out).imp fun h => by omega) (may_nonzero HM1.out) t.1 t.2).symm
    rw [hc, prodL_perm hp]
    congr 1
    funext x
    exact hc2 x
  clear hc hc1 hc2 hk1 hk2 hmem honce
  go_wp2_with (go_at_call 38; refine (terms34 _ _ D _ hown (by omega)).mono ?_; rintro r w6 ⟨v, m, rfl, hrow, hcan, hml, hb6⟩)
  go_ret2
  exact ⟨v, m, rfl, own_lower hrow hB5.size, canon_congr hcan HC.out, by omega, hB5.trans (hb6.mono hB5.size)⟩

set_option maxHeartbeats 1000000 in
set_option maxRecDepth 100000 in
theorem combined_no (fv v1 v2 : Value) (l1 l2 : List (Int × Int)) (w : World) (hl1 : l1.length ≤ maxLen) (hl2 : l2.length ≤ maxLen) (hm : mayB l1 = false ∨ mayB l2 = false) (hP1 : Poly w w.heap.size v1 l1) (hP2 : Poly w w.heap.size v2 l2) :
    Calls Tryd.prog 48 #[v1, v2, fv] w fun e w' => e = .returned (.tuple #[.slice none 0 0, .int .i64 1]) ∧ Below w.heap.size w w' := by
  have HP1 : Hid (Poly w w.heap.size v1 l1) := hP1
  have HP2 : Hid (Poly w w.heap.size v2 l2) := hP2
  have HL1 : Hid (l1.length ≤ maxLen) := hl1
  have HL2 : Hid (l2.length ≤ maxLen) := hl2
  clear hP1 hP2 hl1 hl2
  cases h1 : mayB l1
  · have HM1 : Hid (mayB l1 = false) := h1
    clear h1 hm
    go_enter Tryd.func48, Tryd.ntmps48
    go_wp2_with (go_at_call 23; refine (mayBe_poly _ l1 _ HL1.out HP1.out).mono ?_; rw [HM1.out]; rintro r w1 ⟨rfl, hb1⟩)
    go_ret2
    exact ⟨rfl, hb1⟩
  · have HM1 : Hid (mayB l1 = true) := h1
    have HM2 : Hid (mayB l2 = false) := by
      rcases hm with h | h
      · rw [h1] at h; cases h
      · exact h
    clear h1 hm
    go_enter Tryd.func48, Tryd.ntmps48
    go_wp2_with (go_at_call 23; refine (mayBe_poly _ l1 _ HL1.out HP1.out).mono ?_; rw [HM1.out]; rintro r w1 ⟨rfl, hb1⟩; refine Hid.out ?_)
    refine Lib.hid ?_
    go_wp2_with (go_at_call 23; refine (mayBe_poly _ l2 _ HL2.out (HP2.out.up hb1)).mono ?_; rw [HM2.out]; rintro r w2 ⟨rfl, hb2⟩)
    go_ret2
    exact ⟨rfl, hb1.trans (hb2.mono hb1.size)⟩

set_option maxHeartbeats 400000 in
theorem add_yes (v1 v2 : Value) (l1 l2 : List (Int × Int)) (w : World) (hm1 : mayB l1 = true) (hm2 : mayB l2 = true) (hP1 : Poly w w.heap.size v1 l1) (hP2 : Poly w w.heap.size v2 l2) :
    Calls Tryd.prog 30 #[v1, v2] w fun e w' => ∃ v r, e = .returned (.tuple #[v, .int .i64 0]) ∧ w'.ownsRow w.heap.size 36 2 v r.length (flat r) ∧ Canon r (fun x => coefL l1 x + coefL l2 x) ∧ r.length ≤ 128 ∧ Below w.heap.size w w' := by
  have HP1 : Hid (Poly w w.heap.size v1 l1) := hP1
  have HP2 : Hid (Poly w w.heap.size v2 l2) := hP2
  have HM1 : Hid (mayB l1 = true) := hm1
  have HM2 : Hid (mayB l2 = true) := hm2
  clear hP1 hP2 hm1 hm2
  go_enter Tryd.func30, Tryd.ntmps30
  go_wp2_with (go_at_call 48; refine (combined_add v1 v2 l1 l2 w HM1.out HM2.out HP1.out HP2.out).mono ?_; rintro r w1 ⟨v, m, rfl, hrow, hcan, hml, hb1⟩)
  go_ret2
  exact ⟨v, m, rfl, hrow, hcan, hml, hb1⟩

set_option maxHeartbeats 400000 in
theorem mul_yes (v1 v2 : Value) (l1 l2 : List (Int × Int)) (w : World) (hm1 : mayB l1 = true) (hm2 : mayB l2 = true) (hP1 : Poly w w.heap.size v1 l1) (hP2 : Poly w w.heap.size v2 l2) :
    Calls Tryd.prog 31 #[v1, v2] w fun e w' => ∃ v r, e = .returned (.tuple #[v, .int .i64 0]) ∧ w'.ownsRow w.heap.size 36 2 v r.length (flat r) ∧ Canon r (fun y => prodL l1 (coefL l2) y) ∧ r.length ≤ 4096 ∧ Below w.heap.size w w' := by
  have HP1 : Hid (Poly w w.heap.size v1 l1) := hP1
  have HP2 : Hid (Poly w w.heap.size v2 l2) := hP2
  have HM1 : Hid (mayB l1 = true) := hm1
  have HM2 : Hid (mayB l2 = true) := hm2
  clear hP1 hP2 hm1 hm2
  go_enter Tryd.func31, Tryd.ntmps31
  go_wp2_with (go_at_call 48; refine (combined_mul v1 v2 l1 l2 w HM1.out HM2.out HP1.out HP2.out).mono ?_; rintro r w1 ⟨v, m, rfl, hrow, hcan, hml, hb1⟩)
  go_ret2
  exact ⟨v, m, rfl, hrow, hcan, hml, hb1⟩

set_option maxHeartbeats 400000 in
theorem add_no (v1 v2 : Value) (l1 l2 : List (Int × Int)) (w : World) (hl1 : l1.length ≤ maxLen) (hl2 : l2.length ≤ maxLen) (hm : mayB l1 = false ∨ mayB l2 = false) (hP1 : Poly w w.heap.size v1 l1) (hP2 : Poly w w.heap.size v2 l2) :
    Calls Tryd.prog 30 #[v1, v2] w fun e w' => e = .returned (.tuple #[.slice none 0 0, .int .i64 1]) ∧ Below w.heap.size w w' := by
  have HP1 : Hid (Poly w w.heap.size v1 l1) := hP1
  have HP2 : Hid (Poly w w.heap.size v2 l2) := hP2
  have HL1 : Hid (l1.length ≤ maxLen) := hl1
  have HL2 : Hid (l2.length ≤ maxLen) := hl2
  have HM : Hid (mayB l1 = false ∨ mayB l2 = false) := hm
  clear hP1 hP2 hm hl1 hl2
  go_enter Tryd.func30, Tryd.ntmps30
  go_wp2_with (go_at_call 48; refine (combined_no _ v1 v2 l1 l2 w HL1.out HL2.out HM.out HP1.out HP2.out).mono ?_; rintro r w1 ⟨rfl, hb1⟩)
  go_ret2
  exact ⟨rfl, hb1⟩

set_option maxHeartbeats 400000 in
theorem mul_no (v1 v2 : Value) (l1 l2 : List (Int × Int)) (w : World) (hl1 : l1.length ≤ maxLen) (hl2 : l2.length ≤ maxLen) (hm : mayB l1 = false ∨ mayB l2 = false) (hP1 : Poly w w.heap.size v1 l1) (hP2 : Poly w w.heap.size v2 l2) :
    Calls Tryd.prog 31 #[v1, v2] w fun e w' => e = .returned (.tuple #[.slice none 0 0, .int .i64 1]) ∧ Below w.heap.size w w' := by
  have HP1 : Hid (Poly w w.heap.size v1 l1) := hP1
  have HP2 : Hid (Poly w w.heap.size v2 l2) := hP2
  have HL1 : Hid (l1.length ≤ maxLen) := hl1
  have HL2 : Hid (l2.length ≤ maxLen) := hl2
  have HM : Hid (mayB l1 = false ∨ mayB l2 = false) := hm
  clear hP1 hP2 hm hl1 hl2
  go_enter Tryd.func31, Tryd.ntmps31
  go_wp2_with (go_at_call 48; refine (combined_no _ v1 v2 l1 l2 w HL1.out HL2.out HM.out HP1.out HP2.out).mono ?_; rintro r w1 ⟨rfl, hb1⟩)
  go_ret2
  exact ⟨rfl, hb1⟩
end Go.Proofs.YthbhllomikfbhaaDoor.Poly
