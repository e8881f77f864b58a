/- Alexander's polynomial as mathematics; the walks of alex.Alexander and alex.Determinant. -/
import Derived.Test.YtajmogojekichaaAX1
import Derived.Test.YtajmogojekichaaPA10P
import Derived.Test.YtajmogojekichaaAL5P
namespace Go.Proofs.Ytajmogojekichaa
open Go.RowKit

theorem unit_at (l : List (Int × Int)) (i : Nat) (hi : i < l.length) : (Poly.unitL l).getD i (0, 0) = ((l.getD i (0, 0)).1 - (l.getD 0 (0, 0)).1, if (l.getD 0 (0, 0)).2 < 0 then -(l.getD i (0, 0)).2 else (l.getD i (0, 0)).2) := by
  have g : l.getD i (0, 0) = l[i] := by simp [List.getD_eq_getElem?_getD, hi]
  have e : (Poly.unitL l).getD i (0, 0) = (l[i].1 - (l.getD 0 (0, 0)).1, if (l.getD 0 (0, 0)).2 < 0 then -l[i].2 else l[i].2) := by simp [Poly.unitL, List.getD_eq_getElem?_getD, hi]
  rw [e, g]
theorem unit_len (l : List (Int × Int)) : (Poly.unitL l).length = l.length := by simp [Poly.unitL]
theorem unit_may {l : List (Int × Int)} (hm : Poly.mayB l = true) (h : ∀ t ∈ l, 0 ≤ t.1 ∧ t.1 ≤ 10) : Poly.mayB (Poly.unitL l) = true := by
  have h1 := (Poly.may_iff l).1 hm
  refine (Poly.may_iff _).2 ⟨by rw [unit_len]; exact h1.1, fun i hi => ?_⟩
  rw [unit_len] at hi
  have h2 := (Poly.okB_iff l i).1 (h1.2 i hi)
  obtain ⟨q1, q2, q3, q4, q5, q6⟩ := h2
  have e0 := h _ (Poly.getD_mem l 0 (0, 0) (by omega))
  have ei := h _ (Poly.getD_mem l i (0, 0) hi)
  rw [Poly.okB_iff, unit_at l i hi]
  simp only
  refine ⟨by omega, by omega, ?_, ?_, ?_, fun h0 => ?_⟩
  · split <;> omega
  · split <;> omega
  · split <;> omega
  · rw [unit_at l (i - 1) (by omega)]
    have := q6 h0
    simp only
    omega
/-- This is Alexander's polynomial. -/
def IsAlex (C : List Cr) (loops : Int) (l : List (Int × Int)) : Prop :=
  if C.length = 0 ∧ loops = 1 then l = [(0, 1)] else if C.length = 0 ∨ 0 < loops ∨ C.length < ovC C - 1 then l = [] else ∃ l0, Poly.Canon l0 (Poly.detOf (alT C (ovC C - 1))) ∧ l = Poly.unitL l0
theorem IsAlex.one {C : List Cr} {loops : Int} {l l' : List (Int × Int)} (h : IsAlex C loops l) (h' : IsAlex C loops l') : l = l' := by
  unfold IsAlex at h h'
  split at h
  · rename_i q
    rw [if_pos q] at h'
    rw [h, h']
  · rename_i q
    rw [if_neg q] at h'
    split at h
    · rename_i q2
      rw [if_pos q2] at h'
      rw [h, h']
    · rename_i q2
      rw [if_neg q2] at h'
      obtain ⟨l0, c0, rfl⟩ := h
      obtain ⟨l1, c1, rfl⟩ := h'
      rw [Poly.canon_unique c0 c1]
theorem IsAlex.may {C : List Cr} {loops : Int} {l : List (Int × Int)} (hm : mayD C loops = true) (h10 : C.length ≤ 10) (h : IsAlex C loops l) : Poly.mayB l = true := by
  unfold IsAlex at h
  split at h
  · rw [h]; decide
  · split at h
    · rw [h]; decide
    · rename_i q1 q2
      obtain ⟨l0, c0, rfl⟩ := h
      have hS := al_slim C (ovC C - 1)
      refine unit_may (al_det hm (by omega) h10 (by omega) c0) fun t ht => ?_
      obtain ⟨e, hc⟩ := (c0.2 t.1 t.2).1 ht
      have := det_few _ _ hS t.1 (by rw [e]; exact hc)
      omega

set_option maxHeartbeats 4000000 in
set_option maxRecDepth 100000 in
theorem alexander_no (hFR : FaceRingsOk) (v : Value) (C : List Cr) (loops : Int) (w : World) (hn : noN C loops ≠ 0) (h : Crs w w.heap.size v C) :
    Calls Try.prog 35 #[.agg #[v, .int .i64 loops]] w fun e w' => e = .returned (.tuple #[.slice none 0 0, .int .i64 (noN C loops)]) ∧ Below w.heap.size w w' := by
  have HC : Hid (Crs w w.heap.size v C) := h
  obtain ⟨a, cap, rfl, -, -⟩ := h
  have HF : Hid (∀ W, Crs W W.heap.size (.slice a C.length cap) C → Calls Try.prog 88 #[.agg #[.slice a C.length cap, .int .i64 loops]] W fun e w' => e = .returned (.tuple #[.slice none 0 0, .int .i64 (noN C loops)]) ∧ Below W.heap.size W w') := fun W hW => table_no hFR _ C loops W hn hW
  generalize noN C loops = r at hn HF
  have hr0 : (r == 0) = false := beq_eq_false_iff_ne.2 hn
  have hr1 : (r != 0) = true := by simp [hn]
  have HB1 : Hid (Below w.heap.size w (w.alloc (.cells #[.slice a C.length cap, .int .i64 loops] 24))) := (Below.refl _ _).alloc (Nat.le_refl _) _
  go_enter Try.func35, Try.ntmps35
  go_wp2_with (go_at_call 88; refine (HF.out _ (HC.out.up HB1.out)).mono ?_; rintro e9 w2 ⟨rfl, hb2⟩; refine Hid.out ?_)
  refine Lib.hid ?_
  have HB2 : Hid (Below w.heap.size w w2) := HB1.out.trans (hb2.mono HB1.out.size)
  clear hb2
  go_wp2
  go_ret2
  exact ⟨rfl, HB2.out⟩

set_option maxHeartbeats 4000000 in
set_option maxRecDepth 100000 in
theorem alexander_size (hFR : FaceRingsOk) (v : Value) (C : List Cr) (loops : Int) (w : World) (hn : noN C loops = 0) (h10 : 10 < C.length) (h : Crs w w.heap.size v C) :
    Calls Try.prog 35 #[.agg #[v, .int .i64 loops]] w fun e w' => e = .returned (.tuple #[.slice none 0 0, .int .i64 2]) ∧ Below w.heap.size w w' := by
  have HC : Hid (Crs w w.heap.size v C) := h
  obtain ⟨a, cap, rfl, -, -⟩ := h
  have HF : Hid (∀ W, Crs W W.heap.size (.slice a C.length cap) C → Calls Try.prog 88 #[.agg #[.slice a C.length cap, .int .i64 loops]] W fun e w' => e = .returned (.tuple #[.slice none 0 0, .int .i64 2]) ∧ Below W.heap.size W w') := fun W hW => table_size hFR _ C loops W hn h10 hW
  have HB1 : Hid (Below w.heap.size w (w.alloc (.cells #[.slice a C.length cap, .int .i64 loops] 24))) := (Below.refl _ _).alloc (Nat.le_refl _) _
  go_enter Try.func35, Try.ntmps35
  go_wp2_with (go_at_call 88; refine (HF.out _ (HC.out.up HB1.out)).mono ?_; rintro e9 w2 ⟨rfl, hb2⟩; refine Hid.out ?_)
  refine Lib.hid ?_
  have HB2 : Hid (Below w.heap.size w w2) := HB1.out.trans (hb2.mono HB1.out.size)
  clear hb2
  go_wp2
  go_ret2
  exact ⟨rfl, HB2.out⟩

set_option maxHeartbeats 8000000 in
set_option maxRecDepth 100000 in
theorem alexander_yes (hFR : FaceRingsOk) (v : Value) (C : List Cr) (loops : Int) (w : World) (hn : noN C loops = 0) (h10 : C.length ≤ 10) (h : Crs w w.heap.size v C) :
    Calls Try.prog 35 #[.agg #[v, .int .i64 loops]] w fun e w' => ∃ v l, e = .returned (.tuple #[v, .int .i64 0]) ∧ Poly.Poly w' w'.heap.size v l ∧ IsAlex C loops l ∧ Below w.heap.size w w' := by
  have HC : Hid (Crs w w.heap.size v C) := h
  have hmd := (noN_zero hn).1
  have hsz : sizeB C loops = true := by
    have := hmd
    unfold mayD at this
    exact (Bool.and_eq_true_iff.1 this).1
  obtain ⟨hs1, hs2, hs3, hs4⟩ := sizeB_iff hsz
  have HM : Hid (mayD C loops = true) := hmd
  obtain ⟨a, cap, rfl, -, -⟩ := h
  have HF : Hid (∀ W, Crs W W.heap.size (.slice a C.length cap) C → Calls Try.prog 88 #[.agg #[.slice a C.length cap, .int .i64 loops]] W fun e w' => ∃ gt, e = .returned (.tuple #[.slice (some ⟨gt, 0, none⟩) C.length C.length, .int .i64 0]) ∧ (∃ gs vals, TblAt W.heap.size C.length (ovC C) gt C.length gs vals (alF C) w') ∧ Below W.heap.size W w') := fun W hW => table_yes hFR addOk _ C loops W hn h10 hW
  have hov : ovC C ≤ 21 := Nat.le_trans (rootsN_le _ _) (by omega)
  have hov2 := ovC_ge C
  obtain ⟨w0, hw0⟩ : ∃ w0, w0 = w.alloc (.cells #[.slice a C.length cap, .int .i64 loops] 24) := ⟨_, rfl⟩
  have HW0 : Hid (w0 = w.alloc (.cells #[.slice a C.length cap, .int .i64 loops] 24)) := hw0
  have HB0 : Hid (Below w.heap.size w w0) := (by rw [hw0]; exact (Below.refl _ _).alloc (Nat.le_refl _) _ : Below w.heap.size w w0)
  have HT0 : Hid (w0.heap[w.heap.size]? = some (.cells #[.slice a C.length cap, .int .i64 loops] 24 (0, 0))) := (by rw [hw0]; exact alloc_at rfl : w0.heap[w.heap.size]? = some (.cells #[.slice a C.length cap, .int .i64 loops] 24 (0, 0)))
  clear hw0 hn hFR hmd hsz
  go_enter Try.func35, Try.ntmps35
  go_wp2_with (go_at_call 88; rw [← HW0.out]; refine (HF.out _ (HC.out.up HB0.out)).mono ?_; rintro e9 w2 ⟨gt, rfl, hT, hb2⟩; refine Hid.out ?_)
  refine Lib.hid ?_
  have HB2 : Hid (Below w.heap.size w w2) := HB0.out.trans (hb2.mono HB0.out.size)
  have q := (hb2.block _ (Array.getElem?_eq_some_iff.1 HT0.out).1).trans HT0.out
  have t0 : w2.cell? ⟨w.heap.size, 0, none⟩ = some (.slice a C.length cap) := block_cell q rfl
  have t1 : w2.cell? ⟨w.heap.size, 1, none⟩ = some (.int .i64 loops) := block_cell q rfl
  have HTT : Hid (∃ gs vals, TblRd w2 w2.heap.size C.length (ovC C) gt gs vals (alF C)) := (by
    obtain ⟨gs, vals, h⟩ := hT
    exact ⟨gs, vals, h.rd⟩ : ∃ gs vals, TblRd w2 w2.heap.size C.length (ovC C) gt gs vals (alF C))
  clear hb2 hT q
  clear HC HF HT0 HW0
  obtain ⟨n, hN⟩ : ∃ n, C.length = n := ⟨_, rfl⟩
  have HN : Hid (C.length = n) := hN
  rw [hN] at hs1 hs4 h10 hov2 HTT t0 ⊢
  clear hN
  by_cases h1 : n = 0 ∧ loops = 1
  · obtain ⟨rfl, rfl⟩ := h1
    have HI : Hid (IsAlex C 1 [(0, 1)]) := (by
      unfold IsAlex
      rw [if_pos ⟨HN.out, rfl⟩] : IsAlex C 1 [(0, 1)])
    go_wp2
    go_ret2
    have hb := alloc_at (w := w2) (o := .cells #[.int .i64 0, .int .i64 1] 124) rfl
    refine ⟨_, rfl, [(0, 1)], Or.inr (Or.inr ⟨w2.heap.size, 0, 1, rfl, (Array.getElem?_eq_some_iff.1 hb).1, fun i hi => ?_⟩), HI.out, HB2.out.alloc HB2.out.size _⟩
    obtain rfl : i = 0 := by simpa using hi
    exact ⟨block_cell hb rfl, block_cell hb rfl⟩
  · by_cases h2 : n = 0 ∨ 0 < loops
    · have HI : Hid (IsAlex C loops []) := (by
        have := HN.out
        unfold IsAlex
        rw [if_neg (by rw [this]; exact h1), if_pos (by rw [this]; omega)] : IsAlex C loops [])
      by_cases h3 : n = 0
      · subst h3
        have h4 : loops ≠ 1 := fun e => h1 ⟨rfl, e⟩
        have h5 : (loops == 1) = false := beq_eq_false_iff_ne.2 h4
        go_wp2
        go_ret2
        exact ⟨_, rfl, [], Or.inl ⟨rfl, rfl⟩, HI.out, HB2.out⟩
      · have h4 : 0 < loops := by omega
        have h5 : ((n : Int) == 0) = false := beq_eq_false_iff_ne.2 (by omega)
        go_wp2
        go_ret2
        exact ⟨_, [], rfl, Or.inl ⟨rfl, rfl⟩, HI.out, HB2.out⟩
    · have h3 : 0 < n := by omega
      obtain rfl : loops = 0 := by omega
      have h5 : ((n : Int) == 0) = false := beq_eq_false_iff_ne.2 (by omega)
      obtain ⟨gs, vals, hTR⟩ := HTT.out
      have HTR : Hid (TblRd w2 w2.heap.size n (ovC C) gt gs vals (alF C)) := hTR
      clear hTR HTT
      go_wp2_with (first
        | (go_at_call 90; refine (minor_any C gt n (ovC C) gs vals _ h3 h10 (by omega) hov HTR.out).mono ?_; rintro e9 w3 ⟨vm, lm, rfl, hPm, hm1, hm2, hb3⟩; refine Hid.out ?_))
      refine Lib.hid ?_
      have HB3 : Hid (Below w.heap.size w w3) := HB2.out.trans (hb3.mono HB2.out.size)
      have HPm : Hid (Poly.Poly w3 w3.heap.size vm lm) := hPm
      have HMB : Hid (Poly.mayB lm = true) := (by
        by_cases hs : n < ovC C - 1
        · rw [hm1 hs]; decide
        · exact al_det HM.out (by rw [HN.out]; exact h3) (by rw [HN.out]; exact h10) (by rw [HN.out]; omega) (hm2 (by omega)) : Poly.mayB lm = true)
      have HI : Hid (IsAlex C 0 (Poly.unitL lm)) := (by
        have hN := HN.out
        unfold IsAlex
        rw [if_neg (by rw [hN]; omega)]
        by_cases hs : n < ovC C - 1
        · rw [if_pos (by rw [hN]; omega), hm1 hs]; rfl
        · rw [if_neg (by rw [hN]; omega)]
          exact ⟨lm, hm2 (by omega), rfl⟩ : IsAlex C 0 (Poly.unitL lm))
      clear hPm hm1 hm2 hb3
      go_wp2_with (go_at_call 89; refine (Poly.unit_yes vm lm _ HMB.out HPm.out).mono ?_; rintro e9 w4 ⟨vu, rfl, hPu, hb4⟩; refine Hid.out ?_)
      refine Lib.hid ?_
      have HPu : Hid (Poly.Poly w4 w4.heap.size vu (Poly.unitL lm)) := hPu
      have HB4 : Hid (Below w.heap.size w w4) := HB3.out.trans (hb4.mono HB3.out.size)
      clear hPu hb4
      go_wp2
      go_ret2
      exact ⟨vu, _, rfl, HPu.out, HI.out, HB4.out⟩

set_option maxHeartbeats 4000000 in
set_option maxRecDepth 100000 in
theorem alexDet_bad (v : Value) (C : List Cr) (loops r : Int) (w : World) (hr : r ≠ 0) (h : Crs w w.heap.size v C)
    (hA : ∀ W, Crs W W.heap.size v C → Calls Try.prog 35 #[.agg #[v, .int .i64 loops]] W fun e w' => e = .returned (.tuple #[.slice none 0 0, .int .i64 r]) ∧ Below W.heap.size W w') :
    Calls Try.prog 36 #[.agg #[v, .int .i64 loops]] w fun e w' => e = .returned (.tuple #[.int .i64 0, .int .i64 r]) ∧ Below w.heap.size w w' := by
  have HC : Hid (Crs w w.heap.size v C) := h
  obtain ⟨a, cap, rfl, -, -⟩ := h
  have HF : Hid (∀ W, Crs W W.heap.size (.slice a C.length cap) C → Calls Try.prog 35 #[.agg #[.slice a C.length cap, .int .i64 loops]] W fun e w' => e = .returned (.tuple #[.slice none 0 0, .int .i64 r]) ∧ Below W.heap.size W w') := hA
  have hr0 : (r == 0) = false := beq_eq_false_iff_ne.2 hr
  have hr1 : (r != 0) = true := by simp [hr]
  have HB1 : Hid (Below w.heap.size w (w.alloc (.cells #[.slice a C.length cap, .int .i64 loops] 24))) := (Below.refl _ _).alloc (Nat.le_refl _) _
  clear hA
  go_enter Try.func36, Try.ntmps36
  go_wp2_with (go_at_call 35; refine (HF.out _ (HC.out.up HB1.out)).mono ?_; rintro e9 w2 ⟨rfl, hb2⟩; refine Hid.out ?_)
  refine Lib.hid ?_
  have HB2 : Hid (Below w.heap.size w w2) := HB1.out.trans (hb2.mono HB1.out.size)
  clear hb2
  go_wp2
  go_ret2
  exact ⟨rfl, HB2.out⟩

set_option maxHeartbeats 4000000 in
set_option maxRecDepth 100000 in
theorem alexDet_yes (hFR : FaceRingsOk) (v : Value) (C : List Cr) (loops : Int) (w : World) (hn : noN C loops = 0) (h10 : C.length ≤ 10) (h : Crs w w.heap.size v C) :
    Calls Try.prog 36 #[.agg #[v, .int .i64 loops]] w fun e w' => ∃ l, e = .returned (.tuple #[.int .i64 (max (Poly.atTo l (-1) l.length) (-(Poly.atTo l (-1) l.length))), .int .i64 0]) ∧ IsAlex C loops l ∧ Below w.heap.size w w' := by
  have HC : Hid (Crs w w.heap.size v C) := h
  have HM : Hid (mayD C loops = true) := (noN_zero hn).1
  obtain ⟨a, cap, rfl, -, -⟩ := h
  have HF : Hid (∀ W, Crs W W.heap.size (.slice a C.length cap) C → Calls Try.prog 35 #[.agg #[.slice a C.length cap, .int .i64 loops]] W fun e w' => ∃ v l, e = .returned (.tuple #[v, .int .i64 0]) ∧ Poly.Poly w' w'.heap.size v l ∧ IsAlex C loops l ∧ Below W.heap.size W w') := fun W hW => alexander_yes hFR _ C loops W hn h10 hW
  have HB1 : Hid (Below w.heap.size w (w.alloc (.cells #[.slice a C.length cap, .int .i64 loops] 24))) := (Below.refl _ _).alloc (Nat.le_refl _) _
  clear hFR hn
  go_enter Try.func36, Try.ntmps36
  go_wp2_with (go_at_call 35; refine (HF.out _ (HC.out.up HB1.out)).mono ?_; rintro e9 w2 ⟨va, l, rfl, hP, hI, hb2⟩; refine Hid.out ?_)
  refine Lib.hid ?_
  have HB2 : Hid (Below w.heap.size w w2) := HB1.out.trans (hb2.mono HB1.out.size)
  have HP : Hid (Poly.Poly w2 w2.heap.size va l) := hP
  have HI : Hid (IsAlex C loops l) := hI
  have HMB : Hid (Poly.mayB l = true) := hI.may HM.out h10
  have hat := Poly.atTo_le l (-1) (Or.inr rfl) HMB.out l.length (Nat.le_refl _)
  have hl64 := ((Poly.may_iff l).1 HMB.out).1
  have HAT : Hid (∀ W, Poly.Poly W W.heap.size va l → Calls Try.prog 91 #[va, .int .i64 (-1)] W fun e w' => e = .returned (.tuple #[.int .i64 (Poly.atTo l (-1) l.length), .int .i64 0]) ∧ Below W.heap.size W w') := fun W hW => Poly.at_yes va l (-1) W (Or.inr rfl) HMB.out hW
  have HX : Hid (∀ x, Poly.atTo l (-1) l.length = x → ∃ l, (.returned (.tuple #[.int .i64 (max x (-x)), .int .i64 0]) : Ending) = .returned (.tuple #[.int .i64 (max (Poly.atTo l (-1) l.length) (-(Poly.atTo l (-1) l.length))), .int .i64 0]) ∧ IsAlex C loops l) := fun x hx => ⟨l, by rw [hx], HI.out⟩
  obtain ⟨x, hx⟩ : ∃ x, Poly.atTo l (-1) l.length = x := ⟨_, rfl⟩
  have HX2 : Hid (∃ l, (.returned (.tuple #[.int .i64 (max x (-x)), .int .i64 0]) : Ending) = .returned (.tuple #[.int .i64 (max (Poly.atTo l (-1) l.length) (-(Poly.atTo l (-1) l.length))), .int .i64 0]) ∧ IsAlex C loops l) := HX.out x hx
  rw [hx] at HAT hat
  clear hx hP hI hb2 HX
  go_wp2_with (go_at_call 91; refine (HAT.out _ HP.out).mono ?_; rintro e9 w3 ⟨rfl, hb3⟩; refine Hid.out ?_)
  refine Lib.hid ?_
  have HB3 : Hid (Below w.heap.size w w3) := HB2.out.trans (hb3.mono HB2.out.size)
  clear hb3
  go_wp2
  go_ret2
  obtain ⟨l', e', hI'⟩ := HX2.out
  exact ⟨l', e', hI', HB3.out⟩
end Go.Proofs.Ytajmogojekichaa
