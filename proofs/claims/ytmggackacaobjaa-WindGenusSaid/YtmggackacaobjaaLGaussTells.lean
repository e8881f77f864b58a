/- The law GaussTells: its walk. -/
import Derived.Test.YtmggackacaobjaaW9
namespace Go.Proofs.Ytmggackacaobjaa
open Go.RowKit

theorem visM_facts {C : List Cr} {loops : Int} (hm : mayD C loops = true) : (visM C).length ≤ 100 ∧ ∀ j, j < (visM C).length → ((visM C).getD j []).length ≤ 100 := by
  obtain ⟨s1, -, -, -⟩ := sizeB_iff (may_size hm)
  obtain ⟨h1, h2⟩ := walksM_facts hm
  have e : (visM C).length = (walksM C).length := by simp [visM]
  refine ⟨by omega, fun j hj => ?_⟩
  rw [e] at hj
  have e2 : (visM C).getD j [] = visL C ((walksM C).getD j []) := by
    unfold visM
    rw [List.getD_eq_getElem?_getD, List.getElem?_map, List.getD_eq_getElem?_getD, List.getElem?_eq_getElem hj]
    rfl
  rw [e2]
  have := (h2 j hj).2.1
  simp only [visL, List.length_map]
  omega
theorem slice_CrsW {w : World} {B : Nat} {v : Value} {C : List Cr} (h : CrsW w B v C) : ∃ a cap, v = .slice a C.length cap := by
  rcases h with ⟨rfl, rfl⟩ | ⟨ad, cap, rfl, rfl⟩ | ⟨b, off, cap, rfl, -, -⟩
  · exact ⟨_, _, rfl⟩
  · exact ⟨_, _, rfl⟩
  · exact ⟨_, _, rfl⟩
theorem slice_Crs {w : World} {B : Nat} {v : Value} {C : List Cr} (h : Crs w B v C) : ∃ a cap, v = .slice a C.length cap := by
  obtain ⟨a, cap, rfl, -, -⟩ := h
  exact ⟨a, cap, rfl⟩

set_option maxHeartbeats 8000000 in
set_option maxRecDepth 100000 in
theorem gaussTells_no (v : Value) (C : List Cr) (loops : Int) (w : World) (hl : C.length * 40 ≤ 140737488355328) (h : CrsW w w.heap.size v C) (hm : mayD C loops = false) :
    Calls Try.prog 3 #[.agg #[v, .int .i64 loops]] w fun e w' => e = .returned (.bool true) ∧ Below w.heap.size w w' := by
  have hn : C.length ≤ maxLen := by unfold maxLen; omega
  have HL : Hid (C.length * 40 ≤ 140737488355328) := hl
  have HM : Hid (mayD C loops = false) := hm
  obtain ⟨a, cap, rfl⟩ := slice_CrsW h
  obtain ⟨w0, hw0⟩ : ∃ w0, w0 = w.alloc (.cells #[.slice a C.length cap, .int .i64 loops] 24) := ⟨_, rfl⟩
  have HW0 : Hid (w0 = w.alloc (.cells #[.slice a C.length cap, .int .i64 loops] 24)) := hw0
  have hs0 : w0.heap.size = w.heap.size + 1 := by rw [hw0]; simp
  have HB0 : Hid (Below w.heap.size w w0) := (by rw [hw0]; exact (Below.refl _ _).alloc (Nat.le_refl _) _ : Below w.heap.size w w0)
  have HT0 : Hid (w0.heap[w.heap.size]? = some (.cells #[.slice a C.length cap, .int .i64 loops] 24 (0, 0))) := (by rw [hw0]; exact alloc_at rfl : w0.heap[w.heap.size]? = some (.cells #[.slice a C.length cap, .int .i64 loops] 24 (0, 0)))
  have HD0 : Hid (CrsW w0 w0.heap.size (.slice a C.length cap) C) := h.up HB0.out
  have HF : Hid (∀ w', Below w0.heap.size w0 w' → w'.cell? ⟨w.heap.size, 0, none⟩ = some (.slice a C.length cap) ∧ w'.cell? ⟨w.heap.size, 1, none⟩ = some (.int .i64 loops) ∧ w.heap.size < w'.heap.size) := fun w' hw' => by
    have g0 := (hw'.block _ (by omega)).trans HT0.out
    exact ⟨block_cell g0 rfl, block_cell g0 rfl, (Array.getElem?_eq_some_iff.1 g0).1⟩
  clear hw0 h hl hm hn
  go_enter Try.func3, Try.ntmps3
  go_wp2_with (go_at_call 20; rw [← HW0.out]; refine (diagramOf_any _ C loops _ HL.out HD0.out).mono ?_; rintro e9 w1 ⟨v1, rfl, hc1, hb1⟩; refine Hid.out ?_)
  refine Lib.hid ?_
  obtain ⟨a1, c1, rfl⟩ := slice_Crs hc1
  have HB1 : Hid (Below w0.heap.size w0 w1) := hb1
  have HC1 : Hid (Crs w1 w1.heap.size (.slice a1 C.length c1) C) := hc1
  clear hb1 hc1
  go_wp2_with (go_at_call 19; refine (strands_no _ C loops _ HM.out HC1.out).mono ?_; rintro e9 w2 ⟨rfl, hb2⟩; refine Hid.out ?_)
  refine Lib.hid ?_
  have HB2 : Hid (Below w0.heap.size w0 w2) := HB1.out.trans (hb2.mono HB1.out.size)
  have HD2 : Hid (CrsW w2 w2.heap.size (.slice a C.length cap) C) := HD0.out.up HB2.out
  obtain ⟨p0, p1, p2⟩ := HF.out w2 HB2.out
  clear hb2
  go_wp2_with (go_at_call 20; refine (diagramOf_any _ C loops _ HL.out HD2.out).mono ?_; rintro e9 w3 ⟨v3, rfl, hc3, hb3⟩; refine Hid.out ?_)
  refine Lib.hid ?_
  obtain ⟨a3, c3, rfl⟩ := slice_Crs hc3
  have HB3 : Hid (Below w0.heap.size w0 w3) := HB2.out.trans (hb3.mono HB2.out.size)
  have HC3 : Hid (Crs w3 w3.heap.size (.slice a3 C.length c3) C) := hc3
  clear hb3 hc3 p0 p1 p2
  go_wp2_with (go_at_call 21; refine (gauss_no _ C loops _ HM.out HC3.out).mono ?_; rintro e9 w4 ⟨rfl, hb4⟩; refine Hid.out ?_)
  refine Lib.hid ?_
  have HB4 : Hid (Below w0.heap.size w0 w4) := HB3.out.trans (hb4.mono HB3.out.size)
  have HD4 : Hid (Crs w4 w4.heap.size (.slice a C.length cap) C) := (HD0.out.up HB4.out).crs (by have := HL.out; unfold maxLen; omega)
  obtain ⟨p0, p1, p2⟩ := HF.out w4 HB4.out
  clear hb4
  go_wp2_with (go_at_call 22; refine (may17_any _ C loops _ HD4.out).mono ?_; rw [HM.out]; rintro e9 w5 ⟨rfl, hb5⟩; refine Hid.out ?_)
  refine Lib.hid ?_
  have HB5 : Hid (Below w0.heap.size w0 w5) := HB4.out.trans (hb5.mono HB4.out.size)
  clear hb5 p0 p1 p2
  go_wp2
  go_ret
  exact ⟨rfl, HB0.out.trans (HB5.out.mono HB0.out.size)⟩

set_option maxHeartbeats 8000000 in
set_option maxRecDepth 100000 in
theorem gaussTells_yes (v : Value) (C : List Cr) (loops : Int) (w : World) (hl : C.length * 40 ≤ 140737488355328) (h : CrsW w w.heap.size v C) (hm : mayD C loops = true) :
    Calls Try.prog 3 #[.agg #[v, .int .i64 loops]] w fun e w' => e = .returned (.bool true) ∧ Below w.heap.size w w' := by
  have hn : C.length ≤ maxLen := by unfold maxLen; omega
  have HL : Hid (C.length * 40 ≤ 140737488355328) := hl
  have HM : Hid (mayD C loops = true) := hm
  obtain ⟨s16, -, -, -⟩ := sizeB_iff (may_size hm)
  have HVF : Hid ((visM C).length ≤ 100 ∧ ∀ j, j < (visM C).length → ((visM C).getD j []).length ≤ 100) := visM_facts hm
  have HWF : Hid ((walksM C).length ≤ 2 * C.length ∧ ∀ j, j < (walksM C).length → 0 < ((walksM C).getD j []).length ∧ ((walksM C).getD j []).length ≤ 2 * C.length + 1 ∧ ∀ i, i < ((walksM C).getD j []).length → 1 ≤ ((walksM C).getD j []).getD i 0 ∧ ((walksM C).getD j []).getD i 0 ≤ 2 * C.length) := walksM_facts hm
  obtain ⟨a, cap, rfl⟩ := slice_CrsW h
  obtain ⟨w0, hw0⟩ : ∃ w0, w0 = w.alloc (.cells #[.slice a C.length cap, .int .i64 loops] 24) := ⟨_, rfl⟩
  have HW0 : Hid (w0 = w.alloc (.cells #[.slice a C.length cap, .int .i64 loops] 24)) := hw0
  have hs0 : w0.heap.size = w.heap.size + 1 := by rw [hw0]; simp
  have HB0 : Hid (Below w.heap.size w w0) := (by rw [hw0]; exact (Below.refl _ _).alloc (Nat.le_refl _) _ : Below w.heap.size w w0)
  have HT0 : Hid (w0.heap[w.heap.size]? = some (.cells #[.slice a C.length cap, .int .i64 loops] 24 (0, 0))) := (by rw [hw0]; exact alloc_at rfl : w0.heap[w.heap.size]? = some (.cells #[.slice a C.length cap, .int .i64 loops] 24 (0, 0)))
  have HD0 : Hid (CrsW w0 w0.heap.size (.slice a C.length cap) C) := h.up HB0.out
  have HF : Hid (∀ w', Below w0.heap.size w0 w' → w'.cell? ⟨w.heap.size, 0, none⟩ = some (.slice a C.length cap) ∧ w'.cell? ⟨w.heap.size, 1, none⟩ = some (.int .i64 loops) ∧ w.heap.size < w'.heap.size) := fun w' hw' => by
    have g0 := (hw'.block _ (by omega)).trans HT0.out
    exact ⟨block_cell g0 rfl, block_cell g0 rfl, (Array.getElem?_eq_some_iff.1 g0).1⟩
  clear hw0 h hl hm hn
  go_enter Try.func3, Try.ntmps3
  go_wp2_with (go_at_call 20; rw [← HW0.out]; refine (diagramOf_any _ C loops _ HL.out HD0.out).mono ?_; rintro e9 w1 ⟨v1, rfl, hc1, hb1⟩; refine Hid.out ?_)
  refine Lib.hid ?_
  obtain ⟨a1, c1, rfl⟩ := slice_Crs hc1
  have HB1 : Hid (Below w0.heap.size w0 w1) := hb1
  have HC1 : Hid (Crs w1 w1.heap.size (.slice a1 C.length c1) C) := hc1
  clear hb1 hc1
  go_wp2_with (go_at_call 19; refine (strands_yes _ C loops _ HM.out HC1.out).mono ?_; rintro e9 w2 ⟨r, rfl, hr, hb2⟩; refine Hid.out ?_)
  refine Lib.hid ?_
  have HR2 : Hid (WksAt w2 r (walksM C)) := hr.wks
  have HB2 : Hid (Below w0.heap.size w0 w2) := HB1.out.trans (hb2.mono HB1.out.size)
  have HD2 : Hid (CrsW w2 w2.heap.size (.slice a C.length cap) C) := HD0.out.up HB2.out
  obtain ⟨p0, p1, p2⟩ := HF.out w2 HB2.out
  clear hb2 hr
  go_wp2_with (go_at_call 20; refine (diagramOf_any _ C loops _ HL.out HD2.out).mono ?_; rintro e9 w3 ⟨v3, rfl, hc3, hb3⟩; refine Hid.out ?_)
  refine Lib.hid ?_
  obtain ⟨a3, c3, rfl⟩ := slice_Crs hc3
  have HB3 : Hid (Below w0.heap.size w0 w3) := HB2.out.trans (hb3.mono HB2.out.size)
  have HR3 : Hid (WksAt w3 r (walksM C)) := HR2.out.on hb3
  have HC3 : Hid (Crs w3 w3.heap.size (.slice a3 C.length c3) C) := hc3
  clear hb3 hc3 p0 p1 p2
  go_wp2_with (go_at_call 21; refine (gauss_yes _ C loops _ HM.out HC3.out).mono ?_; rintro e9 w4 ⟨rl, rp, rfl, hrl, hrp, hb4⟩; refine Hid.out ?_)
  refine Lib.hid ?_
  have HB4 : Hid (Below w0.heap.size w0 w4) := HB3.out.trans (hb4.mono HB3.out.size)
  have HR4 : Hid (WksAt w4 r (walksM C)) := HR3.out.on hb4
  have HV4 : Hid (VsAt w4 rl (visM C)) := hrl.vs
  have HP4 : Hid (Slots w4 w4.heap.size rp (bools (plusM C))) := (slots_of_own (n := C.length) hrp : Slots w4 w4.heap.size rp (bools (plusM C)))
  have HD4 : Hid (Crs w4 w4.heap.size (.slice a C.length cap) C) := (HD0.out.up HB4.out).crs (by have := HL.out; unfold maxLen; omega)
  obtain ⟨p0, p1, p2⟩ := HF.out w4 HB4.out
  clear hb4 hrl hrp
  go_wp2_with (go_at_call 22; refine (may17_any _ C loops _ HD4.out).mono ?_; rw [HM.out]; rintro e9 w5 ⟨rfl, hb5⟩; refine Hid.out ?_)
  refine Lib.hid ?_
  have HB5 : Hid (Below w0.heap.size w0 w5) := HB4.out.trans (hb5.mono HB4.out.size)
  have HR5 : Hid (WksAt w5 r (walksM C)) := HR4.out.on hb5
  have HV5 : Hid (VsAt w5 rl (visM C)) := HV4.out.on hb5
  have HP5 : Hid (Slots w5 w5.heap.size rp (bools (plusM C))) := (HP4.out.on hb5).mono hb5.size
  have HD5 : Hid (Crs w5 w5.heap.size (.slice a C.length cap) C) := HD4.out.up hb5
  clear hb5 p0 p1 p2
  obtain ⟨p0, p1, p2⟩ := HF.out w5 HB5.out
  go_wp2_with (go_at_call 23; refine (strandsOf_any a cap C loops _ HM.out HD5.out).mono ?_; rintro e9 w6 ⟨t, rfl, ht, hb6⟩; refine Hid.out ?_)
  refine Lib.hid ?_
  have HB6 : Hid (Below w0.heap.size w0 w6) := HB5.out.trans (hb6.mono HB5.out.size)
  have HR6 : Hid (WksAt w6 r (walksM C)) := HR5.out.on hb6
  have HT6 : Hid (WksAt w6 t (walksM C)) := ht.wks
  have HV6 : Hid (VsAt w6 rl (visM C)) := HV5.out.on hb6
  have HP6 : Hid (Slots w6 w6.heap.size rp (bools (plusM C))) := (HP5.out.on hb6).mono hb6.size
  have HD6 : Hid (Crs w6 w6.heap.size (.slice a C.length cap) C) := HD5.out.up hb6
  clear hb6 ht p0 p1 p2 HR2 HR3 HR4 HR5 HV4 HV5 HP4 HP5 HD4 HD5
  obtain ⟨ys, hyl, ⟨ar, cr, rfl, gr⟩, hwr⟩ := HR6.out
  obtain ⟨zs, hzl, ⟨at', ct, rfl, gt⟩, hwt⟩ := HT6.out
  rw [hyl] at gr ⊢
  rw [hzl] at gt ⊢
  have HGR : Hid (0 < (walksM C).length → ∃ b off, ar = some ⟨b, off, none⟩ ∧ b < w6.heap.size ∧ ∀ i, i < (walksM C).length → w6.cell? ⟨b, off + i, none⟩ = some (ys.getD i (.bool false))) := gr
  have HGT : Hid (0 < (walksM C).length → ∃ b off, at' = some ⟨b, off, none⟩ ∧ b < w6.heap.size ∧ ∀ i, i < (walksM C).length → w6.cell? ⟨b, off + i, none⟩ = some (zs.getD i (.bool false))) := gt
  have HWR : Hid (∀ j, j < (walksM C).length → Slots w6 w6.heap.size (ys.getD j (.bool false)) (nats ((walksM C).getD j []))) := hwr
  have HWT : Hid (∀ j, j < (walksM C).length → Slots w6 w6.heap.size (zs.getD j (.bool false)) (nats ((walksM C).getD j []))) := hwt
  have hlw : (walksM C).length ≤ 2 * C.length := HWF.out.1
  have HWL : Hid (∀ j, j < (walksM C).length → ((walksM C).getD j []).length ≤ 100) := fun j hj => by have := (HWF.out.2 j hj).2.1; omega
  clear gr gt hwr hwt HR6 HT6 hyl hzl HWF
  obtain ⟨L, hL⟩ : ∃ L, walksM C = L := ⟨_, rfl⟩
  rw [hL] at hlw HGR HGT HWR HWT HWL ⊢
  clear hL
  have hne : ((L.length : Int) != (L.length : Int)) = false := by simp
  go_wp2
  go_loopw [9] (fun v9 wr => ∃ k : Nat, k ≤ L.length ∧ v9 = .int .i64 k ∧ Below w6.heap.size w6 wr) (fun v9 _ => L.length - (intOf v9).toNat)
  case atStart => exact ⟨0, Nat.zero_le _, rfl, Below.refl _ _⟩
  case round =>
    rename World => W1
    obtain ⟨k, hk, rfl, hb⟩ := hrel
    have hszW := hb.size
    by_cases hlt : k < L.length
    · obtain ⟨b1, o1, rfl, hb1, q1⟩ := HGR.out (by omega)
      obtain ⟨b2, o2, rfl, hb2, q2⟩ := HGT.out (by omega)
      obtain ⟨r1, d1, e1, -⟩ := HWR.out k hlt
      obtain ⟨r2, d2, e2, -⟩ := HWT.out k hlt
      have S1 : Hid (Slots w6 w6.heap.size (.slice r1 (nats (L.getD k [])).length d1) (nats (L.getD k []))) := (by rw [← e1]; exact HWR.out k hlt : Slots w6 w6.heap.size (.slice r1 (nats (L.getD k [])).length d1) (nats (L.getD k [])))
      have S2 : Hid (Slots w6 w6.heap.size (.slice r2 (nats (L.getD k [])).length d2) (nats (L.getD k []))) := (by rw [← e2]; exact HWT.out k hlt : Slots w6 w6.heap.size (.slice r2 (nats (L.getD k [])).length d2) (nats (L.getD k [])))
      have Q1 : Hid (w6.cell? ⟨b1, o1 + k, none⟩ = some (.slice r1 (nats (L.getD k [])).length d1)) := (by rw [← e1]; exact q1 k hlt : w6.cell? ⟨b1, o1 + k, none⟩ = some (.slice r1 (nats (L.getD k [])).length d1))
      have Q2 : Hid (w6.cell? ⟨b2, o2 + k, none⟩ = some (.slice r2 (nats (L.getD k [])).length d2)) := (by rw [← e2]; exact q2 k hlt : w6.cell? ⟨b2, o2 + k, none⟩ = some (.slice r2 (nats (L.getD k [])).length d2))
      have hlr := HWL.out k hlt
      clear q1 q2 e1 e2
      generalize L.getD k [] = wk at S1 S2 Q1 Q2 hlr
      have hb1w : b1 < W1.heap.size := by omega
      have hb2w : b2 < W1.heap.size := by omega
      have HF2 : Hid (∀ w', Below w6.heap.size w6 w' → w'.cell? ⟨b1, o1 + k, none⟩ = some (.slice r1 (nats wk).length d1) ∧ w'.cell? ⟨b2, o2 + k, none⟩ = some (.slice r2 (nats wk).length d2)) := fun w' hw' => ⟨bcell hw' hb1 Q1.out, bcell hw' hb2 Q2.out⟩
      have HDW : Hid (Below w6.heap.size w6 W1.drew) := hb.drew
      obtain ⟨t0, t1⟩ := HF2.out W1 hb
      have n0 : (0 : Int) ≤ (k : Int) := by omega
      have n1 : (k : Int) < (L.length : Int) := by omega
      go_wp2
      go_region_held3 (fun w' => w'.cell? ⟨b1, o1 + k, none⟩ = some (.slice r1 (nats wk).length d1) ∧ w'.cell? ⟨b2, o2 + k, none⟩ = some (.slice r2 (nats wk).length d2)) (first | exact HF2.out _ HA.out | exact HF2.out _ HDW.out | exact HF2.out _ hb) (first
        | (go_at_call 24; refine (sameInts_eq _ _ wk _ hlr ((S1.out.on HDW.out).mono HDW.out.size) ((S2.out.on HDW.out).mono HDW.out.size)).mono ?_; rintro e9 wA ⟨rfl, hbA⟩
           have HA : Hid (Below w6.heap.size w6 wA) := HDW.out.trans (hbA.mono HDW.out.size)
           clear hbA))
      all_goals
        go_wp2
        go_roundw
      all_goals first | (simp only [intOf]; omega) | skip
      all_goals exact ⟨k + 1, by omega, by go_num, HA.out⟩
    · obtain rfl : k = L.length := by omega
      have HB7 : Hid (Below w0.heap.size w0 W1) := HB6.out.trans (hb.mono HB6.out.size)
      have HV7 : Hid (VsAt W1 rl (visM C)) := HV6.out.on hb
      have HP7 : Hid (Slots W1 W1.heap.size rp (bools (plusM C))) := (HP6.out.on hb).mono hb.size
      have HD7 : Hid (Crs W1 W1.heap.size (.slice a C.length cap) C) := HD6.out.up hb
      obtain ⟨p0, p1, p2⟩ := HF.out W1 HB7.out
      clear hb
      go_wp2_with (go_at_call 25; refine (visitsOf_any a cap C loops _ HM.out HD7.out).mono ?_; rintro e9 w8 ⟨m1, m2, rfl, hm1, hm2, hb8⟩; refine Hid.out ?_)
      refine Lib.hid ?_
      have HB8 : Hid (Below w0.heap.size w0 w8) := HB7.out.trans (hb8.mono HB7.out.size)
      have HV8 : Hid (VsAt w8 rl (visM C)) := HV7.out.on hb8
      have HP8 : Hid (Slots w8 w8.heap.size rp (bools (plusM C))) := (HP7.out.on hb8).mono hb8.size
      have HM1 : Hid (VsAt w8 m1 (visM C)) := hm1.vs
      have HM2 : Hid (Slots w8 w8.heap.size m2 (bools (plusM C))) := (slots_of_own hm2 : Slots w8 w8.heap.size m2 (bools (plusM C)))
      clear hb8 hm1 hm2 p0 p1 p2
      have hpl : (plusM C).length ≤ 100 := by simp only [plusM, List.length_map]; omega
      go_wp2_with (first
        | (go_at_call 26; refine (sameVisits_eq _ _ (visM C) _ HVF.out.1 HVF.out.2 HV8.out HM1.out).mono ?_; rintro e9 w9 ⟨rfl, hb9⟩; refine Hid.out ?_))
      refine Lib.hid ?_
      have HB9 : Hid (Below w0.heap.size w0 w9) := HB8.out.trans (hb9.mono HB8.out.size)
      have HP9 : Hid (Slots w9 w9.heap.size rp (bools (plusM C))) := (HP8.out.on hb9).mono hb9.size
      have HM9 : Hid (Slots w9 w9.heap.size m2 (bools (plusM C))) := (HM2.out.on hb9).mono hb9.size
      clear hb9
      go_wp2_with (first
        | (go_at_call 27; refine (sameSides_eq _ _ (plusM C) _ hpl HP9.out HM9.out).mono ?_; rintro e9 wA ⟨rfl, hbA⟩; refine Hid.out ?_))
      refine Lib.hid ?_
      have HBA : Hid (Below w0.heap.size w0 wA) := HB9.out.trans (hbA.mono HB9.out.size)
      clear hbA
      go_wp2
      go_ret
      exact ⟨rfl, HB0.out.trans (HBA.out.mono HB0.out.size)⟩

theorem gaussTells_any (v : Value) (C : List Cr) (loops : Int) (w : World) (hl : C.length * 40 ≤ 140737488355328) (h : CrsW w w.heap.size v C) :
    Calls Try.prog 3 #[.agg #[v, .int .i64 loops]] w fun e w' => e = .returned (.bool true) ∧ Below w.heap.size w w' := by
  cases hm : mayD C loops with
  | false => exact gaussTells_no v C loops w hl h hm
  | true => exact gaussTells_yes v C loops w hl h hm
end Go.Proofs.Ytmggackacaobjaa
