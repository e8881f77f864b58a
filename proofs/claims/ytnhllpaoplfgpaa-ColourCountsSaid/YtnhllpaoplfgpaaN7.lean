/- The walk of colour.Count. -/
import Derived.Test.YtnhllpaoplfgpaaX5rP
import Derived.Test.YtnhllpaoplfgpaaN5P
import Derived.Test.YtnhllpaoplfgpaaN6P
import Derived.Test.YtnhllpaoplfgpaaV4
namespace Go.Proofs.Ytnhllpaoplfgpaa
open Go.RowKit

set_option maxHeartbeats 4000000 in
set_option maxRecDepth 100000 in
theorem ways_empty (aq : Option Addr) (n cq : Nat) (ao : Option Addr) (co : Nat) (ar : Option Addr) (nr cr : Nat) (ac : Option Addr) (nc cc : Nat) (W : World) :
    Calls Try.prog 131 #[.agg #[.slice aq n cq, .slice ao 0 co, .slice ar nr cr, .slice ac nc cc], .int .i64 0] W fun e w' => e = .returned (.int .i64 1) ∧ Below W.heap.size W w' := by
  have HG : Hid (Below W.heap.size W (W.alloc (.cells #[.slice aq n cq, .slice ao 0 co, .slice ar nr cr, .slice ac nc cc] 166))) := (Below.refl _ _).alloc (Nat.le_refl _) _
  go_enter Try.func131, Try.ntmps131
  go_wp2
  go_ret
  exact ⟨rfl, HG.out⟩
theorem Paint.stat {wB w' : World} {m n : Nat} {q : Nat → Nat → Nat} {R : List (Nat × Nat × Nat)} {gR gC : Nat} {os : List Nat} {vo : Value} {vals : Nat → Value} {b off : Nat} {rb ro rc : Nat → Nat} (h : Paint wB m R gR gC os vo vals w') (hm : 0 < m) (hT : QT wB wB.heap.size b off n rb ro rc q) :
    ∃ bo co, vo = .slice (some ⟨bo, 0, none⟩) m co ∧ PStat w'.heap.size n m q R os vals b off rb ro rc bo gR gC w' ∧ ColAt m gC (fun _ => 0) w' := by
  obtain ⟨bo, co, e, hb1, hb2⟩ := own_block h.ord hm
  have hc := h.col.lt gC rfl
  have hr := h.rdy.lt gR rfl
  have ho := h.ord
  rw [e] at ho
  refine ⟨bo, co, e, ⟨hT.up h.bel, fun i hi => ?_, hb2, fun i hi => ?_, hr.2, fun j hj => own_rd (h.each j hj), ?_, fun i hi => ?_, by omega, fun e => ?_, fun j g hj hg => ?_, hc.2, Nat.le_refl _⟩, ?_⟩
  · rw [ho.cellAt i (by omega), nats_get _ i (by rw [h.len]; exact hi)]
  · rw [h.rdy.cellAt i (by omega), mapV_get _ _ _ hi]
  · have := hT.lt; omega
  · have := hT.rlt i hi; omega
  · rcases own_ne h.rdy h.col (by decide) with q | q
    · cases q
    · exact q (by rw [e])
  · rcases own_ne (h.each j hj) h.col (by decide) with q | q
    · rw [q] at hg; cases hg
    · intro e2
      exact q (by rw [hg, e2]; rfl)
  · have e2 : (List.range m).map (fun _ => 0) = List.replicate m 0 := by
      apply List.ext_getElem?
      intro j
      by_cases hj : j < m
      · simp [hj]
      · rw [List.getElem?_eq_none (by simp; omega), List.getElem?_eq_none (by simp; omega)]
    show w'.ownsRow 0 _ _ _ _ _
    rw [e2]
    exact own_low h.col (Nat.zero_le _)
theorem rootsN_tight (L : List Nat) (k : Nat) : rootsN L (k + 1) ≤ k := by
  induction k with
  | zero => simp [rootsN]
  | succ k ih =>
    have e : rootsN L (k + 1 + 1) = rootsN L (k + 1) + (if 1 ≤ k + 1 ∧ L.getD (k + 1) 0 = k + 1 then 1 else 0) := rfl
    rw [e]
    split <;> omega
theorem Paint.count {wB w' : World} {m n : Nat} {q : Nat → Nat → Nat} {R : List (Nat × Nat × Nat)} {gR gC : Nat} {os : List Nat} {vo : Value} {vals : Nat → Value} {b off cq : Nat} {rb ro rc : Nat → Nat} (h : Paint wB m R gR gC os vo vals w') (hT : QT wB wB.heap.size b off n rb ro rc q) (hn1 : 1 ≤ n) (hn : n ≤ 4) (hm : m ≤ 20) (hR : R.length ≤ 16) (hIn : ∀ r, r ∈ R → r.1 < m ∧ r.2.1 < m ∧ r.2.2 < m) :
    Calls Try.prog 131 #[.agg #[.slice (some ⟨b, off, none⟩) n cq, vo, .slice (some ⟨gR, 0, none⟩) m m, .slice (some ⟨gC, 0, none⟩) m m], .int .i64 0] w' fun e w'' => e = .returned (.int .i64 (paintN n q R [] os (fun _ => 0) : Nat)) ∧ Below wB.heap.size wB w'' := by
  by_cases h0 : 0 < m
  · obtain ⟨bo, co, rfl, hP, hC⟩ := h.stat h0 hT
    have hw := ways_any w'.heap.size n m q R os vals b off cq rb ro rc bo co gR gC hn1 hn hm hR hIn h.lt h.len h.nd os [] (fun _ => 0) w' rfl (fun _ _ => hn1) hP hC
    refine hw.mono fun e w'' ⟨f', e1, _, _, _, hg⟩ => ⟨e1, h.bel.grown hg h.bel.size (fun q hq => by have := Option.some.inj hq; have := (h.col.lt gC rfl).1; omega)⟩
  · obtain rfl : m = 0 := by omega
    have : os = [] := List.length_eq_zero_iff.1 h.len
    subst this
    obtain ⟨ao, co, rfl⟩ := own_capS h.ord
    refine (ways_empty _ _ _ ao co _ _ _ _ _ _ w').mono fun e w'' ⟨e1, hb⟩ => ⟨e1, h.bel.trans (hb.mono h.bel.size)⟩
/-- How many colourings the document counts. -/
def cntM (C : List Cr) (L : List (List Int)) : Nat := searchN L.length (chkA (qe L) C) (fromA 1 (2 * C.length)) (fun _ => 0)

set_option maxHeartbeats 4000000 in
set_option maxRecDepth 100000 in
theorem count_form (v vq : Value) (C : List Cr) (loops : Int) (L : List (List Int)) (w : World) (hT : ¬ TabQ L) (h : Crs w w.heap.size v C) (hq : IntsRd w w.heap.size vq L) :
    Calls Try.prog 63 #[.agg #[v, .int .i64 loops], vq] w fun e w' => e = .returned (.tuple #[.int .i64 0, .int .i64 1]) ∧ Below w.heap.size w w' := by
  obtain ⟨a, cap, rfl, -, -⟩ := h
  obtain ⟨aq, cq, eq⟩ := hq.len
  have HQ : Hid (IntsRd w w.heap.size vq L) := hq
  have HT : Hid (¬ TabQ L) := hT
  subst eq
  have HB1 : Hid (Below w.heap.size w (w.alloc (.cells #[.slice a C.length cap, .int .i64 loops] 44))) := (Below.refl _ _).alloc (Nat.le_refl _) _
  go_enter Try.func63, Try.ntmps63
  go_wp2_with (go_at_call 125; refine (tableOfColours_any _ L _ (HQ.out.up HB1.out)).mono ?_; rintro e9 w2 ⟨r, rfl, hr, hb2⟩; refine Hid.out ?_)
  refine Lib.hid ?_
  have HB2 : Hid (Below w.heap.size w w2) := HB1.out.trans (hb2.mono HB1.out.size)
  obtain rfl : r = false := by
    cases r with
    | false => rfl
    | true => exact absurd (hr.1 rfl) HT.out
  clear hb2 hr
  go_wp2
  go_ret2
  exact ⟨rfl, HB2.out⟩

set_option maxHeartbeats 4000000 in
set_option maxRecDepth 100000 in
theorem count_kind (v vq : Value) (C : List Cr) (loops : Int) (L : List (List Int)) (w : World) (hT : TabQ L) (hK : ¬ Qdl L.length (qe L)) (h : Crs w w.heap.size v C) (hq : IntsRd w w.heap.size vq L) :
    Calls Try.prog 63 #[.agg #[v, .int .i64 loops], vq] w fun e w' => e = .returned (.tuple #[.int .i64 0, .int .i64 6]) ∧ Below w.heap.size w w' := by
  obtain ⟨a, cap, rfl, -, -⟩ := h
  have HQ : Hid (IntsRd w w.heap.size vq L) := hq
  have HT : Hid (TabQ L) := hT
  have HK : Hid (¬ Qdl L.length (qe L)) := hK
  obtain ⟨b, off, cq, rb, ro, rc, eq, hqt⟩ := hq.qt hT
  have HQT : Hid (QT w w.heap.size b off L.length rb ro rc (qe L)) := hqt
  have h4 := hT.2.1
  have HQI : Hid (∀ i j, i < L.length → j < L.length → qe L i j < L.length) := fun i j hi hj => (HT.out.int i j hi hj).2
  subst eq
  clear hqt hq hK hT
  have HB1 : Hid (Below w.heap.size w (w.alloc (.cells #[.slice a C.length cap, .int .i64 loops] 44))) := (Below.refl _ _).alloc (Nat.le_refl _) _
  go_enter Try.func63, Try.ntmps63
  go_wp2_with (go_at_call 125; refine (tableOfColours_any _ L _ (HQ.out.up HB1.out)).mono ?_; rintro e9 w2 ⟨r, rfl, hr, hb2⟩; refine Hid.out ?_)
  refine Lib.hid ?_
  have HB2 : Hid (Below w.heap.size w w2) := HB1.out.trans (hb2.mono HB1.out.size)
  obtain rfl : r = true := hr.2 HT.out
  clear hb2 hr
  go_wp2_with (go_at_call 126; refine (quandle_any b off cq L.length rb ro rc (qe L) w2 h4 HQI.out (HQT.out.up HB2.out)).mono ?_; rintro e9 w3 ⟨r, rfl, hr, hb3⟩; refine Hid.out ?_)
  refine Lib.hid ?_
  have HB3 : Hid (Below w.heap.size w w3) := HB2.out.trans (hb3.mono HB2.out.size)
  obtain rfl : r = false := by
    cases r with
    | false => rfl
    | true => exact absurd (hr.1 rfl) HK.out
  clear hb3 hr
  go_wp2
  go_ret2
  exact ⟨rfl, HB3.out⟩

set_option maxHeartbeats 8000000 in
set_option maxRecDepth 100000 in
theorem count_yes (hFR : FaceRingsOk) (v vq : Value) (C : List Cr) (loops : Int) (L : List (List Int)) (w : World) (hT : TabQ L) (hK : Qdl L.length (qe L)) (hn : noN C loops = 0) (h10 : C.length ≤ 10) (hl4 : loops ≤ 4) (h : Crs w w.heap.size v C) (hq : IntsRd w w.heap.size vq L) :
    Calls Try.prog 63 #[.agg #[v, .int .i64 loops], vq] w fun e w' => e = .returned (.tuple #[.int .i64 (cntM C L * L.length ^ loops.toNat : Nat), .int .i64 0]) ∧ Below w.heap.size w w' := by
  have HC : Hid (Crs w w.heap.size v C) := h
  obtain ⟨hm, hpl⟩ := noN_zero hn
  have HM : Hid (mayD C loops = true) := hm
  have HPL : Hid (planarB C = true) := hpl
  have HFA : Hid FaceRingsOk := hFR
  obtain ⟨s1, s2, s3, s4⟩ := sizeB_iff (may_size hm)
  obtain ⟨a, cap, rfl, -, -⟩ := h
  have HQ : Hid (IntsRd w w.heap.size vq L) := hq
  have HT : Hid (TabQ L) := hT
  have HK : Hid (Qdl L.length (qe L)) := hK
  obtain ⟨b, off, cq, rb, ro, rc, eq, hqt⟩ := hq.qt hT
  have HQT : Hid (QT w w.heap.size b off L.length rb ro rc (qe L)) := hqt
  have h4 := hT.2.1
  have h1 := hT.1
  have HQI : Hid (∀ i j, i < L.length → j < L.length → qe L i j < L.length) := fun i j hi hj => (HT.out.int i j hi hj).2
  subst eq
  obtain ⟨w0, hw0⟩ : ∃ w0, w0 = w.alloc (.cells #[.slice a C.length cap, .int .i64 loops] 44) := ⟨_, rfl⟩
  have HW0 : Hid (w0 = w.alloc (.cells #[.slice a C.length cap, .int .i64 loops] 44)) := hw0
  have HB1 : Hid (Below w.heap.size w w0) := (by rw [hw0]; exact (Below.refl _ _).alloc (Nat.le_refl _) _ : Below w.heap.size w w0)
  have hs0 : w0.heap.size = w.heap.size + 1 := by rw [hw0]; simp
  have HT0 : Hid (w0.heap[w.heap.size]? = some (.cells #[.slice a C.length cap, .int .i64 loops] 44 (0, 0))) := (by rw [hw0]; exact alloc_at rfl : w0.heap[w.heap.size]? = some (.cells #[.slice a C.length cap, .int .i64 loops] 44 (0, 0)))
  clear hqt hq hK hT hw0 hm hpl hn hFR
  go_enter Try.func63, Try.ntmps63
  go_wp2_with (go_at_call 125; rw [← HW0.out]; refine (tableOfColours_any _ L _ (HQ.out.up HB1.out)).mono ?_; rintro e9 w2 ⟨r, rfl, hr, hb2⟩; refine Hid.out ?_)
  refine Lib.hid ?_
  have HB2 : Hid (Below w0.heap.size w0 w2) := hb2
  have HC2 : Hid (Below w.heap.size w w2) := HB1.out.trans (hb2.mono HB1.out.size)
  obtain rfl : r = true := hr.2 HT.out
  clear hb2 hr
  go_wp2_with (go_at_call 126; refine (quandle_any b off cq L.length rb ro rc (qe L) w2 h4 HQI.out (HQT.out.up HC2.out)).mono ?_; rintro e9 w3 ⟨r, rfl, hr, hb3⟩; refine Hid.out ?_)
  refine Lib.hid ?_
  obtain rfl : r = true := hr.2 HK.out
  have HB3 : Hid (Below w0.heap.size w0 w3) := HB2.out.trans (hb3.mono HB2.out.size)
  have HC3 : Hid (Below w.heap.size w w3) := HB1.out.trans (HB3.out.mono HB1.out.size)
  have t0 : w3.cell? ⟨w.heap.size, 0, none⟩ = some (.slice a C.length cap) := block_cell ((HB3.out.block _ (by omega)).trans HT0.out) rfl
  have t1 : w3.cell? ⟨w.heap.size, 1, none⟩ = some (.int .i64 loops) := block_cell ((HB3.out.block _ (by omega)).trans HT0.out) rfl
  have HCR : Hid (Crs w3 w3.heap.size (.slice a C.length cap) C) := HC.out.up HC3.out
  have hs3 := HB3.out.size
  clear hb3 hr
  go_wp2_with (go_at_call 127; refine (flat_yes HFA.out _ C loops _ HM.out HPL.out HCR.out).mono ?_; rintro e9 w4 ⟨a', cap', gF, cF, gT, cT, rfl, hdr, hb4⟩; refine Hid.out ?_)
  refine Lib.hid ?_
  have HDR : Hid (Dr w4 a' cap' C gF gT) := hdr
  unfold drV
  have HB4 : Hid (Below w.heap.size w w4) := HC3.out.trans (hb4.mono HC3.out.size)
  have hs4 := HB4.out.size
  obtain ⟨w5, hw5⟩ : ∃ W, W = w4.alloc (.cells #[.slice a' C.length cap', .int .i64 loops, .slice (some ⟨gF, 0, none⟩) (2 * C.length + 1) cF, .slice (some ⟨gT, 0, none⟩) (2 * C.length + 1) cT] 120) := ⟨_, rfl⟩
  have HW5 : Hid (w5 = w4.alloc (.cells #[.slice a' C.length cap', .int .i64 loops, .slice (some ⟨gF, 0, none⟩) (2 * C.length + 1) cF, .slice (some ⟨gT, 0, none⟩) (2 * C.length + 1) cT] 120)) := hw5
  have hb45 : Below w4.heap.size w4 w5 := by rw [hw5]; exact (Below.refl _ _).alloc (Nat.le_refl _) _
  have HQ5 : Hid (w5.heap[w4.heap.size]? = some (.cells #[.slice a' C.length cap', .int .i64 loops, .slice (some ⟨gF, 0, none⟩) (2 * C.length + 1) cF, .slice (some ⟨gT, 0, none⟩) (2 * C.length + 1) cT] 120 (0, 0))) := (by rw [hw5]; exact alloc_at rfl : w5.heap[w4.heap.size]? = some (.cells #[.slice a' C.length cap', .int .i64 loops, .slice (some ⟨gF, 0, none⟩) (2 * C.length + 1) cF, .slice (some ⟨gT, 0, none⟩) (2 * C.length + 1) cT] 120 (0, 0)))
  have HB45 : Hid (Below w4.heap.size w4 w5) := hb45
  have HB5 : Hid (Below w.heap.size w w5) := HB4.out.trans (hb45.mono HB4.out.size)
  have HD5 : Hid (Dr w5 a' cap' C gF gT) := HDR.out.on hb45
  have HOV : Hid (Calls Try.prog 128 #[drV a' cap' C loops gF cF gT cT] w5 fun e w' => ∃ g, e = .returned (.tuple #[.slice (some ⟨g, 0, none⟩) (2 * C.length + 1) (2 * C.length + 1), .int .i64 (ovC C : Nat)]) ∧ w'.ownsRow w5.heap.size 3 1 (.slice (some ⟨g, 0, none⟩) (2 * C.length + 1) (2 * C.length + 1)) (2 * C.length + 1) (nats (ovTo C (2 * C.length + 1))) ∧ Below w5.heap.size w5 w') := overpasses_any a' cap' C loops gF cF gT cT w5 HM.out HD5.out
  unfold drV at HOV
  have hz1 : decide ((10 : Int) < (C.length : Int)) = false := by simp; omega
  have hz2 : decide ((4 : Int) < loops) = false := by simp; omega
  have j1 : w5.cell? ⟨w4.heap.size, 1, none⟩ = some (.int .i64 loops) := block_cell HQ5.out rfl
  have j0 : w5.cell? ⟨w4.heap.size, 0, none⟩ = some (.slice a' C.length cap') := block_cell HQ5.out rfl
  have j2 : w5.cell? ⟨w4.heap.size, 2, none⟩ = some (.slice (some ⟨gF, 0, none⟩) (2 * C.length + 1) cF) := block_cell HQ5.out rfl
  have j3 : w5.cell? ⟨w4.heap.size, 3, none⟩ = some (.slice (some ⟨gT, 0, none⟩) (2 * C.length + 1) cT) := block_cell HQ5.out rfl
  clear hb4 hdr t0 t1 hb45 hw5
  go_wp2_with (go_at_call 128; rw [← HW5.out]; refine HOV.out.mono ?_; rintro e9 w6 ⟨g, rfl, hr6, hb6⟩; refine Hid.out ?_)
  refine Lib.hid ?_
  have HB56 : Hid (Below w5.heap.size w5 w6) := hb6
  have HB6 : Hid (Below w.heap.size w w6) := HB5.out.trans (hb6.mono HB5.out.size)
  have HR6 : Hid (w6.ownsRow 0 3 1 (.slice (some ⟨g, 0, none⟩) (2 * C.length + 1) (2 * C.length + 1)) (2 * C.length + 1) (nats (ovTo C (2 * C.length + 1)))) := own_low hr6 (Nat.zero_le _)
  have HD6 : Hid (Dr w6 a' cap' C gF gT) := HD5.out.on hb6
  have hs56 : w4.heap.size < w6.heap.size := by have := blk_lt HQ5.out; have := hb6.size; omega
  have HQ6 : Hid (∀ W, Below w6.heap.size w6 W → W.cell? ⟨w4.heap.size, 0, none⟩ = some (.slice a' C.length cap') ∧ W.cell? ⟨w4.heap.size, 1, none⟩ = some (.int .i64 loops) ∧ W.cell? ⟨w4.heap.size, 2, none⟩ = some (.slice (some ⟨gF, 0, none⟩) (2 * C.length + 1) cF) ∧ W.cell? ⟨w4.heap.size, 3, none⟩ = some (.slice (some ⟨gT, 0, none⟩) (2 * C.length + 1) cT)) := fun W hW => by
    have q := (hW.block _ hs56).trans ((HB56.out.block _ (blk_lt HQ5.out)).trans HQ5.out)
    exact ⟨block_cell q rfl, block_cell q rfl, block_cell q rfl, block_cell q rfl⟩
  clear hr6 hb6 j0 j1 j2 j3 HOV
  obtain ⟨j0, j1, j2, j3⟩ := HQ6.out w6 (Below.refl _ _)
  have hmc : ovC C ≤ 20 := Nat.le_trans (rootsN_tight (lowM C) (2 * C.length)) (by omega)
  have HRL : Hid ((rulesM C).length = C.length) := (by rw [rulesM_eq, List.length_map] : (rulesM C).length = C.length)
  have HIN : Hid (∀ r, r ∈ rulesM C → r.1 < ovC C ∧ r.2.1 < ovC C ∧ r.2.2 < ovC C) := fun r hr => by
    obtain ⟨c, hc, rfl⟩ := List.mem_map.1 hr
    obtain ⟨a1, a2, a3, -⟩ := arcs_of HM.out c hc
    have i1 := ovM_in HM.out _ a1.1 a1.2
    have i2 := ovM_in HM.out _ a2.1 a2.2
    have i3 := ovM_in HM.out _ a3.1 a3.2
    cases c.plus with
    | true => exact ⟨i1, i2, i3⟩
    | false => exact ⟨i3, i2, i1⟩
  have HRU : Hid (Calls Try.prog 130 #[drV a' cap' C loops gF cF gT cT, .slice (some ⟨g, 0, none⟩) (2 * C.length + 1) (2 * C.length + 1)] w6 fun e w' => ∃ v, e = .returned v ∧ w'.ownsRow w6.heap.size 231 3 v C.length (ruCells (rulesM C)) ∧ Below w6.heap.size w6 w') := rules_any a' cap' C loops gF cF gT cT g w6 HM.out HD6.out HR6.out
  unfold drV at HRU
  go_wp2_with (go_at_call 130; refine HRU.out.mono ?_; rintro e9 w7 ⟨vr, rfl, hr7, hb7⟩; refine Hid.out ?_)
  refine Lib.hid ?_
  have HB67 : Hid (Below w6.heap.size w6 w7) := hb7
  have HB7 : Hid (Below w.heap.size w w7) := HB6.out.trans (hb7.mono HB6.out.size)
  obtain ⟨ar, cr, rfl⟩ := own_capS hr7
  have hrd := own_rd hr7
  rw [← HRL.out] at hrd
  have HPL2 : Hid (Calls Try.prog 129 #[.slice ar (rulesM C).length cr, .int .i64 (ovC C : Nat), .slice (some ⟨b, off, none⟩) L.length cq] w7 (PlanOut w7 (ovC C) (rulesM C) (.slice (some ⟨b, off, none⟩) L.length cq))) := plan_any ar cr (rulesM C) (ovC C) (some ⟨b, off, none⟩) L.length cq w7 (by omega) (by rw [HRL.out]; exact s1) hrd HIN.out
  rw [HRL.out] at HPL2
  have HQ7 : Hid (QT w7 w7.heap.size b off L.length rb ro rc (qe L)) := HQT.out.up HB7.out
  clear hrd hr7 hb7 HRU
  go_wp2_with (go_at_call 129; refine HPL2.out.mono ?_; rintro e9 w8 ⟨gR, gC, os, vo, vals, rfl, hpt⟩; refine Hid.out ?_)
  refine Lib.hid ?_
  have HWY := hpt.count (cq := cq) HQ7.out h1 h4 hmc (by rw [HRL.out]; exact s1) HIN.out
  have hsame := count_same HM.out L.length (qe L) os (perm_of_all os (fromA 0 (ovC C)) hpt.nd (fun x hx => mem_fromA.2 ⟨Nat.zero_le _, by have := hpt.lt x hx; omega⟩) (by rw [hpt.len]; simp [fromA])) (fun _ => 0) (fun _ => 0)
  have hbd : cntM C L ≤ 1099511627776 := by
    have h2 := paint_le (q := qe L) (R := rulesM C) os [] (fun _ => 0) (n := L.length)
    rw [hsame] at h2
    exact Nat.le_trans h2 (pow_bound h4 (by rw [hpt.len]; exact hmc))
  obtain ⟨ao, co, rfl⟩ := own_capS hpt.ord
  have e1 : paintN L.length (qe L) (rulesM C) [] os (fun _ => 0) = cntM C L := hsame
  rw [e1] at HWY
  have HWW : Hid (Calls Try.prog 131 #[.agg #[.slice (some ⟨b, off, none⟩) L.length cq, .slice ao (ovC C) co, .slice (some ⟨gR, 0, none⟩) (ovC C) (ovC C), .slice (some ⟨gC, 0, none⟩) (ovC C) (ovC C)], .int .i64 0] w8 fun e w'' => e = .returned (.int .i64 (cntM C L : Nat)) ∧ Below w7.heap.size w7 w'') := HWY
  clear HWY hsame e1 hpt
  go_wp2_with (go_at_call 131; refine HWW.out.mono ?_; rintro e9 w9 ⟨rfl, hb9⟩; refine Hid.out ?_)
  refine Lib.hid ?_
  have HB69 : Hid (Below w6.heap.size w6 w9) := HB67.out.trans (hb9.mono HB67.out.size)
  have HB9 : Hid (Below w.heap.size w w9) := HB6.out.trans (HB69.out.mono HB6.out.size)
  clear hb9 j0 j1 j2 j3
  obtain ⟨j0, j1, j2, j3⟩ := HQ6.out w9 HB69.out
  obtain ⟨k, hk⟩ : ∃ k : Nat, loops = (k : Int) := ⟨loops.toNat, by omega⟩
  subst hk
  obtain ⟨M, hM⟩ : ∃ M, cntM C L = M := ⟨_, rfl⟩
  have HMM : Hid (cntM C L = M) := hM
  rw [hM] at hbd ⊢
  obtain ⟨n, hnn⟩ : ∃ n, L.length = n := ⟨_, rfl⟩
  have HNN : Hid (L.length = n) := hnn
  have HPB : Hid (∀ i, i ≤ 4 → M * n ^ i ≤ 281474976710656) := fun i hi => by
    have p1 : n ^ i ≤ 4 ^ 4 := Nat.le_trans (Nat.pow_le_pow_left (by omega) i) (Nat.pow_le_pow_right (by omega) hi)
    exact Nat.le_trans (Nat.mul_le_mul hbd p1) (by decide)
  have HEND : Hid (cntM C L * L.length ^ (k : Int).toNat = M * n ^ k) := (by rw [hM, hnn, Int.toNat_natCast] : cntM C L * L.length ^ (k : Int).toNat = M * n ^ k)
  have hkl : k ≤ 4 := by omega
  go_wp2
  rw [hnn] at h1 h4 ⊢
  clear hM hnn
  go_loopw [10, 51] (fun v10 v51 wr => ∃ i : Nat, i ≤ k ∧ v51 = .int .i64 (i : Nat) ∧ v10 = .int .i64 (M * n ^ i : Nat) ∧ Hid (Below w.heap.size w wr)) (fun _ v51 _ => k - (intOf v51).toNat)
  case atStart => exact ⟨0, Nat.zero_le _, rfl, by rw [Nat.pow_zero, Nat.mul_one], HB9.out⟩
  case round =>
    clear j0 j1 j2 j3
    rename World => W1
    obtain ⟨i, hik, rfl, rfl, hbl⟩ := hrel
    by_cases hil : i < k
    · have p1 := HPB.out i (by omega)
      have p2 := HPB.out (i + 1) (by omega)
      have HPS : Hid (M * n ^ (i + 1) = M * n ^ i * n) := (by rw [Nat.pow_succ, Nat.mul_assoc] : M * n ^ (i + 1) = M * n ^ i * n)
      rw [HPS.out] at p2
      obtain ⟨z, hz⟩ : ∃ z, M * n ^ i = z := ⟨_, rfl⟩
      rw [hz] at HPS p1 p2 ⊢
      obtain ⟨y, hy⟩ : ∃ y, z * n = y := ⟨_, rfl⟩
      have hyI : (z : Int) * (n : Int) = (y : Int) := by rw [← hy]; push_cast; rfl
      rw [hy] at HPS p2
      have ew : IntKind.i64.wrap ((z : Int) * (n : Int)) = (y : Int) := by rw [hyI]; exact IntWalk.i64_in _ (by omega)
      clear hz hy
      go_wp2
      go_roundw
      case rel => exact ⟨i + 1, by omega, by go_num, by rw [HPS.out], hbl.out⟩
      case measure => simp only [intOf]; omega
    · obtain rfl : i = k := by omega
      go_wp2
      go_ret2
      exact ⟨by rw [HEND.out]; rfl, hbl.out⟩

set_option maxHeartbeats 8000000 in
set_option maxRecDepth 100000 in
theorem count_no (hFR : FaceRingsOk) (v vq : Value) (C : List Cr) (loops : Int) (L : List (List Int)) (w : World) (hT : TabQ L) (hK : Qdl L.length (qe L)) (hn : noN C loops ≠ 0) (h : Crs w w.heap.size v C) (hq : IntsRd w w.heap.size vq L) :
    Calls Try.prog 63 #[.agg #[v, .int .i64 loops], vq] w fun e w' => e = .returned (.tuple #[.int .i64 0, .int .i64 (noN C loops)]) ∧ Below w.heap.size w w' := by
  have HC : Hid (Crs w w.heap.size v C) := h
  obtain ⟨a, cap, rfl, -, -⟩ := h
  have HF : Hid (∀ W, Crs W W.heap.size (.slice a C.length cap) C → Calls Try.prog 127 #[.agg #[.slice a C.length cap, .int .i64 loops]] W fun e w' => e = .returned (.tuple #[noDrawing, .int .i64 (noN C loops)]) ∧ Below W.heap.size W w') := fun W hW => flat_not hFR a cap C loops W hn hW
  generalize noN C loops = r at hn HF
  have hr0 : (r == 0) = false := beq_eq_false_iff_ne.2 hn
  have HQ : Hid (IntsRd w w.heap.size vq L) := hq
  have HT : Hid (TabQ L) := hT
  have HK : Hid (Qdl L.length (qe L)) := hK
  obtain ⟨b, off, cq, rb, ro, rc, eq, hqt⟩ := hq.qt hT
  have HQT : Hid (QT w w.heap.size b off L.length rb ro rc (qe L)) := hqt
  have h4 := hT.2.1
  have HQI : Hid (∀ i j, i < L.length → j < L.length → qe L i j < L.length) := fun i j hi hj => (HT.out.int i j hi hj).2
  subst eq
  obtain ⟨w0, hw0⟩ : ∃ w0, w0 = w.alloc (.cells #[.slice a C.length cap, .int .i64 loops] 44) := ⟨_, rfl⟩
  have HW0 : Hid (w0 = w.alloc (.cells #[.slice a C.length cap, .int .i64 loops] 44)) := hw0
  have HB1 : Hid (Below w.heap.size w w0) := (by rw [hw0]; exact (Below.refl _ _).alloc (Nat.le_refl _) _ : Below w.heap.size w w0)
  have hs0 : w0.heap.size = w.heap.size + 1 := by rw [hw0]; simp
  have HT0 : Hid (w0.heap[w.heap.size]? = some (.cells #[.slice a C.length cap, .int .i64 loops] 44 (0, 0))) := (by rw [hw0]; exact alloc_at rfl : w0.heap[w.heap.size]? = some (.cells #[.slice a C.length cap, .int .i64 loops] 44 (0, 0)))
  clear hqt hq hK hT hw0
  go_enter Try.func63, Try.ntmps63
  go_wp2_with (go_at_call 125; rw [← HW0.out]; refine (tableOfColours_any _ L _ (HQ.out.up HB1.out)).mono ?_; rintro e9 w2 ⟨r, rfl, hr, hb2⟩; refine Hid.out ?_)
  refine Lib.hid ?_
  have HB2 : Hid (Below w0.heap.size w0 w2) := hb2
  have HC2 : Hid (Below w.heap.size w w2) := HB1.out.trans (hb2.mono HB1.out.size)
  obtain rfl : r = true := hr.2 HT.out
  clear hb2 hr
  go_wp2_with (go_at_call 126; refine (quandle_any b off cq L.length rb ro rc (qe L) w2 h4 HQI.out (HQT.out.up HC2.out)).mono ?_; rintro e9 w3 ⟨r, rfl, hr, hb3⟩; refine Hid.out ?_)
  refine Lib.hid ?_
  obtain rfl : r = true := hr.2 HK.out
  have HB3 : Hid (Below w0.heap.size w0 w3) := HB2.out.trans (hb3.mono HB2.out.size)
  have HC3 : Hid (Below w.heap.size w w3) := HB1.out.trans (HB3.out.mono HB1.out.size)
  have t0 : w3.cell? ⟨w.heap.size, 0, none⟩ = some (.slice a C.length cap) := block_cell ((HB3.out.block _ (by omega)).trans HT0.out) rfl
  have t1 : w3.cell? ⟨w.heap.size, 1, none⟩ = some (.int .i64 loops) := block_cell ((HB3.out.block _ (by omega)).trans HT0.out) rfl
  have HCR : Hid (Crs w3 w3.heap.size (.slice a C.length cap) C) := HC.out.up HC3.out
  have hs3 := HB3.out.size
  clear hb3 hr
  go_wp2_with (go_at_call 127; refine (HF.out _ HCR.out).mono ?_; rintro e9 w4 ⟨rfl, hb4⟩; refine Hid.out ?_)
  refine Lib.hid ?_
  unfold noDrawing
  have HB4 : Hid (Below w.heap.size w w4) := HC3.out.trans (hb4.mono HC3.out.size)
  clear hb4
  go_wp2
  go_ret2
  exact ⟨rfl, HB4.out.alloc HB4.out.size _⟩

set_option maxHeartbeats 8000000 in
set_option maxRecDepth 100000 in
theorem count_size (hFR : FaceRingsOk) (v vq : Value) (C : List Cr) (loops : Int) (L : List (List Int)) (w : World) (hT : TabQ L) (hK : Qdl L.length (qe L)) (hn : noN C loops = 0) (hsz : 10 < C.length ∨ 4 < loops) (h : Crs w w.heap.size v C) (hq : IntsRd w w.heap.size vq L) :
    Calls Try.prog 63 #[.agg #[v, .int .i64 loops], vq] w fun e w' => e = .returned (.tuple #[.int .i64 0, .int .i64 2]) ∧ Below w.heap.size w w' := by
  have HC : Hid (Crs w w.heap.size v C) := h
  obtain ⟨hm, hpl⟩ := noN_zero hn
  have HM : Hid (mayD C loops = true) := hm
  have HPL : Hid (planarB C = true) := hpl
  have HFA : Hid FaceRingsOk := hFR
  obtain ⟨s1, s2, s3, s4⟩ := sizeB_iff (may_size hm)
  obtain ⟨a, cap, rfl, -, -⟩ := h
  have HQ : Hid (IntsRd w w.heap.size vq L) := hq
  have HT : Hid (TabQ L) := hT
  have HK : Hid (Qdl L.length (qe L)) := hK
  obtain ⟨b, off, cq, rb, ro, rc, eq, hqt⟩ := hq.qt hT
  have HQT : Hid (QT w w.heap.size b off L.length rb ro rc (qe L)) := hqt
  have h4 := hT.2.1
  have HQI : Hid (∀ i j, i < L.length → j < L.length → qe L i j < L.length) := fun i j hi hj => (HT.out.int i j hi hj).2
  subst eq
  obtain ⟨w0, hw0⟩ : ∃ w0, w0 = w.alloc (.cells #[.slice a C.length cap, .int .i64 loops] 44) := ⟨_, rfl⟩
  have HW0 : Hid (w0 = w.alloc (.cells #[.slice a C.length cap, .int .i64 loops] 44)) := hw0
  have HB1 : Hid (Below w.heap.size w w0) := (by rw [hw0]; exact (Below.refl _ _).alloc (Nat.le_refl _) _ : Below w.heap.size w w0)
  have hs0 : w0.heap.size = w.heap.size + 1 := by rw [hw0]; simp
  have HT0 : Hid (w0.heap[w.heap.size]? = some (.cells #[.slice a C.length cap, .int .i64 loops] 44 (0, 0))) := (by rw [hw0]; exact alloc_at rfl : w0.heap[w.heap.size]? = some (.cells #[.slice a C.length cap, .int .i64 loops] 44 (0, 0)))
  clear hqt hq hK hT hw0
  go_enter Try.func63, Try.ntmps63
  go_wp2_with (go_at_call 125; rw [← HW0.out]; refine (tableOfColours_any _ L _ (HQ.out.up HB1.out)).mono ?_; rintro e9 w2 ⟨r, rfl, hr, hb2⟩; refine Hid.out ?_)
  refine Lib.hid ?_
  have HB2 : Hid (Below w0.heap.size w0 w2) := hb2
  have HC2 : Hid (Below w.heap.size w w2) := HB1.out.trans (hb2.mono HB1.out.size)
  obtain rfl : r = true := hr.2 HT.out
  clear hb2 hr
  go_wp2_with (go_at_call 126; refine (quandle_any b off cq L.length rb ro rc (qe L) w2 h4 HQI.out (HQT.out.up HC2.out)).mono ?_; rintro e9 w3 ⟨r, rfl, hr, hb3⟩; refine Hid.out ?_)
  refine Lib.hid ?_
  obtain rfl : r = true := hr.2 HK.out
  have HB3 : Hid (Below w0.heap.size w0 w3) := HB2.out.trans (hb3.mono HB2.out.size)
  have HC3 : Hid (Below w.heap.size w w3) := HB1.out.trans (HB3.out.mono HB1.out.size)
  have t0 : w3.cell? ⟨w.heap.size, 0, none⟩ = some (.slice a C.length cap) := block_cell ((HB3.out.block _ (by omega)).trans HT0.out) rfl
  have t1 : w3.cell? ⟨w.heap.size, 1, none⟩ = some (.int .i64 loops) := block_cell ((HB3.out.block _ (by omega)).trans HT0.out) rfl
  have HCR : Hid (Crs w3 w3.heap.size (.slice a C.length cap) C) := HC.out.up HC3.out
  have hs3 := HB3.out.size
  clear hb3 hr
  go_wp2_with (go_at_call 127; refine (flat_yes HFA.out _ C loops _ HM.out HPL.out HCR.out).mono ?_; rintro e9 w4 ⟨a', cap', gF, cF, gT, cT, rfl, hdr, hb4⟩; refine Hid.out ?_)
  refine Lib.hid ?_
  unfold drV
  have HB4 : Hid (Below w.heap.size w w4) := HC3.out.trans (hb4.mono HC3.out.size)
  have HB5 : Hid (Below w.heap.size w (w4.alloc (.cells #[.slice a' C.length cap', .int .i64 loops, .slice (some ⟨gF, 0, none⟩) (2 * C.length + 1) cF, .slice (some ⟨gT, 0, none⟩) (2 * C.length + 1) cT] 120))) := HB4.out.alloc HB4.out.size _
  clear hb4 hdr t0 t1
  by_cases h10 : 10 < C.length
  · have hz1 : decide ((10 : Int) < (C.length : Int)) = true := by simp; omega
    go_wp2
    go_ret2
    exact ⟨rfl, HB5.out⟩
  · have hz1 : decide ((10 : Int) < (C.length : Int)) = false := by simp; omega
    have hz2 : decide ((4 : Int) < loops) = true := by simp; omega
    go_wp2
    go_ret2
    exact ⟨rfl, HB5.out⟩
end Go.Proofs.Ytnhllpaoplfgpaa
