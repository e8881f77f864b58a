/- The walk of ref.BuildOf. -/
import Derived.Test.YtmggackacaobjaaB6
import Derived.Deep.RegionLaw
import Derived.Test.YtmggackacaobjaaS2
import Derived.Test.YtmggackacaobjaaB7
namespace Go.Proofs.Ytmggackacaobjaa
open Go.RowKit

/-- Is it empty, of the first j rows. -/
def em (n : Nat) (loops : Int) (L : List Vi) : Nat → Bool
  | 0 => decide (n = 0) && decide (loops = 0)
  | j + 1 => em n loops L j || decide ((L.getD j []).length = 0)

/-- make, as one step of a region that draws; the new block under a letter. -/
theorem step_make_full {P : Program} {ops : Array Oper} {o : Oper} {a : Act} {w : World} {K : Act → World → Prop} {Q : Exit → Act → World → Prop} {E : Prop}
    (hg : o.guard = none) (l c : Operand) (t : TypeId) (hop : o.op = Op.makeSlice t l c)
    (base : Nat) (e : TypeId) (i : TypeInfo) (z : Value) (size : Nat) (h1 : P.underlying t = some (.slice e)) (h2 : P.info? e = some i) (h3 : i.zero = some z) (h4 : i.size = size)
    (n : Nat) (hl : a.eval l = .int .i64 (n : Int)) (hc : a.eval c = .int .i64 (n : Int)) (b2 : i.bytes * n ≤ 281474976710656) (b3 : n ≤ maxLen) (b4 : base ≤ w.heap.size)
    (h : ∀ g w', g = w.heap.size → w'.ownsRow base e size (.slice (some ⟨g, 0, none⟩) n n) n (madeCells z.cells (n * size)).toList → w.grownBy w' none → K (a.put o.dst (.slice (some ⟨g, 0, none⟩) n n)) w') :
    if Region.wanted o (yielded ops a.tmps) = true then Oper.wp P o a w K Q else E := by
  have hw : Region.wanted o (yielded ops a.tmps) = true := by simp [Region.wanted, hg]
  rw [if_pos hw]
  obtain ⟨w', hrun, r1, r2⟩ := run_make_full (P := P) w base t e i z size h1 h2 h3 h4 .i64 .i64 n b2 b3 b4
  unfold Oper.wp
  simp [execOp, hop, hl, hc, hrun, Result.andThen]
  exact h _ _ rfl r1 r2

theorem em_true {n : Nat} {loops : Int} {L : List Vi} : ∀ {j : Nat}, em n loops L j = true → (n = 0 ∧ loops = 0) ∨ ∃ q, q < j ∧ (L.getD q []).length = 0
  | 0, h => Or.inl (by simpa [em] using h)
  | j + 1, h => by
    rw [em, Bool.or_eq_true] at h
    rcases h with h | h
    · rcases em_true h with h2 | ⟨q, h2, h3⟩
      · exact Or.inl h2
      · exact Or.inr ⟨q, by omega, h3⟩
    · exact Or.inr ⟨j, by omega, by simpa using h⟩
theorem em_false {n : Nat} {loops : Int} {L : List Vi} : ∀ {j : Nat}, em n loops L j = false → ¬ (n = 0 ∧ loops = 0) ∧ ∀ q, q < j → 0 < (L.getD q []).length
  | 0, h => ⟨fun h2 => by simp [em, h2.1, h2.2] at h, fun q hq => absurd hq (Nat.not_lt_zero _)⟩
  | j + 1, h => by
    rw [em, Bool.or_eq_false_iff] at h
    obtain ⟨h1, h2⟩ := em_false h.1
    refine ⟨h1, fun q hq => ?_⟩
    by_cases e : q = j
    · subst e
      have h3 := h.2
      rw [decide_eq_false_iff_not] at h3
      omega
    · exact h2 q (by omega)

/-- The signs of the first c crossings. -/
def sg (P : List Bool) (c : Nat) : List Cr := (List.range c).map fun q => { Cr.none with plus := P.getD q false }
theorem sg_len (P : List Bool) (c : Nat) : (sg P c).length = c := by simp [sg]
theorem sg_next (P : List Bool) (c : Nat) : sg P (c + 1) = sg P c ++ [{ Cr.none with plus := P.getD c false }] := by
  simp [sg, List.range_succ]
theorem sg_all (P : List Bool) : sg P P.length = signC P P.length := by
  unfold sg signC
  apply List.map_congr_left
  intro q hq
  rw [if_pos (List.mem_range.1 hq)]

theorem cntA_set (n : Nat) (V : Vi) (c : Nat) (o : Bool) : (mapR n fun q => cntV V q o).set c (inc (cntV V c o)) = mapR n fun q => cntV (V ++ [((c : Int), o)]) q o := by
  refine mapR_set _ _ _ _ _ fun q _ => ?_
  rw [cntV_snoc]
  by_cases e : q = c
  · subst e; simp
  · rw [if_neg e, if_neg]
    rintro ⟨h1, -⟩
    simp only at h1
    omega
theorem cntA_other (n : Nat) (V : Vi) (c : Nat) (o o' : Bool) (h : o ≠ o') : (mapR n fun q => cntV (V ++ [((c : Int), o)]) q o') = mapR n fun q => cntV V q o' := by
  unfold mapR
  apply List.map_congr_left
  intro q _
  rw [cntV_snoc, if_neg]
  rintro ⟨-, h2⟩
  exact h h2
/-- Where BuildOf stands while it counts. -/
structure CtAt (w : World) (gA gB n : Nat) (V : Vi) (W : World) : Prop where
  ra : W.ownsRow (w.heap.size + 1) 3 1 (.slice (some ⟨gA, 0, none⟩) n n) n (intsV (mapR n fun q => cntV V q true))
  rb : W.ownsRow (w.heap.size + 1) 3 1 (.slice (some ⟨gB, 0, none⟩) n n) n (intsV (mapR n fun q => cntV V q false))
  tb : W.heap[w.heap.size]? = some (.cells #[.slice none 0 0, .int .i64 0] 24 (0, 0))
  bel : Below w.heap.size w W
theorem CtAt.alloc {w : World} {gA gB n : Nat} {V : Vi} {W : World} (h : CtAt w gA gB n V W) (o : Obj) : CtAt w gA gB n V (W.alloc o) :=
  ⟨h.ra.alloc o, h.rb.alloc o, alloc_old h.tb, h.bel.alloc h.bel.size o⟩
theorem CtAt.above {w : World} {gA gB n : Nat} {V : Vi} {W : World} (h : CtAt w gA gB n V W) (hne : gA ≠ gB) (c : Nat) : CtAt w gA gB n (V ++ [((c : Int), true)]) (W.setCell ⟨gA, c, none⟩ (.int .i64 (inc (cntV V c true)))) := by
  have hst := h.ra.stored c (.int .i64 (inc (cntV V c true)))
  rw [intsV_set, cntA_set] at hst
  have hl := (h.ra.lt gA rfl).1
  exact ⟨hst.1, by rw [cntA_other n V c true false (by simp)]; exact h.rb.kept hst.2 (Or.inr (fun e => hne (Option.some.inj e).symm)), (hst.2.block _ (Array.getElem?_eq_some_iff.1 h.tb).1 (fun e => by have : w.heap.size = gA := Option.some.inj e; omega)).trans h.tb, h.bel.grown hst.2 h.bel.size (fun q hq => by have : gA = q := Option.some.inj hq; omega)⟩
theorem CtAt.below {w : World} {gA gB n : Nat} {V : Vi} {W : World} (h : CtAt w gA gB n V W) (hne : gA ≠ gB) (c : Nat) : CtAt w gA gB n (V ++ [((c : Int), false)]) (W.setCell ⟨gB, c, none⟩ (.int .i64 (inc (cntV V c false)))) := by
  have hst := h.rb.stored c (.int .i64 (inc (cntV V c false)))
  rw [intsV_set, cntA_set] at hst
  have hl := (h.rb.lt gB rfl).1
  exact ⟨by rw [cntA_other n V c false true (by simp)]; exact h.ra.kept hst.2 (Or.inr (fun e => hne (Option.some.inj e))), hst.1, (hst.2.block _ (Array.getElem?_eq_some_iff.1 h.tb).1 (fun e => by have : w.heap.size = gB := Option.some.inj e; omega)).trans h.tb, h.bel.grown hst.2 h.bel.size (fun q hq => by have : gB = q := Option.some.inj hq; omega)⟩
theorem CtAt.atA {w : World} {gA gB n : Nat} {V : Vi} {W : World} (h : CtAt w gA gB n V W) (c : Nat) (hc : c < n) : W.cell? ⟨gA, c, none⟩ = some (.int .i64 (cntV V c true)) := by
  rw [h.ra.cellAt c (by omega), intsV, List.getElem?_map, mapR_get _ _ _ hc]; rfl
theorem CtAt.atB {w : World} {gA gB n : Nat} {V : Vi} {W : World} (h : CtAt w gA gB n V W) (c : Nat) (hc : c < n) : W.cell? ⟨gB, c, none⟩ = some (.int .i64 (cntV V c false)) := by
  rw [h.rb.cellAt c (by omega), intsV, List.getElem?_map, mapR_get _ _ _ hc]; rfl

/-- Two ways that go on alike. -/
theorem cut_same {T G : Prop} (h : Hid T → G) (hT : T) : G := h hT

set_option maxHeartbeats 40000000 in
set_option maxRecDepth 100000 in
theorem buildOf_any (a : Option Addr) (cap : Nat) (L : List Vi) (ap : Option Addr) (cp : Nat) (P : List Bool) (loops : Int) (w : World) (hn : P.length ≤ 140737488355328) (hlens : LensOk L) (hL : VRows w w.heap.size (.slice a L.length cap) L) (hP : PlusAt w w.heap.size (.slice ap P.length cp) P) :
    Calls Try.prog 29 #[.slice a L.length cap, .slice ap P.length cp, .int .i64 loops] w fun e w' => ∃ v, e = .returned (.tuple #[.agg #[v, .int .i64 (outL P L loops)], .int .i64 (refN P.length L loops)]) ∧ Crs w' w'.heap.size v (outC P L loops) ∧ Below w.heap.size w w' := by
  obtain ⟨i2, hk, hx0, hx1, hx2⟩ := info_parts infoInt'
  have HL : Hid (VRows w w.heap.size (.slice a L.length cap) L) := hL
  have HP : Hid (PlusAt w w.heap.size (.slice ap P.length cp) P) := hP
  have hl1 := hlens.1
  have HLN : Hid (∀ j, j < L.length → (L.getD j []).length ≤ 140737488355328) := hlens.2
  obtain ⟨n, hn0⟩ : ∃ n, P.length = n := ⟨_, rfl⟩
  have HN : Hid (P.length = n) := hn0
  obtain ⟨r, hr⟩ : ∃ r, refN P.length L loops = r := ⟨_, rfl⟩
  have HR : Hid (refN n L loops = r) := (by rw [← hn0]; exact hr : refN n L loops = r)
  have HOC : Hid (outC P L loops = if r = 0 then (bAll P L L.length).1 else []) := (by unfold outC; rw [hr] : outC P L loops = if r = 0 then (bAll P L L.length).1 else [])
  have HOL : Hid (outL P L loops = if r = 0 then loops else 0) := (by unfold outL; rw [hr] : outL P L loops = if r = 0 then loops else 0)
  obtain ⟨oc, hoc⟩ : ∃ oc, outC P L loops = oc := ⟨_, rfl⟩
  obtain ⟨ol, hol⟩ : ∃ ol, outL P L loops = ol := ⟨_, rfl⟩
  rw [hoc] at HOC
  rw [hol] at HOL
  rw [hr, hoc, hol]
  rw [hn0] at hn ⊢
  have HNO : Hid (∀ W : World, Crs W W.heap.size (.slice none 0 0) []) := fun W => ⟨none, 0, rfl, by simp [maxLen], fun h => absurd h (by simp)⟩
  clear hL hlens hP hn0 hr hoc hol
  by_cases h16 : n ≤ 16
  case neg =>
    have hr2 : r = 2 := by rw [← HR.out]; unfold refN; rw [if_pos (by simp [sizeV]; omega)]
    subst hr2
    have hd : decide ((16 : Int) < (n : Int)) = true := by simp; omega
    have hd2 : decide (16 < n) = true := by simp; omega
    go_enter Try.func29, Try.ntmps29
    go_wp2
    exact bodyPost_ret (v := .tuple #[.agg #[.slice none 0 0, .int .i64 0], .int .i64 2]) (by simp [results, Try.results29, go_sem]) rfl ⟨_, by rw [HOL.out]; rfl, by rw [HOC.out]; exact HNO.out _, (Below.refl _ _).alloc (Nat.le_refl _) _⟩
  have hd : decide ((16 : Int) < (n : Int)) = false := by simp; omega
  have hd2 : decide (16 < n) = false := by simp; omega
  by_cases hneg : loops < 0
  · have hr2 : r = 2 := by rw [← HR.out]; unfold refN; rw [if_pos (by simp [sizeV]; omega)]
    subst hr2
    have hd3 : decide (loops < 0) = true := by simp [hneg]
    go_enter Try.func29, Try.ntmps29
    go_wp2
    exact bodyPost_ret (v := .tuple #[.agg #[.slice none 0 0, .int .i64 0], .int .i64 2]) (by simp [results, Try.results29, go_sem]) rfl ⟨_, by rw [HOL.out]; rfl, by rw [HOC.out]; exact HNO.out _, (Below.refl _ _).alloc (Nat.le_refl _) _⟩
  have hd3 : decide (loops < 0) = false := by simp; omega
  by_cases hbig : 16 < loops
  · have hr2 : r = 2 := by rw [← HR.out]; unfold refN; rw [if_pos (by simp [sizeV]; omega)]
    subst hr2
    have hd4 : decide (16 < loops) = true := by simp [hbig]
    go_enter Try.func29, Try.ntmps29
    go_wp2
    exact bodyPost_ret (v := .tuple #[.agg #[.slice none 0 0, .int .i64 0], .int .i64 2]) (by simp [results, Try.results29, go_sem]) rfl ⟨_, by rw [HOL.out]; rfl, by rw [HOC.out]; exact HNO.out _, (Below.refl _ _).alloc (Nat.le_refl _) _⟩
  have hd4 : decide (16 < loops) = false := by simp; omega
  have HSZ : Hid (sizeV n loops = true) := (by simp [sizeV]; omega : sizeV n loops = true)
  obtain ⟨w0, hw0⟩ : ∃ w0, w0 = w.alloc (.cells #[.slice none 0 0, .int .i64 0] 24) := ⟨_, rfl⟩
  have HW0 : Hid (w0 = w.alloc (.cells #[.slice none 0 0, .int .i64 0] 24)) := hw0
  have HB0 : Hid (Below w.heap.size w w0) := (by rw [hw0]; exact (Below.refl _ _).alloc (Nat.le_refl _) _ : Below w.heap.size w w0)
  have HT0 : Hid (w0.heap[w.heap.size]? = some (.cells #[.slice none 0 0, .int .i64 0] 24 (0, 0))) := (by rw [hw0]; exact alloc_at rfl : w0.heap[w.heap.size]? = some (.cells #[.slice none 0 0, .int .i64 0] 24 (0, 0)))
  have hs0 : w0.heap.size = w.heap.size + 1 := by rw [hw0]; simp
  clear hw0
  go_enter Try.func29, Try.ntmps29
  go_wp2
  rw [← HW0.out]
  obtain ⟨w1, hrun1, hA, kA⟩ := run_make_full (P := Try.prog) w0.drew (w.heap.size + 1) 37 3 i2 (.int .i64 0) 1 Try.underlying37 hk hx0 hx1 .i64 .i64 n (by rw [hx2]; omega) (by unfold maxLen; omega) (show w.heap.size + 1 ≤ w0.heap.size by omega)
  have hs1 : w0.heap.size ≤ w1.heap.size := kA.size
  obtain ⟨w2, hrun2, hB, kB⟩ := run_make_full (P := Try.prog) w1 (w.heap.size + 1) 37 3 i2 (.int .i64 0) 1 Try.underlying37 hk hx0 hx1 .i64 .i64 n (by rw [hx2]; omega) (by unfold maxLen; omega) (by omega)
  have hs2 : w1.heap.size ≤ w2.heap.size := kB.size
  have hlt : w0.drew.heap.size < w1.heap.size := (hA.lt _ rfl).2
  obtain ⟨p, hp⟩ : ∃ p, w0.drew.heap.size = p := ⟨_, rfl⟩
  obtain ⟨q, hq⟩ : ∃ q, w1.heap.size = q := ⟨_, rfl⟩
  rw [hp] at hrun1 hA hlt
  have HpW : Hid (w0.heap.size = p) := hp
  rw [hq] at hrun2 hB hlt hs1
  rw [made_zero] at hA hB
  have HRP : Hid (w2.ownsRow (w.heap.size + 1) 3 1 (.slice (some ⟨p, 0, none⟩) n n) n (intsV (List.replicate n 0))) := own_any hA kB
  have HRQ : Hid (w2.ownsRow (w.heap.size + 1) 3 1 (.slice (some ⟨q, 0, none⟩) n n) n (intsV (List.replicate n 0))) := hB
  have HPQ : Hid (p ≠ q) := (by omega : p ≠ q)
  have HQP : Hid (q ≠ p) := (by omega : q ≠ p)
  have HT2 : Hid (w2.heap[w.heap.size]? = some (.cells #[.slice none 0 0, .int .i64 0] 24 (0, 0))) := (kB.block _ (by omega) (by simp)).trans ((kA.block _ (show w.heap.size < w0.heap.size by omega) (by simp)).trans HT0.out)
  have HB2 : Hid (Below w.heap.size w w2) := (HB0.out.drew.grown kA (show w.heap.size ≤ w0.heap.size by omega) (fun k hk => by cases hk)).grown kB (by omega) (fun k hk => by cases hk)
  clear hp hq hA hB kA kB hs0 hs1 hs2 hlt
  apply cut_same
  case h =>
    intro key
    go_region_held3 (fun _ => True) (trivial) (fail)
    · (have hA : Hid (w2.ownsRow (w.heap.size + 1) 3 1 (.slice (some ⟨p, 0, none⟩) n n) n (intsV (List.replicate n 0))) ∧ Hid (w2.ownsRow (w.heap.size + 1) 3 1 (.slice (some ⟨q, 0, none⟩) n n) n (intsV (List.replicate n 0))) ∧ Hid (p ≠ q) := ⟨HRP, HRQ, HPQ⟩; revert hA; generalize p = gA; generalize q = gB; revert gA gB; exact key.out)
    · (have hA : Hid (w2.ownsRow (w.heap.size + 1) 3 1 (.slice (some ⟨q, 0, none⟩) n n) n (intsV (List.replicate n 0))) ∧ Hid (w2.ownsRow (w.heap.size + 1) 3 1 (.slice (some ⟨p, 0, none⟩) n n) n (intsV (List.replicate n 0))) ∧ Hid (q ≠ p) := ⟨HRQ, HRP, HQP⟩; revert hA; generalize q = gA; generalize p = gB; revert gA gB; exact key.out)
  rintro gA gB ⟨HRA, HRB, HNE⟩
  clear HRP HRQ HPQ HQP hrun1 hrun2 HpW
  have HC0 : Hid (CtAt w gA gB n (upTo L 0 0) w2) := (by rw [upTo_zero]; exact ⟨by rw [mapR_zero n (fun q => cntV [] q true) (fun _ => rfl)]; exact HRA.out, by rw [mapR_zero n (fun q => cntV [] q false) (fun _ => rfl)]; exact HRB.out, HT2.out, HB2.out⟩ : CtAt w gA gB n (upTo L 0 0) w2)
  obtain ⟨b1, hb1⟩ : ∃ b1, ((n : Int) == 0) = b1 := ⟨_, rfl⟩
  obtain ⟨b2, hb2⟩ : ∃ b2, (loops == 0) = b2 := ⟨_, rfl⟩
  have HE0 : Hid (em n loops L 0 = (b1 && b2)) := (by
    have e1 : decide (n = 0) = b1 := by
      rw [← hb1]
      by_cases h : n = 0
      · subst h; rfl
      · rw [decide_eq_false h]; exact (beq_eq_false_iff_ne.2 (by omega)).symm
    have e2 : decide (loops = 0) = b2 := by rw [← hb2]; rfl
    show (decide (n = 0) && decide (loops = 0)) = _
    rw [e1, e2] : em n loops L 0 = (b1 && b2))
  have hb3 : (n == 0) = b1 := by
    rw [← hb1]
    by_cases h : n = 0
    · subst h; rfl
    · rw [beq_eq_false_iff_ne.2 h]; exact (beq_eq_false_iff_ne.2 (by omega)).symm
  clear HRA HRB HT2 HB2 HB0 HT0 HW0
  have HZ : Hid (b1 = true → n = 0) := fun h => by
    rw [h] at hb3
    exact beq_iff_eq.1 hb3
  cases b1
  all_goals
    go_wp2
    go_loopw [11, 12] (fun v11 v12 wr => ∃ j : Nat, j ≤ L.length ∧ v12 = .int .i64 (j : Nat) ∧ v11 = .bool (em n loops L j) ∧ Hid ((upTo L j 0).all (okV n) = true) ∧ Hid (CtAt w gA gB n (upTo L j 0) wr)) (fun _ v12 _ => L.length - (intOf v12).toNat)
    case atStart => exact ⟨0, Nat.zero_le _, rfl, by rw [HE0.out]; rfl, (by rw [upTo_zero]; rfl : (upTo L 0 0).all (okV n) = true), HC0.out⟩
    case round =>
      clear HC0 HE0
      rename World => W1
      obtain ⟨j, hjn, rfl, rfl, hok, hct⟩ := hrel
      have hsW := hct.out.bel.size
      by_cases hjl : j < L.length
      · obtain ⟨a', cap', ea, f⟩ := HL.out
        injection ea with ea1 ea2 ea3
        obtain ⟨b, off, eb, hbw, hc⟩ := f (by omega)
        obtain rfl : a = some ⟨b, off, none⟩ := ea1.trans eb
        obtain ⟨u, hu, ar, cr, rfl, fr⟩ := hc j hjl
        have hVl := HLN.out j hjl
        have HRW : Hid (upTo L j (L.getD j []).length = upTo L (j + 1) 0) := upTo_row L j hjl
        have HNX : Hid (∀ k, k < (L.getD j []).length → upTo L j (k + 1) = upTo L j k ++ [(L.getD j []).getD k (0, false)]) := fun k hk => upTo_next L j k hk
        have HME : Hid (∀ k, k < (L.getD j []).length → (L.getD j []).getD k (0, false) ∈ L.flatten) := fun k hk => mem_at L j k hjl hk
        have HEM : Hid (em n loops L (j + 1) = (em n loops L j || decide ((L.getD j []).length = 0))) := (rfl : em n loops L (j + 1) = (em n loops L j || decide ((L.getD j []).length = 0)))
        have HCT : Hid (CtAt w gA gB n (upTo L j 0) W1) := hct
        have HOK : Hid ((upTo L j 0).all (okV n) = true) := hok
        have HCL : Hid (∀ W, Below w.heap.size w W → W.cell? ⟨b, off + j, none⟩ = some (.slice ar (L.getD j []).length cr)) := fun W hb => bcell hb hbw hu
        have hbW : b < W1.heap.size := by omega
        obtain ⟨V, hV⟩ : ∃ V, L.getD j [] = V := ⟨_, rfl⟩
        rw [hV] at fr hVl HRW HNX HME HEM HCL
        have c0 := HCL.out W1 hct.out.bel
        have HFR : Hid (0 < V.length → ∃ b off, ar = some ⟨b, off, none⟩ ∧ b < w.heap.size ∧ ∀ k, k < V.length → w.cell? ⟨b, off + k * 2, none⟩ = some (.int .i64 (V.getD k (0, false)).1) ∧ w.cell? ⟨b, off + k * 2 + 1, none⟩ = some (.bool (V.getD k (0, false)).2)) := fr
        have hji : (j : Int) < (L.length : Int) := by omega
        obtain ⟨e, he⟩ : ∃ e, em n loops L j = e := ⟨_, rfl⟩
        rw [he] at HEM ⊢
        obtain ⟨e2, he2⟩ : ∃ e2, ((V.length : Int) == 0) = e2 := ⟨_, rfl⟩
        have HE2 : Hid (decide (V.length = 0) = e2) := (by
          rw [← he2]
          by_cases h : V.length = 0
          · rw [h]; rfl
          · rw [decide_eq_false h]; exact (beq_eq_false_iff_ne.2 (by omega)).symm : decide (V.length = 0) = e2)
        have he3 : (V.length == 0) = e2 := HE2.out
        clear f hc hu ea1 ea2 ea3 eb hV fr hct hok he
        cases e
        all_goals
          go_wp2
          go_loopw [13] (fun v13 ws => ∃ k : Nat, k ≤ V.length ∧ v13 = .int .i64 (k : Nat) ∧ Hid ((upTo L j k).all (okV n) = true) ∧ Hid (CtAt w gA gB n (upTo L j k) ws)) (fun v13 _ => V.length - (intOf v13).toNat)
          case atStart => exact ⟨0, Nat.zero_le _, rfl, HOK.out, HCT.out⟩
          case round =>
            clear HCT HOK c0
            rename World => W2
            obtain ⟨k, hkn, rfl, hok, hct⟩ := hrel
            have hsX := hct.out.bel.size
            have c0 := HCL.out W2 hct.out.bel
            have hbX2 : b < W2.heap.size := by omega
            by_cases hkl : k < V.length
            · obtain ⟨br, offr, rfl, hbr, hcr⟩ := HFR.out (by omega)
              obtain ⟨d0, d1⟩ := hcr k hkl
              have HUN := HNX.out k hkl
              have HMX := HME.out k hkl
              obtain ⟨x, hx⟩ : ∃ x, V.getD k (0, false) = x := ⟨_, rfl⟩
              rw [hx] at d0 d1 HUN HMX
              obtain ⟨xc, xo⟩ := x
              have c1 : W2.cell? ⟨br, offr + k * 2, none⟩ = some (.int .i64 xc) := bcell hct.out.bel hbr d0
              have c2 : W2.cell? ⟨br, offr + k * 2 + 1, none⟩ = some (.bool xo) := bcell hct.out.bel hbr d1
              have hbX : br < W2.heap.size := by omega
              have HUNX : Hid (upTo L j (k + 1) = upTo L j k ++ [(xc, xo)]) := HUN
              have HMXX : Hid ((xc, xo) ∈ L.flatten) := HMX
              have hki : (k : Int) < (V.length : Int) := by omega
              clear hcr d0 d1 HUN HMX hx
              by_cases hneg2 : xc < 0
              · as_aux_lemma =>
                  have hd5 : decide (xc < 0) = true := by simp [hneg2]
                  have hr2 : r = 3 := by
                    rw [← HR.out]; unfold refN
                    rw [if_neg (by rw [HSZ.out]; simp), if_pos (by
                      unfold okL
                      rw [List.all_eq_false]
                      exact ⟨_, HMXX.out, by simp [okV]; omega⟩)]
                  have t0 : W2.cell? ⟨w.heap.size, 0, none⟩ = some (.slice none 0 0) := block_cell hct.out.tb rfl
                  have t1 : W2.cell? ⟨w.heap.size, 1, none⟩ = some (.int .i64 0) := block_cell hct.out.tb rfl
                  have t2 : W2.frozen? ⟨w.heap.size, 0, none⟩ = false := block_frozen hct.out.tb
                  have t3 : W2.frozen? ⟨w.heap.size, 1, none⟩ = false := block_frozen hct.out.tb
                  have l5 : w.heap.size < W2.heap.size := (Array.getElem?_eq_some_iff.1 hct.out.tb).1
                  subst hr2
                  go_wp2
                  have hX := alloc_old (o := .cells #[.int .i64 xc, .bool xo] 99) (set_block (i := 1) (u := .int .i64 0) (set_block (i := 0) (u := .slice none 0 0) hct.out.tb))
                  have y0 := block_cell (i := 0) (v := .slice none 0 0) hX rfl
                  have y1 := block_cell (i := 1) (v := .int .i64 0) hX rfl
                  have hg2 := st2_grown W2 w.heap.size 0 (.slice none 0 0) (.int .i64 0)
                  have hbb := (hct.out.bel.grown hg2 hct.out.bel.size (fun q hq => by have := Option.some.inj hq; omega)).alloc (Nat.le_trans hct.out.bel.size hg2.size) (.cells #[.int .i64 xc, .bool xo] 99)
                  refine bodyPost_ret (v := .tuple #[.agg #[.slice none 0 0, .int .i64 0], .int .i64 3]) (by simp [results, Try.results29, go_sem, y0, y1]) rfl ?_
                  exact ⟨_, by rw [HOL.out]; rfl, by rw [HOC.out]; exact HNO.out _, hbb⟩
              · have hnn : decide (xc < 0) = false := by simp; omega
                obtain ⟨c, rfl⟩ : ∃ c : Nat, xc = (c : Int) := ⟨xc.toNat, by omega⟩
                clear hneg2
                by_cases hcn : c < n
                · try (first | (exfalso; have hz := HZ.out rfl; omega) | (exfalso; have hz := HZ.out trivial; omega))
                  all_goals
                    have hd6 : decide ((n : Int) ≤ (c : Int)) = false := by simp; omega
                    have hd7 : decide (n ≤ c) = false := by simp; omega
                    have hci : (c : Int) < (n : Int) := by omega
                    have HCA : Hid (CtAt w gA gB n (upTo L j k) (W2.alloc (.cells #[.int .i64 (c : Nat), .bool xo] 99))) := hct.out.alloc _
                    have hlA := (hct.out.ra.lt gA rfl).2
                    have hlB := (hct.out.rb.lt gB rfl).2
                    have HOKX : Hid ((upTo L j (k + 1)).all (okV n) = true) := (by rw [HUNX.out, List.all_append, hok.out]; simp [okV]; omega : (upTo L j (k + 1)).all (okV n) = true)
                    have m0 := HCA.out.atA c hcn
                    have m1 := HCA.out.atB c hcn
                    have z0 := HCA.out.ra.frozenAt c
                    have z1 := HCA.out.rb.frozenAt c
                    cases xo with
                    | true =>
                      go_wp2
                      go_roundw
                      case rel =>
                        refine ⟨k + 1, by omega, by go_num, HOKX.out, ?_⟩
                        rw [HUNX.out]
                        exact (hct.out.above HNE.out c).alloc _
                      case measure => simp only [intOf]; omega
                    | false =>
                      go_wp2
                      go_roundw
                      case rel =>
                        refine ⟨k + 1, by omega, by go_num, HOKX.out, ?_⟩
                        rw [HUNX.out]
                        exact (hct.out.below HNE.out c).alloc _
                      case measure => simp only [intOf]; omega
                · as_aux_lemma =>
                    have hd6 : decide ((n : Int) ≤ (c : Int)) = true := by simp; omega
                    have hd7 : decide (n ≤ c) = true := by simp; omega
                    have hr2 : r = 3 := by
                      rw [← HR.out]; unfold refN
                      rw [if_neg (by rw [HSZ.out]; simp), if_pos (by
                        unfold okL
                        rw [List.all_eq_false]
                        exact ⟨_, HMXX.out, by simp [okV]; omega⟩)]
                    have t0 : W2.cell? ⟨w.heap.size, 0, none⟩ = some (.slice none 0 0) := block_cell hct.out.tb rfl
                    have t1 : W2.cell? ⟨w.heap.size, 1, none⟩ = some (.int .i64 0) := block_cell hct.out.tb rfl
                    have t2 : W2.frozen? ⟨w.heap.size, 0, none⟩ = false := block_frozen hct.out.tb
                    have t3 : W2.frozen? ⟨w.heap.size, 1, none⟩ = false := block_frozen hct.out.tb
                    have l5 : w.heap.size < W2.heap.size := (Array.getElem?_eq_some_iff.1 hct.out.tb).1
                    subst hr2
                    go_wp2
                    have hX := alloc_old (o := .cells #[.int .i64 (c : Nat), .bool xo] 99) (set_block (i := 1) (u := .int .i64 0) (set_block (i := 0) (u := .slice none 0 0) hct.out.tb))
                    have y0 := block_cell (i := 0) (v := .slice none 0 0) hX rfl
                    have y1 := block_cell (i := 1) (v := .int .i64 0) hX rfl
                    have hg2 := st2_grown W2 w.heap.size 0 (.slice none 0 0) (.int .i64 0)
                    have hbb := (hct.out.bel.grown hg2 hct.out.bel.size (fun q hq => by have := Option.some.inj hq; omega)).alloc (Nat.le_trans hct.out.bel.size hg2.size) (.cells #[.int .i64 (c : Nat), .bool xo] 99)
                    refine bodyPost_ret (v := .tuple #[.agg #[.slice none 0 0, .int .i64 0], .int .i64 3]) (by simp [results, Try.results29, go_sem, y0, y1]) rfl ?_
                    exact ⟨_, by rw [HOL.out]; rfl, by rw [HOC.out]; exact HNO.out _, hbb⟩
            · obtain rfl : k = V.length := by omega
              go_wp2
              go_roundw
              case rel =>
                rw [HRW.out] at hok hct
                refine ⟨j + 1, by omega, by go_num, ?_, hok, hct⟩
                rw [HEM.out, HE2.out]
                rfl
              case measure => simp only [intOf]; omega
      · obtain rfl : j = L.length := by omega
        rw [upTo_all] at hok hct
        have HOKL : Hid (okL n L = true) := hok.out
        have HCT : Hid (CtAt w gA gB n L.flatten W1) := hct
        obtain ⟨e, he⟩ : ∃ e, em n loops L L.length = e := ⟨_, rfl⟩
        have HEE : Hid (em n loops L L.length = e) := he
        rw [he]
        clear hok hct he
        go_wp2
        go_loopw [15] (fun v15 ws => ∃ c : Nat, c ≤ n ∧ v15 = .int .i64 (c : Nat) ∧ Hid (∀ q, q < c → cntV L.flatten q false = 1 ∧ cntV L.flatten q true = 1) ∧ ws = W1) (fun v15 _ => n - (intOf v15).toNat)
        case atStart => exact ⟨0, Nat.zero_le _, rfl, (fun q hq => absurd hq (Nat.not_lt_zero _) : ∀ q, q < 0 → cntV L.flatten q false = 1 ∧ cntV L.flatten q true = 1), rfl⟩
        case round =>
          obtain ⟨c, hcn, rfl, hq, rfl⟩ := hrel
          rename World => W2
          by_cases hcl : c < n
          · try (first | (exfalso; have hz := HZ.out rfl; omega) | (exfalso; have hz := HZ.out trivial; omega))
            all_goals
              have m0 := HCT.out.atA c hcl
              have m1 := HCT.out.atB c hcl
              have hlA := (HCT.out.ra.lt gA rfl).2
              have hlB := (HCT.out.rb.lt gB rfl).2
              have hci : (c : Int) < (n : Int) := by omega
              obtain ⟨x, hx⟩ : ∃ x, cntV L.flatten c true = x := ⟨_, rfl⟩
              obtain ⟨y, hy⟩ : ∃ y, cntV L.flatten c false = y := ⟨_, rfl⟩
              have HX : Hid (cntV L.flatten c true = x) := hx
              have HY : Hid (cntV L.flatten c false = y) := hy
              rw [hx] at m0
              rw [hy] at m1
              clear hx hy
              by_cases h1 : x = 1
              · subst h1
                by_cases h2 : y = 1
                · subst h2
                  go_wp2
                  go_roundw
                  case rel =>
                    refine ⟨c + 1, by omega, by go_num, (fun q hq2 => ?_ : ∀ q, q < c + 1 → cntV L.flatten q false = 1 ∧ cntV L.flatten q true = 1), by first | rfl | trivial⟩
                    by_cases e : q = c
                    · subst e; exact ⟨HY.out, HX.out⟩
                    · exact hq.out q (by omega)
                  case measure => simp only [intOf]; omega
                · as_aux_lemma =>
                    have hye : (y == 1) = false := beq_eq_false_iff_ne.2 h2
                    have hr2 : r = 10 := by
                      rw [← HR.out]; unfold refN
                      rw [if_neg (by rw [HSZ.out]; simp), if_neg (by rw [HOKL.out]; simp), if_pos (onceV_no c hcl (by rw [HX.out, HY.out]; exact fun h => h2 h.1))]
                    have t0 : W2.cell? ⟨w.heap.size, 0, none⟩ = some (.slice none 0 0) := block_cell HCT.out.tb rfl
                    have t1 : W2.cell? ⟨w.heap.size, 1, none⟩ = some (.int .i64 0) := block_cell HCT.out.tb rfl
                    have t2 : W2.frozen? ⟨w.heap.size, 0, none⟩ = false := block_frozen HCT.out.tb
                    have t3 : W2.frozen? ⟨w.heap.size, 1, none⟩ = false := block_frozen HCT.out.tb
                    have l5 : w.heap.size < W2.heap.size := (Array.getElem?_eq_some_iff.1 HCT.out.tb).1
                    subst hr2
                    go_wp2
                    have hX := set_block (i := 1) (u := .int .i64 0) (set_block (i := 0) (u := .slice none 0 0) HCT.out.tb)
                    have y0 := block_cell (i := 0) (v := .slice none 0 0) hX rfl
                    have y1 := block_cell (i := 1) (v := .int .i64 0) hX rfl
                    have hg2 := st2_grown W2 w.heap.size 0 (.slice none 0 0) (.int .i64 0)
                    have hbb := HCT.out.bel.grown hg2 HCT.out.bel.size (fun q hq => by have := Option.some.inj hq; omega)
                    refine bodyPost_ret (v := .tuple #[.agg #[.slice none 0 0, .int .i64 0], .int .i64 10]) (by simp [results, Try.results29, go_sem, y0, y1]) rfl ?_
                    exact ⟨_, by rw [HOL.out]; rfl, by rw [HOC.out]; exact HNO.out _, hbb⟩
              · as_aux_lemma =>
                  have hxe : (x == 1) = false := beq_eq_false_iff_ne.2 h1
                  have hr2 : r = 10 := by
                    rw [← HR.out]; unfold refN
                    rw [if_neg (by rw [HSZ.out]; simp), if_neg (by rw [HOKL.out]; simp), if_pos (onceV_no c hcl (by rw [HX.out, HY.out]; exact fun h => h1 h.2))]
                  have t0 : W2.cell? ⟨w.heap.size, 0, none⟩ = some (.slice none 0 0) := block_cell HCT.out.tb rfl
                  have t1 : W2.cell? ⟨w.heap.size, 1, none⟩ = some (.int .i64 0) := block_cell HCT.out.tb rfl
                  have t2 : W2.frozen? ⟨w.heap.size, 0, none⟩ = false := block_frozen HCT.out.tb
                  have t3 : W2.frozen? ⟨w.heap.size, 1, none⟩ = false := block_frozen HCT.out.tb
                  have l5 : w.heap.size < W2.heap.size := (Array.getElem?_eq_some_iff.1 HCT.out.tb).1
                  subst hr2
                  go_wp2
                  have hX := set_block (i := 1) (u := .int .i64 0) (set_block (i := 0) (u := .slice none 0 0) HCT.out.tb)
                  have y0 := block_cell (i := 0) (v := .slice none 0 0) hX rfl
                  have y1 := block_cell (i := 1) (v := .int .i64 0) hX rfl
                  have hg2 := st2_grown W2 w.heap.size 0 (.slice none 0 0) (.int .i64 0)
                  have hbb := HCT.out.bel.grown hg2 HCT.out.bel.size (fun q hq => by have := Option.some.inj hq; omega)
                  refine bodyPost_ret (v := .tuple #[.agg #[.slice none 0 0, .int .i64 0], .int .i64 10]) (by simp [results, Try.results29, go_sem, y0, y1]) rfl ?_
                  exact ⟨_, by rw [HOL.out]; rfl, by rw [HOC.out]; exact HNO.out _, hbb⟩
          · obtain rfl : c = n := by omega
            have HON : Hid (onceV c L.flatten = true) := onceV_yes hq.out
            clear hq
            cases e with
            | true =>
              as_aux_lemma =>
                have hr2 : r = 7 := by
                  rw [← HR.out]; unfold refN
                  rw [if_neg (by rw [HSZ.out]; simp), if_neg (by rw [HOKL.out]; simp), if_neg (by rw [HON.out]; simp)]
                  rcases em_true HEE.out with ⟨h1, h2⟩ | ⟨q, h1, h2⟩
                  · split
                    · rfl
                    · rw [if_pos (by omega)]
                  · rw [if_pos (fullV_no q h1 h2)]
                have t0 : W2.cell? ⟨w.heap.size, 0, none⟩ = some (.slice none 0 0) := block_cell HCT.out.tb rfl
                have t1 : W2.cell? ⟨w.heap.size, 1, none⟩ = some (.int .i64 0) := block_cell HCT.out.tb rfl
                have t2 : W2.frozen? ⟨w.heap.size, 0, none⟩ = false := block_frozen HCT.out.tb
                have t3 : W2.frozen? ⟨w.heap.size, 1, none⟩ = false := block_frozen HCT.out.tb
                have l5 : w.heap.size < W2.heap.size := (Array.getElem?_eq_some_iff.1 HCT.out.tb).1
                subst hr2
                go_wp2
                have hX := set_block (i := 1) (u := .int .i64 0) (set_block (i := 0) (u := .slice none 0 0) HCT.out.tb)
                have y0 := block_cell (i := 0) (v := .slice none 0 0) hX rfl
                have y1 := block_cell (i := 1) (v := .int .i64 0) hX rfl
                have hg2 := st2_grown W2 w.heap.size 0 (.slice none 0 0) (.int .i64 0)
                have hbb := HCT.out.bel.grown hg2 HCT.out.bel.size (fun q hq => by have := Option.some.inj hq; omega)
                refine bodyPost_ret (v := .tuple #[.agg #[.slice none 0 0, .int .i64 0], .int .i64 7]) (by simp [results, Try.results29, go_sem, y0, y1]) rfl ?_
                exact ⟨_, by rw [HOL.out]; rfl, by rw [HOC.out]; exact HNO.out _, hbb⟩
            | false =>
              obtain ⟨hz, hfu⟩ := em_false HEE.out
              have hr2 : r = 0 := by
                rw [← HR.out]; unfold refN
                rw [if_neg (by rw [HSZ.out]; simp), if_neg (by rw [HOKL.out]; simp), if_neg (by rw [HON.out]; simp), if_neg (by rw [fullV_yes hfu]; simp), if_neg (by omega)]
              subst hr2
              have HOC2 : Hid (oc = (bAll P L L.length).1) := (by rw [HOC.out, if_pos rfl] : oc = (bAll P L L.length).1)
              obtain rfl : ol = loops := by rw [HOL.out, if_pos rfl]
              have HTB : Hid (W2.heap[w.heap.size]? = some (.cells #[.slice none 0 0, .int .i64 0] 24 (0, 0))) := HCT.out.tb
              have HBW : Hid (Below w.heap.size w W2) := HCT.out.bel
              have hsW2 := HBW.out.size
              have l2 : w.heap.size < W2.heap.size := (Array.getElem?_eq_some_iff.1 HTB.out).1
              have HO0 : Hid (OutAt (W2.alloc (.cells #[.slice none 0 0, .int .i64 ol] 24)) (W2.heap.size + 1) W2.heap.size (.slice none 0 0) ol (sg P 0)) := OutAt.nil (alloc_at rfl)
              clear HOC HOL hz hfu HEE HCT HON
              go_wp2
              go_loopw [17] (fun v17 ws => ∃ (q : Nat) (v : Value), q ≤ c ∧ v17 = .int .i64 (q : Nat) ∧ Hid (OutAt ws (W2.heap.size + 1) W2.heap.size v ol (sg P q)) ∧ Hid (ws.heap[w.heap.size]? = some (.cells #[.slice none 0 0, .int .i64 0] 24 (0, 0))) ∧ Hid (Below w.heap.size w ws) ∧ W2.heap.size + 1 ≤ ws.heap.size) (fun v17 _ => c - (intOf v17).toNat)
              case atStart => exact ⟨0, _, Nat.zero_le _, rfl, HO0.out, alloc_old HTB.out, HBW.out.alloc HBW.out.size _, by simp⟩
              case round =>
                clear HO0
                rename World => W3
                obtain ⟨q, v, hqc, rfl, hout, htb, hbw, hs3⟩ := hrel
                by_cases hql : q < c
                · try (first | (exfalso; have hz := HZ.out rfl; omega) | (exfalso; have hz := HZ.out trivial; omega))
                  all_goals
                    obtain ⟨a', cap', ea, f⟩ := HP.out
                    injection ea with ea1 ea2 ea3
                    obtain ⟨b, off, eb, hbw2, hc⟩ := f (by rw [HN.out]; omega)
                    obtain rfl : ap = some ⟨b, off, none⟩ := ea1.trans eb
                    have hp0 := hc q (by rw [HN.out]; exact hql)
                    obtain ⟨pk, hpk⟩ : ∃ pk, P.getD q false = pk := ⟨_, rfl⟩
                    have HPK : Hid (P.getD q false = pk) := hpk
                    rw [hpk] at hp0
                    have c0 : W3.cell? ⟨b, off + q, none⟩ = some (.bool pk) := bcell hbw.out hbw2 hp0
                    have hrow3 := hout.out.row
                    rw [sg_len] at hrow3
                    obtain ⟨a3, c3, rfl⟩ := own_capS hrow3
                    have c1 : W3.cell? ⟨W2.heap.size, 0, none⟩ = some (.slice a3 q c3) := block_cell hout.out.box rfl
                    have hbl : b < W3.heap.size := by omega
                    have hqi : (q : Int) < (c : Int) := by omega
                    have lB : W2.heap.size < W3.heap.size := by omega
                    have HOD : Hid (OutAt W3.drew (W2.heap.size + 1) W2.heap.size (.slice a3 q c3) ol (sg P q)) := ⟨hout.out.box, hout.out.row⟩
                    have HRD : Hid (W3.drew.ownsRow (W2.heap.size + 1) 64 5 (.slice a3 q c3) q (crossCells (sg P q))) := hrow3
                    obtain ⟨i0, hi, hz0, hz1, hz2⟩ := info_parts infoCr
                    clear f hc ea1 ea2 ea3 eb hpk hp0 hrow3
                    go_wp2
                    go_region_law (first
                      | (refine step_append_own rfl (.tmp 133) (.tmp 139) 22 rfl (W2.heap.size + 1) 64 i0 (.agg #[.int .i64 0, .int .i64 0, .int .i64 0, .int .i64 0, .bool false]) 5 40 Try.underlying22 hi hz0 hz1 hz2 rfl (by decide) _ q _ (by simp [Act.eval]) (HRD.out.alloc _) ⟨W3.drew.heap.size, 0, none⟩ 1 1 [.int .i64 0, .int .i64 0, .int .i64 0, .int .i64 0, .bool pk] (by simp [Act.eval]) rfl (new_cell5 _ _ _ _ _ _ _) (cells_one [(⟨0, 0, 0, 0, pk⟩ : Cr)]) (by unfold maxLen; omega) (by omega) (by simp; omega) ?_; intro v8 w8 hown8 hg8; obtain ⟨a8, c8, ev8⟩ := own_capS hown8; subst ev8; have hb8 := HOD.out.box8 (by omega) hg8; have r0 : w8.cell? ⟨W2.heap.size, 0, none⟩ = some (.slice a3 q c3) := block_cell hb8 rfl; have r1 : w8.frozen? ⟨W2.heap.size, 0, none⟩ = false := block_frozen hb8; have r2 : W2.heap.size < w8.heap.size := (Array.getElem?_eq_some_iff.1 hb8).1))
                    all_goals
                      have hs8 : W3.heap.size + 1 ≤ w8.heap.size := by have := hg8.size; simpa using this
                      have HAP : Hid (OutAt (w8.setCell ⟨W2.heap.size, 0, none⟩ (.slice a8 (q + 1) c8)) (W2.heap.size + 1) W2.heap.size (.slice a8 (q + 1) c8) ol (sg P (q + 1))) := (by rw [sg_next, HPK.out]; exact HOD.out.app (by omega) (by rw [sg_len]) hown8 hg8 : OutAt (w8.setCell ⟨W2.heap.size, 0, none⟩ (.slice a8 (q + 1) c8)) (W2.heap.size + 1) W2.heap.size (.slice a8 (q + 1) c8) ol (sg P (q + 1)))
                      have HTN : Hid ((w8.setCell ⟨W2.heap.size, 0, none⟩ (.slice a8 (q + 1) c8)).heap[w.heap.size]? = some (.cells #[.slice none 0 0, .int .i64 0] 24 (0, 0))) := HOD.out.other htb.out (by omega) (by omega) hg8
                      have HBN : Hid (Below w.heap.size w (w8.setCell ⟨W2.heap.size, 0, none⟩ (.slice a8 (q + 1) c8))) := HOD.out.below hbw.out.drew (by omega) (show w.heap.size ≤ W3.heap.size by omega) (by omega) hg8
                      clear c0 c1 r0 r1 hown8 hg8 hb8
                      go_wp2
                      go_roundw
                    all_goals first
                      | (simp only [intOf]; omega)
                      | exact ⟨q + 1, .slice a8 (q + 1) c8, by omega, by go_num, HAP.out, HTN.out, HBN.out, by simp; omega⟩
                · obtain rfl : q = c := by omega
                  have hrow3 := hout.out.row
                  rw [sg_len] at hrow3
                  obtain ⟨a3, c3, rfl⟩ := own_capS hrow3
                  have HO1 : Hid (OutAt W3 (W2.heap.size + 1) W2.heap.size (.slice a3 q c3) ol (bAll P L 0).1) := (by have h := hout.out; rw [← HN.out, sg_all] at h; rw [← HN.out]; exact h : OutAt W3 (W2.heap.size + 1) W2.heap.size (.slice a3 q c3) ol (bAll P L 0).1)
                  clear hout hrow3 hqc hql
                  go_wp2
                  go_loopw [18, 19] (fun v18 v19 wr => ∃ j : Nat, j ≤ L.length ∧ v19 = .int .i64 (j : Nat) ∧ v18 = .int .i64 (bAll P L j).2 ∧ Hid (OutAt wr (W2.heap.size + 1) W2.heap.size (.slice a3 q c3) ol (bAll P L j).1) ∧ Hid (wr.heap[w.heap.size]? = some (.cells #[.slice none 0 0, .int .i64 0] 24 (0, 0))) ∧ Hid (Below w.heap.size w wr) ∧ W2.heap.size + 1 ≤ wr.heap.size) (fun _ v19 _ => L.length - (intOf v19).toNat)
                  case atStart => exact ⟨0, Nat.zero_le _, rfl, rfl, HO1.out, htb.out, hbw.out, hs3⟩
                  case round =>
                    clear HO1 htb hbw hs3
                    rename World => W5
                    obtain ⟨j, hjn, rfl, rfl, hout, htb, hbw, hs3⟩ := hrel
                    by_cases hjl : j < L.length
                    · obtain ⟨a', cap', ea, f⟩ := HL.out
                      injection ea with ea1 ea2 ea3
                      obtain ⟨b, off, eb, hbw2, hc⟩ := f (by omega)
                      obtain rfl : a = some ⟨b, off, none⟩ := ea1.trans eb
                      obtain ⟨u, hu, ar, cr, rfl, fr⟩ := hc j hjl
                      have hVl := HLN.out j hjl
                      have HME : Hid (∀ k, k < (L.getD j []).length → okV q ((L.getD j []).getD k (0, false)) = true) := fun k hk => List.all_eq_true.1 HOKL.out _ (mem_at L j k hjl hk)
                      have HNXT : Hid (bAll P L (j + 1) = (bRow (bAll P L j).2 (L.getD j []) (bAll P L j).1 (L.getD j []).length, wrap64 ((bAll P L j).2 + ((L.getD j []).length : Int)))) := (rfl : bAll P L (j + 1) = (bRow (bAll P L j).2 (L.getD j []) (bAll P L j).1 (L.getD j []).length, wrap64 ((bAll P L j).2 + ((L.getD j []).length : Int))))
                      have HLE : Hid ((bAll P L j).1.length = q) := (by rw [bAll_len, HN.out] : (bAll P L j).1.length = q)
                      have HPL : Hid (∀ c, c < q → ((bAll P L j).1.getD c Cr.none).plus = P.getD c false) := fun c hc => bAll_plus P L j c (by rw [HN.out]; exact hc)
                      have HWF : Hid (wrap64 (bAll P L j).2 = (bAll P L j).2) := bAll_wrap P L j
                      have HCL : Hid (∀ W, Below w.heap.size w W → W.cell? ⟨b, off + j, none⟩ = some (.slice ar (L.getD j []).length cr)) := fun W hb => bcell hb hbw2 hu
                      have hsW5 := hbw.out.size
                      have hbW : b < W5.heap.size := by omega
                      obtain ⟨f0, hf0⟩ : ∃ f0, (bAll P L j).2 = f0 := ⟨_, rfl⟩
                      obtain ⟨D, hD⟩ : ∃ D, (bAll P L j).1 = D := ⟨_, rfl⟩
                      obtain ⟨V, hV⟩ : ∃ V, L.getD j [] = V := ⟨_, rfl⟩
                      rw [hf0, hD, hV] at HNXT
                      rw [hD] at hout HLE HPL
                      rw [hf0] at HWF
                      rw [hV] at fr hVl HME HCL
                      rw [hf0]
                      have c0 := HCL.out W5 hbw.out
                      have HFR : Hid (0 < V.length → ∃ b off, ar = some ⟨b, off, none⟩ ∧ b < w.heap.size ∧ ∀ k, k < V.length → w.cell? ⟨b, off + k * 2, none⟩ = some (.int .i64 (V.getD k (0, false)).1) ∧ w.cell? ⟨b, off + k * 2 + 1, none⟩ = some (.bool (V.getD k (0, false)).2)) := fr
                      have hji : (j : Int) < (L.length : Int) := by omega
                      have HO5 : Hid (OutAt W5 (W2.heap.size + 1) W2.heap.size (.slice a3 q c3) ol (bRow f0 V D 0)) := hout
                      clear f hc hu ea1 ea2 ea3 eb hV fr hf0 hD hout
                      go_wp2
                      go_loopw [18, 21] (fun v18 v21 ws => ∃ k : Nat, k ≤ V.length ∧ v21 = .int .i64 (k : Nat) ∧ v18 = .int .i64 (wrap64 (f0 + (k : Int))) ∧ Hid (OutAt ws (W2.heap.size + 1) W2.heap.size (.slice a3 q c3) ol (bRow f0 V D k)) ∧ Hid (ws.heap[w.heap.size]? = some (.cells #[.slice none 0 0, .int .i64 0] 24 (0, 0))) ∧ Hid (Below w.heap.size w ws) ∧ W2.heap.size + 1 ≤ ws.heap.size) (fun _ v21 _ => V.length - (intOf v21).toNat)
                      case atStart => exact ⟨0, Nat.zero_le _, rfl, by rw [show ((0 : Nat) : Int) = 0 from rfl, Int.add_zero, HWF.out], HO5.out, htb.out, hbw.out, hs3⟩
                      case round =>
                        clear HO5 htb hbw hs3 c0
                        rename World => W6
                        obtain ⟨k, hkn, rfl, rfl, hout, htb, hbw, hs3⟩ := hrel
                        have c0 := HCL.out W6 hbw.out
                        have hsW6 := hbw.out.size
                        have hbX2 : b < W6.heap.size := by omega
                        by_cases hkl : k < V.length
                        · obtain ⟨br, offr, rfl, hbr, hcr⟩ := HFR.out (by omega)
                          obtain ⟨d0, d1⟩ := hcr k hkl
                          have HOX := HME.out k hkl
                          have HBR : Hid (bRow f0 V D (k + 1) = (bRow f0 V D k).set (V.getD k (0, false)).1.toNat (passC ((bRow f0 V D k).getD (V.getD k (0, false)).1.toNat Cr.none) (V.getD k (0, false)).2 (wrap64 (f0 + (k : Int))) (wrap64 (f0 + if k + 1 = V.length then 0 else ((k + 1 : Nat) : Int))))) := (rfl : bRow f0 V D (k + 1) = (bRow f0 V D k).set (V.getD k (0, false)).1.toNat (passC ((bRow f0 V D k).getD (V.getD k (0, false)).1.toNat Cr.none) (V.getD k (0, false)).2 (wrap64 (f0 + (k : Int))) (wrap64 (f0 + if k + 1 = V.length then 0 else ((k + 1 : Nat) : Int)))))
                          obtain ⟨x, hx⟩ : ∃ x, V.getD k (0, false) = x := ⟨_, rfl⟩
                          rw [hx] at d0 d1 HOX HBR
                          obtain ⟨xc, xo⟩ := x
                          simp only at d0 d1 HBR
                          have hoo : 0 ≤ xc ∧ xc < (q : Int) := by simpa [okV] using HOX
                          obtain ⟨c, rfl⟩ : ∃ c : Nat, xc = (c : Int) := ⟨xc.toNat, by omega⟩
                          rw [Int.toNat_natCast] at HBR
                          have hcq : c < q := by omega
                          have hci : (c : Int) < (q : Int) := by omega
                          have hki : (k : Int) < (V.length : Int) := by omega
                          have c1 : W6.cell? ⟨br, offr + k * 2, none⟩ = some (.int .i64 (c : Nat)) := bcell hbw.out hbr d0
                          have c2 : W6.cell? ⟨br, offr + k * 2 + 1, none⟩ = some (.bool xo) := bcell hbw.out hbr d1
                          have hbX : br < W6.heap.size := by omega
                          have HLB : Hid ((bRow f0 V D k).length = q) := (by rw [bRow_len, HLE.out] : (bRow f0 V D k).length = q)
                          have hrow6 := hout.out.row
                          rw [HLB.out] at hrow6
                          obtain ⟨g, c', eg, hg1, hg2⟩ := own_block hrow6 (by omega)
                          injection eg with eg1 eg2 eg3
                          obtain rfl : a3 = some ⟨g, 0, none⟩ := eg1
                          have hcl : c < (bRow f0 V D k).length := by rw [HLB.out]; exact hcq
                          obtain ⟨q0, q1, q2, q3, q4⟩ := cells_get (bRow f0 V D k) c hcl
                          have e0 := hrow6.cellAt (c * 5) (by omega)
                          have e1 := hrow6.cellAt (c * 5 + 1) (by omega)
                          have e2 := hrow6.cellAt (c * 5 + 2) (by omega)
                          have e3 := hrow6.cellAt (c * 5 + 3) (by omega)
                          have e4 := hrow6.cellAt (c * 5 + 4) (by omega)
                          rw [q0] at e0
                          rw [q1] at e1
                          rw [q2] at e2
                          rw [q3] at e3
                          rw [q4] at e4
                          obtain ⟨y, hy⟩ : ∃ y, (bRow f0 V D k).getD c Cr.none = y := ⟨_, rfl⟩
                          have HYP : Hid (y.plus = P.getD c false) := (by rw [← hy, bRow_plus, HPL.out c hcq] : y.plus = P.getD c false)
                          rw [hy] at HBR e0 e1 e2 e3 e4
                          obtain ⟨ya, yb, yc, yd, yp⟩ := y
                          have z0 := hrow6.frozenAt (c * 5)
                          have z1 := hrow6.frozenAt (c * 5 + 1)
                          have z2 := hrow6.frozenAt (c * 5 + 2)
                          have z3 := hrow6.frozenAt (c * 5 + 3)
                          have z4 := hrow6.frozenAt (c * 5 + 4)
                          have m0 : W6.cell? ⟨W2.heap.size, 0, none⟩ = some (.slice (some ⟨g, 0, none⟩) q c3) := block_cell hout.out.box rfl
                          have HOU : Hid (OutAt W6 (W2.heap.size + 1) W2.heap.size (.slice (some ⟨g, 0, none⟩) q c3) ol (bRow f0 V D k)) := hout
                          have HRO : Hid (W6.ownsRow (W2.heap.size + 1) 64 5 (.slice (some ⟨g, 0, none⟩) q c3) q (crossCells (bRow f0 V D k))) := hrow6
                          obtain ⟨a', cap', ea, f⟩ := HP.out
                          injection ea with ea1 ea2 ea3
                          obtain ⟨bp, offp, eb, hbp, hcp⟩ := f (by rw [HN.out]; omega)
                          obtain rfl : ap = some ⟨bp, offp, none⟩ := ea1.trans eb
                          have hp0 := hcp c (by rw [HN.out]; exact hcq)
                          rw [← HYP.out] at hp0
                          have c3' : W6.cell? ⟨bp, offp + c, none⟩ = some (.bool yp) := bcell hbw.out hbp hp0
                          have hbPX : bp < W6.heap.size := by omega
                          obtain ⟨A, hA⟩ : ∃ A, wrap64 (f0 + (k : Int)) = A := ⟨_, rfl⟩
                          obtain ⟨N1, hN1⟩ : ∃ N1, wrap64 (f0 + ((k + 1 : Nat) : Int)) = N1 := ⟨_, rfl⟩
                          have hw1 : IntKind.i64.wrap (A + 1) = N1 := by
                            rw [IntWalk.i64_left, ← hA, wrap64_one, ← hN1]
                            congr 1
                            omega
                          have HN1 : Hid (wrap64 (f0 + ((k + 1 : Nat) : Int)) = N1) := hN1
                          rw [hA] at HBR ⊢
                          have lG : W2.heap.size < W6.heap.size := by omega
                          clear hcr d0 d1 HOX hx hoo f hcp ea1 ea2 ea3 eb hp0 q0 q1 q2 q3 q4 hy eg2 eg3 hout hrow6 hA hN1
                          try (first | (exfalso; have hz := HZ.out rfl; omega) | (exfalso; have hz := HZ.out trivial; omega))
                          all_goals
                            by_cases hlast : k + 1 = V.length
                            · rw [if_pos hlast, Int.add_zero, HWF.out] at HBR
                              have hle : (((k : Int) + 1) == (V.length : Int)) = true := by rw [beq_iff_eq]; omega
                              have hle2 : (k + 1 == V.length) = true := by rw [beq_iff_eq]; omega
                              cases xo with
                              | false =>
                                as_aux_lemma =>
                                  have HQ : Hid (_ ∧ _ ∧ _ ∧ _) := out_put (w := w) HOU.out (Nat.lt_succ_self _) hcl HLB.out (Cr.mk A yb f0 yd yp) (.cells #[.int .i64 A, .int .i64 yb, .int .i64 f0, .int .i64 yd, .bool yp] 64) htb.out hbw.out (by omega) hs3
                                  have HBN : Hid (bRow f0 V D (k + 1) = (bRow f0 V D k).set c (Cr.mk A yb f0 yd yp)) := (by rw [HBR.out]; rfl : bRow f0 V D (k + 1) = (bRow f0 V D k).set c (Cr.mk A yb f0 yd yp))
                                  go_wp2
                                  go_roundw
                                  case rel =>
                                    refine ⟨k + 1, by omega, by go_num, by rw [HN1.out], ?_, HQ.out.2.1, HQ.out.2.2.1, HQ.out.2.2.2⟩
                                    rw [HBN.out]
                                    exact HQ.out.1
                                  case measure => simp only [intOf]; omega
                              | true =>
                                cases yp with
                                | true =>
                                  as_aux_lemma =>
                                    have HQ : Hid (_ ∧ _ ∧ _ ∧ _) := out_put (w := w) HOU.out (Nat.lt_succ_self _) hcl HLB.out (Cr.mk ya f0 yc A true) (.cells #[.int .i64 ya, .int .i64 f0, .int .i64 yc, .int .i64 A, .bool true] 64) htb.out hbw.out (by omega) hs3
                                    have HBN : Hid (bRow f0 V D (k + 1) = (bRow f0 V D k).set c (Cr.mk ya f0 yc A true)) := (by rw [HBR.out]; rfl : bRow f0 V D (k + 1) = (bRow f0 V D k).set c (Cr.mk ya f0 yc A true))
                                    go_wp2
                                    go_roundw
                                    case rel =>
                                      refine ⟨k + 1, by omega, by go_num, by rw [HN1.out], ?_, HQ.out.2.1, HQ.out.2.2.1, HQ.out.2.2.2⟩
                                      rw [HBN.out]
                                      exact HQ.out.1
                                    case measure => simp only [intOf]; omega
                                | false =>
                                  as_aux_lemma =>
                                    have HQ : Hid (_ ∧ _ ∧ _ ∧ _) := out_put (w := w) HOU.out (Nat.lt_succ_self _) hcl HLB.out (Cr.mk ya A yc f0 false) (.cells #[.int .i64 ya, .int .i64 A, .int .i64 yc, .int .i64 f0, .bool false] 64) htb.out hbw.out (by omega) hs3
                                    have HBN : Hid (bRow f0 V D (k + 1) = (bRow f0 V D k).set c (Cr.mk ya A yc f0 false)) := (by rw [HBR.out]; rfl : bRow f0 V D (k + 1) = (bRow f0 V D k).set c (Cr.mk ya A yc f0 false))
                                    go_wp2
                                    go_roundw
                                    case rel =>
                                      refine ⟨k + 1, by omega, by go_num, by rw [HN1.out], ?_, HQ.out.2.1, HQ.out.2.2.1, HQ.out.2.2.2⟩
                                      rw [HBN.out]
                                      exact HQ.out.1
                                    case measure => simp only [intOf]; omega
                            · rw [if_neg hlast, HN1.out] at HBR
                              have hle : (((k : Int) + 1) == (V.length : Int)) = false := by rw [beq_eq_false_iff_ne]; omega
                              have hle2 : (k + 1 == V.length) = false := by rw [beq_eq_false_iff_ne]; omega
                              cases xo with
                              | false =>
                                as_aux_lemma =>
                                  have HQ : Hid (_ ∧ _ ∧ _ ∧ _) := out_put (w := w) HOU.out (Nat.lt_succ_self _) hcl HLB.out (Cr.mk A yb N1 yd yp) (.cells #[.int .i64 A, .int .i64 yb, .int .i64 N1, .int .i64 yd, .bool yp] 64) htb.out hbw.out (by omega) hs3
                                  have HBN : Hid (bRow f0 V D (k + 1) = (bRow f0 V D k).set c (Cr.mk A yb N1 yd yp)) := (by rw [HBR.out]; rfl : bRow f0 V D (k + 1) = (bRow f0 V D k).set c (Cr.mk A yb N1 yd yp))
                                  go_wp2
                                  go_roundw
                                  case rel =>
                                    refine ⟨k + 1, by omega, by go_num, by rw [HN1.out], ?_, HQ.out.2.1, HQ.out.2.2.1, HQ.out.2.2.2⟩
                                    rw [HBN.out]
                                    exact HQ.out.1
                                  case measure => simp only [intOf]; omega
                              | true =>
                                cases yp with
                                | true =>
                                  as_aux_lemma =>
                                    have HQ : Hid (_ ∧ _ ∧ _ ∧ _) := out_put (w := w) HOU.out (Nat.lt_succ_self _) hcl HLB.out (Cr.mk ya N1 yc A true) (.cells #[.int .i64 ya, .int .i64 N1, .int .i64 yc, .int .i64 A, .bool true] 64) htb.out hbw.out (by omega) hs3
                                    have HBN : Hid (bRow f0 V D (k + 1) = (bRow f0 V D k).set c (Cr.mk ya N1 yc A true)) := (by rw [HBR.out]; rfl : bRow f0 V D (k + 1) = (bRow f0 V D k).set c (Cr.mk ya N1 yc A true))
                                    go_wp2
                                    go_roundw
                                    case rel =>
                                      refine ⟨k + 1, by omega, by go_num, by rw [HN1.out], ?_, HQ.out.2.1, HQ.out.2.2.1, HQ.out.2.2.2⟩
                                      rw [HBN.out]
                                      exact HQ.out.1
                                    case measure => simp only [intOf]; omega
                                | false =>
                                  as_aux_lemma =>
                                    have HQ : Hid (_ ∧ _ ∧ _ ∧ _) := out_put (w := w) HOU.out (Nat.lt_succ_self _) hcl HLB.out (Cr.mk ya A yc N1 false) (.cells #[.int .i64 ya, .int .i64 A, .int .i64 yc, .int .i64 N1, .bool false] 64) htb.out hbw.out (by omega) hs3
                                    have HBN : Hid (bRow f0 V D (k + 1) = (bRow f0 V D k).set c (Cr.mk ya A yc N1 false)) := (by rw [HBR.out]; rfl : bRow f0 V D (k + 1) = (bRow f0 V D k).set c (Cr.mk ya A yc N1 false))
                                    go_wp2
                                    go_roundw
                                    case rel =>
                                      refine ⟨k + 1, by omega, by go_num, by rw [HN1.out], ?_, HQ.out.2.1, HQ.out.2.2.1, HQ.out.2.2.2⟩
                                      rw [HBN.out]
                                      exact HQ.out.1
                                    case measure => simp only [intOf]; omega
                        · obtain rfl : k = V.length := by omega
                          go_wp2
                          go_roundw
                          case rel =>
                            refine ⟨j + 1, by omega, by go_num, ?_, ?_, htb.out, hbw.out, hs3⟩
                            · rw [HNXT.out]
                            · rw [HNXT.out]; exact hout.out
                          case measure => simp only [intOf]; omega
                    · as_aux_lemma =>
                        obtain rfl : j = L.length := by omega
                        have r0 : W5.cell? ⟨w.heap.size, 0, none⟩ = some (.slice none 0 0) := block_cell htb.out rfl
                        have r1 : W5.cell? ⟨w.heap.size, 1, none⟩ = some (.int .i64 0) := block_cell htb.out rfl
                        have r2 : W5.frozen? ⟨w.heap.size, 0, none⟩ = false := block_frozen htb.out
                        have r3 : W5.frozen? ⟨w.heap.size, 1, none⟩ = false := block_frozen htb.out
                        have r4 : W5.cell? ⟨W2.heap.size, 0, none⟩ = some (.slice a3 q c3) := block_cell hout.out.box rfl
                        have r5 : W5.cell? ⟨W2.heap.size, 1, none⟩ = some (.int .i64 ol) := block_cell hout.out.box rfl
                        have r6 : w.heap.size < W5.heap.size := (Array.getElem?_eq_some_iff.1 htb.out).1
                        have r7 : W2.heap.size < W5.heap.size := (Array.getElem?_eq_some_iff.1 hout.out.box).1
                        have hg2 := st2_grown W5 w.heap.size 0 (.slice a3 q c3) (.int .i64 ol)
                        have hbx : ((W5.setCell ⟨w.heap.size, 0, none⟩ (.slice a3 q c3)).setCell ⟨w.heap.size, 1, none⟩ (.int .i64 ol)).heap[w.heap.size]? = some (.cells #[.slice a3 q c3, .int .i64 ol] 24 (0, 0)) := set_block (i := 1) (set_block (i := 0) htb.out)
                        have x0 := block_cell (i := 0) hbx rfl
                        have x1 := block_cell (i := 1) hbx rfl
                        have HRR : Hid (Crs ((W5.setCell ⟨w.heap.size, 0, none⟩ (.slice a3 q c3)).setCell ⟨w.heap.size, 1, none⟩ (.int .i64 ol)) ((W5.setCell ⟨w.heap.size, 0, none⟩ (.slice a3 q c3)).setCell ⟨w.heap.size, 1, none⟩ (.int .i64 ol)).heap.size (.slice a3 q c3) oc) := (by
                          have hrow := hout.out.kept (q := w.heap.size) hg2 (by omega) (by omega)
                          rw [HOC2.out]
                          exact crs_own hrow.row (by rw [bAll_len, HN.out]; unfold maxLen; omega) : Crs ((W5.setCell ⟨w.heap.size, 0, none⟩ (.slice a3 q c3)).setCell ⟨w.heap.size, 1, none⟩ (.int .i64 ol)) ((W5.setCell ⟨w.heap.size, 0, none⟩ (.slice a3 q c3)).setCell ⟨w.heap.size, 1, none⟩ (.int .i64 ol)).heap.size (.slice a3 q c3) oc)
                        have HBB : Hid (Below w.heap.size w ((W5.setCell ⟨w.heap.size, 0, none⟩ (.slice a3 q c3)).setCell ⟨w.heap.size, 1, none⟩ (.int .i64 ol))) := hbw.out.grown hg2 hbw.out.size (fun k hk => by have := Option.some.inj hk; omega)
                        have X0 : Hid (_ = _) := x0
                        have X1 : Hid (_ = _) := x1
                        clear hg2 hbx x0 x1 hout
                        go_wp2
                        exact bodyPost_ret (v := .tuple #[.agg #[.slice a3 q c3, .int .i64 ol], .int .i64 0]) (by simp [results, Try.results29, go_sem, X0.out, X1.out]) rfl ⟨_, rfl, HRR.out, HBB.out⟩
end Go.Proofs.Ytmggackacaobjaa
