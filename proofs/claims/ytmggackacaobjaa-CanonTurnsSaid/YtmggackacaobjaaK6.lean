/- The walk of ref.ReverseOf. -/
import Derived.Test.YtmggackacaobjaaK5
import Derived.Test.YtmggackacaobjaaW4
import Derived.Test.YtmggackacaobjaaW6
namespace Go.Proofs.Ytmggackacaobjaa
open Go.RowKit

theorem below_set {B : Nat} {W w : World} (h : Below B W w) {s : Nat} (hs : B ≤ s) (i : Nat) (u : Value) : Below B W (w.setCell ⟨s, i, none⟩ u) := by
  refine ⟨h.os, h.tape, h.output, ?_, fun k hk => ?_⟩
  · have := h.size
    simpa using this
  · exact (heap_setCell_other w ⟨s, i, none⟩ k u (fun e => by simp only at e; omega)).trans (h.block k hk)

set_option maxHeartbeats 8000000 in
set_option maxRecDepth 100000 in
theorem reverseOf_some (a : Option Addr) (cap : Nat) (C : List Cr) (loops : Int) (p : Nat) (w : World) (hm : mayD C loops = true) (hD : Crs w w.heap.size (.slice a C.length cap) C) (hp : p < (walksM C).length) :
    Calls Try.prog 42 #[.agg #[.slice a C.length cap, .int .i64 loops], .int .i64 (p : Nat)] w fun e w' => ∃ v, e = .returned (.tuple #[.agg #[v, .int .i64 loops], .int .i64 0]) ∧ Crs w' w'.heap.size v (revC ((walksM C).getD p []) C) ∧ Below w.heap.size w w' := by
  obtain ⟨s16, -, -, -⟩ := sizeB_iff (may_size hm)
  obtain ⟨i0, hi, hz0, hz1, hz2⟩ := info_parts infoCross
  have HD : Hid (Crs w w.heap.size (.slice a C.length cap) C) := hD
  have HM : Hid (mayD C loops = true) := hm
  have hlr := ((walksM_facts hm).2 p hp).2.1
  have hlL := (walksM_facts hm).1
  clear hD hm
  obtain ⟨w0, hw0⟩ : ∃ w0, w0 = (w.alloc (.cells #[.slice a C.length cap, .int .i64 loops] 24)).alloc (.cells #[.slice none 0 0, .int .i64 0] 24) := ⟨_, rfl⟩
  have HW0 : Hid (w0 = (w.alloc (.cells #[.slice a C.length cap, .int .i64 loops] 24)).alloc (.cells #[.slice none 0 0, .int .i64 0] 24)) := hw0
  have hs0 : w0.heap.size = w.heap.size + 2 := by rw [hw0]; simp
  have HB0 : Hid (Below w.heap.size w w0) := (by rw [hw0]; exact below2 _ _ _ : Below w.heap.size w w0)
  have HT0 : Hid (w0.heap[w.heap.size]? = some (.cells #[.slice a C.length cap, .int .i64 loops] 24 (0, 0))) := (by rw [hw0]; exact alloc_old (alloc_at rfl) : w0.heap[w.heap.size]? = some (.cells #[.slice a C.length cap, .int .i64 loops] 24 (0, 0)))
  have HT1 : Hid (w0.heap[w.heap.size + 1]? = some (.cells #[.slice none 0 0, .int .i64 0] 24 (0, 0))) := (by rw [hw0]; exact alloc_at (by simp) : w0.heap[w.heap.size + 1]? = some (.cells #[.slice none 0 0, .int .i64 0] 24 (0, 0)))
  have HD0 : Hid (Crs w0 w0.heap.size (.slice a C.length cap) C) := HD.out.up HB0.out
  clear hw0
  go_enter Try.func42, Try.ntmps42
  go_wp2_with (go_at_call 23; rw [← HW0.out]; refine (strandsOf_any a cap C loops _ HM.out HD0.out).mono ?_; rintro e9 w2 ⟨r, rfl, hr, hb2⟩; refine Hid.out ?_)
  refine Lib.hid ?_
  have HWK : Hid (WksAt w2 r (walksM C)) := hr.wks
  have HB2 : Hid (Below w.heap.size w w2) := HB0.out.trans (hb2.mono HB0.out.size)
  have HD2 : Hid (w2.heap[w.heap.size]? = some (.cells #[.slice a C.length cap, .int .i64 loops] 24 (0, 0))) := (hb2.block _ (by omega)).trans HT0.out
  have HR2 : Hid (w2.heap[w.heap.size + 1]? = some (.cells #[.slice none 0 0, .int .i64 0] 24 (0, 0))) := (hb2.block _ (by omega)).trans HT1.out
  have hs2 : w.heap.size + 2 ≤ w2.heap.size := by have := hb2.size; omega
  clear hr hb2 HT0 HT1 HD0 HW0
  obtain ⟨ys, hyl, ⟨ar, cr, rfl, gr⟩, hwk⟩ := HWK.out
  rw [hyl] at gr ⊢
  obtain ⟨br, orr, rfl, hbr, hcr⟩ := gr (by omega)
  have hc0 := hcr p hp
  have HSW0 := hwk p hp
  obtain ⟨aw, cw, ew, -⟩ := hwk p hp
  rw [ew] at hc0 HSW0
  rw [nats_len] at hc0 HSW0
  have HSW : Hid (Slots w2 w2.heap.size (.slice aw ((walksM C).getD p []).length cw) (nats ((walksM C).getD p []))) := HSW0
  have HC0 : Hid (w2.cell? ⟨br, orr + p, none⟩ = some (.slice aw ((walksM C).getD p []).length cw)) := hc0
  clear hcr hwk gr ew hc0 HSW0 HWK hyl
  have hlr' : ((walksM C).getD p []).length ≤ 100 := by omega
  clear hlr
  have hlr := hlr'
  clear hlr'
  generalize (walksM C).length = L at hp hlL ⊢
  obtain ⟨wk, hwke⟩ : ∃ wk, (walksM C).getD p [] = wk := ⟨_, rfl⟩
  rw [hwke] at hlr HSW HC0
  have HWKE : Hid ((walksM C).getD p [] = wk) := hwke
  clear hwke
  have hdp : decide ((p : Int) < 0) = false := by simp
  have hdq : decide ((L : Int) ≤ (p : Int)) = false := by simp; omega
  have hdq2 : decide (L ≤ p) = false := by simp; omega
  have p0 : w2.cell? ⟨w.heap.size, 0, none⟩ = some (.slice a C.length cap) := block_cell HD2.out rfl
  have p1 : w2.cell? ⟨w.heap.size, 1, none⟩ = some (.int .i64 loops) := block_cell HD2.out rfl
  have hl0 : w.heap.size < w2.heap.size := by omega
  obtain ⟨w3, hw3⟩ : ∃ w3, w3 = w2.alloc (.cells #[.slice none 0 0, .int .i64 loops] 24) := ⟨_, rfl⟩
  have HW3 : Hid (w3 = w2.alloc (.cells #[.slice none 0 0, .int .i64 loops] 24)) := hw3
  have HO3 : Hid (OutAt w3 (w2.heap.size + 1) w2.heap.size (.slice none 0 0) loops []) := (by rw [hw3]; exact OutAt.nil (alloc_at rfl) : OutAt w3 (w2.heap.size + 1) w2.heap.size (.slice none 0 0) loops [])
  have HB3 : Hid (Below w2.heap.size w2 w3) := (by rw [hw3]; exact (Below.refl _ _).alloc (Nat.le_refl _) _ : Below w2.heap.size w2 w3)
  clear hw3
  go_wp2
  clear p0 p1
  rw [← HW3.out]
  go_loopw [8] (fun v8 wr => ∃ (i : Nat) (v3 : Value) (acc : List Cr), i ≤ C.length ∧ v8 = .int .i64 (i : Nat) ∧ Hid (acc.length = i) ∧ Hid (acc = (C.take i).map (fun x => revX (wi wk x.a) (wi wk x.b) x)) ∧ OutAt wr (w2.heap.size + 1) w2.heap.size v3 loops acc ∧ Below w2.heap.size w2 wr) (fun v8 _ => C.length - (intOf v8).toNat)
  case atStart => exact ⟨0, .slice none 0 0, [], Nat.zero_le _, rfl, (rfl : ([] : List Cr).length = 0), (rfl : [] = (C.take 0).map _), HO3.out, HB3.out⟩
  case round =>
    rename World => W1
    obtain ⟨i, v3, acc, hin, rfl, hal, hacc, hout, hb⟩ := hrel
    have hszW := hb.size
    have hal16 : acc.length ≤ 16 := by have := hal.out; omega
    have hlt1 := (Array.getElem?_eq_some_iff.1 hout.box).1
    have p0 : W1.cell? ⟨w.heap.size, 0, none⟩ = some (.slice a C.length cap) := block_cell ((hb.block _ (by omega)).trans HD2.out) rfl
    have hl1 : w.heap.size < W1.heap.size := by omega
    by_cases hil : i < C.length
    · have hdi : decide ((i : Int) < (C.length : Int)) = true := by simp; omega
      have hdi2 : decide (i < C.length) = true := by simp; omega
      obtain ⟨b, off, ea, hbq, hC⟩ := crs_some HD.out (by omega)
      subst ea
      obtain ⟨c0, c1, c2, c3, c4⟩ := (hC.on (HB2.out.trans (hb.mono HB2.out.size)) hbq) i hil
      have HNX : Hid ((C.take (i + 1)).map (fun x => revX (wi wk x.a) (wi wk x.b) x) = (C.take i).map (fun x => revX (wi wk x.a) (wi wk x.b) x) ++ [revX (wi wk (C.getD i Cr.none).a) (wi wk (C.getD i Cr.none).b) (C.getD i Cr.none)]) := take_map_next _ C i hil
      clear hC
      generalize C.getD i Cr.none = x at c0 c1 c2 c3 c4 HNX
      obtain ⟨xa, xb, xc, xd, xp⟩ := x
      have hb1 : b < W1.heap.size := by omega
      have HOUT : Hid (OutAt W1 (w2.heap.size + 1) w2.heap.size v3 loops acc) := hout
      clear hout
      obtain ⟨a3, c3', ev3⟩ := own_capS HOUT.out.row
      subst ev3
      obtain ⟨Y, hY⟩ : ∃ Y, Y = W1.alloc (.cells #[.int .i64 xa, .int .i64 xb, .int .i64 xc, .int .i64 xd, .bool xp] 64) := ⟨_, rfl⟩
      have HY : Hid (Y = W1.alloc (.cells #[.int .i64 xa, .int .i64 xb, .int .i64 xc, .int .i64 xd, .bool xp] 64)) := hY
      have hsY : Y.heap.size = W1.heap.size + 1 := by rw [hY]; simp
      have HBY : Hid (Below W1.heap.size W1 Y) := (by rw [hY]; exact (Below.refl _ _).alloc (Nat.le_refl _) _ : Below W1.heap.size W1 Y)
      have HTY : Hid (Y.heap[W1.heap.size]? = some (.cells #[.int .i64 xa, .int .i64 xb, .int .i64 xc, .int .i64 xd, .bool xp] 64 (0, 0))) := (by rw [hY]; exact alloc_at rfl : Y.heap[W1.heap.size]? = some (.cells #[.int .i64 xa, .int .i64 xb, .int .i64 xc, .int .i64 xd, .bool xp] 64 (0, 0)))
      clear hY
      obtain ⟨pb, hpb⟩ : ∃ pb, wi wk xa = pb := ⟨_, rfl⟩
      obtain ⟨qb, hqb⟩ : ∃ qb, wi wk xb = qb := ⟨_, rfl⟩
      have HPB : Hid (wi wk xa = pb) := hpb
      have HQB : Hid (wi wk xb = qb) := hqb
      have HRX : Hid (revX (wi wk xa) (wi wk xb) ⟨xa, xb, xc, xd, xp⟩ = revX pb qb ⟨xa, xb, xc, xd, xp⟩) := (by rw [hpb, hqb] : revX (wi wk xa) (wi wk xb) ⟨xa, xb, xc, xd, xp⟩ = revX pb qb ⟨xa, xb, xc, xd, xp⟩)
      clear hpb hqb
      have HF : Hid (∀ w', Below Y.heap.size Y w' → w'.cell? ⟨br, orr + p, none⟩ = some (.slice aw wk.length cw) ∧ w'.cell? ⟨W1.heap.size, 0, none⟩ = some (.int .i64 xa) ∧ w'.cell? ⟨W1.heap.size, 1, none⟩ = some (.int .i64 xb)) := fun w' hw' => by
        have hB := (hb.trans (HBY.out.mono hszW)).trans (hw'.mono (by omega))
        have g0 := (hw'.block _ (by omega)).trans HTY.out
        exact ⟨bcell hB hbr HC0.out, block_cell g0 rfl, block_cell g0 rfl⟩
      have HDW : Hid (Below Y.heap.size Y Y.drew) := (Below.refl _ _).drew
      have HYY : Hid (Below Y.heap.size Y Y) := Below.refl _ _
      have HDA : Hid (∀ w', Below Y.heap.size Y w' → Below w2.heap.size w2 w') := fun w' hw' => (hb.trans (HBY.out.mono hszW)).trans (hw'.mono (by omega))
      have HDY : Hid (Below w2.heap.size w2 Y.drew) := HDA.out _ HDW.out
      have n0 : (0 : Int) ≤ (p : Int) := by omega
      have n1 : (p : Int) < (L : Int) := by omega
      have hbrY : br < Y.heap.size := by omega
      have hlY : W1.heap.size < Y.heap.size := by omega
      obtain ⟨f0, f1, f2⟩ := HF.out Y HYY.out
      go_wp2
      rw [← HY.out]
      clear c0 c1 c2 c3 c4 p0
      cases pb with
      | true =>
        cases qb with
        | true =>
          skip
          go_region_held3 (fun w' => w'.cell? ⟨br, orr + p, none⟩ = some (.slice aw wk.length cw) ∧ w'.cell? ⟨W1.heap.size, 0, none⟩ = some (.int .i64 xa) ∧ w'.cell? ⟨W1.heap.size, 1, none⟩ = some (.int .i64 xb)) (first | exact HF.out _ HS.out | exact HF.out _ HA.out | exact HF.out _ HDW.out | exact HF.out _ HYY.out) (first
            | (go_at_call 87; have hAA := HA; clear hAA; refine (within_any _ wk xb _ hlr ((HSW.out.on (HDA.out _ HA.out)).mono (HDA.out _ HA.out).size)).mono ?_; rw [HQB.out]; rintro e9 wS ⟨rfl, hbS⟩
               have HS : Hid (Below Y.heap.size Y wS) := HA.out.trans (hbS.mono HA.out.size)
               clear hbS)
            | (go_at_call 87; refine (within_any _ wk xa _ hlr ((HSW.out.on HDY.out).mono HDY.out.size)).mono ?_; rw [HPB.out]; rintro e9 wA ⟨rfl, hbA⟩
               have HA : Hid (Below Y.heap.size Y wA) := HDW.out.trans hbA
               obtain ⟨a0, a1, a2⟩ := HF.out wA HA.out
               clear hbA))
          all_goals
            have hT5 := (HS.out.block W1.heap.size (by omega)).trans HTY.out
            have s0 : wS.cell? ⟨W1.heap.size, 0, none⟩ = some (.int .i64 xa) := block_cell hT5 rfl
            have s1 : wS.cell? ⟨W1.heap.size, 1, none⟩ = some (.int .i64 xb) := block_cell hT5 rfl
            have s2 : wS.cell? ⟨W1.heap.size, 2, none⟩ = some (.int .i64 xc) := block_cell hT5 rfl
            have s3 : wS.cell? ⟨W1.heap.size, 3, none⟩ = some (.int .i64 xd) := block_cell hT5 rfl
            have s4 : wS.cell? ⟨W1.heap.size, 4, none⟩ = some (.bool xp) := block_cell hT5 rfl
            have y0 : wS.frozen? ⟨W1.heap.size, 0, none⟩ = false := block_frozen hT5
            have y1 : wS.frozen? ⟨W1.heap.size, 1, none⟩ = false := block_frozen hT5
            have y2 : wS.frozen? ⟨W1.heap.size, 2, none⟩ = false := block_frozen hT5
            have y3 : wS.frozen? ⟨W1.heap.size, 3, none⟩ = false := block_frozen hT5
            have y4 : wS.frozen? ⟨W1.heap.size, 4, none⟩ = false := block_frozen hT5
            have HBS : Hid (Below w2.heap.size w2 wS) := (hb.trans (HBY.out.mono hszW)).trans (HS.out.mono (by omega))
            have HOS : Hid (OutAt wS (w2.heap.size + 1) w2.heap.size (.slice a3 acc.length c3') loops acc) := HOUT.out.on (HBY.out.trans (HS.out.mono (by omega)))
            have t0 : wS.cell? ⟨w2.heap.size, 0, none⟩ = some (.slice a3 acc.length c3') := block_cell HOS.out.box rfl
            have t1 : w2.heap.size < wS.heap.size := (Array.getElem?_eq_some_iff.1 HOS.out.box).1
            have hsS : Y.heap.size ≤ wS.heap.size := HS.out.size
            have hlS : W1.heap.size < wS.heap.size := by omega
            clear hT5
            have HMX : Hid (revX true true ⟨xa, xb, xc, xd, xp⟩ = (⟨xc, xd, xa, xb, xp⟩ : Cr)) := (rfl : revX true true ⟨xa, xb, xc, xd, xp⟩ = (⟨xc, xd, xa, xb, xp⟩ : Cr))
            have HOX : Hid (OutAt ((((wS.setCell ⟨W1.heap.size, 0, none⟩ (.int .i64 xc)).setCell ⟨W1.heap.size, 1, none⟩ (.int .i64 xd)).setCell ⟨W1.heap.size, 2, none⟩ (.int .i64 xa)).setCell ⟨W1.heap.size, 3, none⟩ (.int .i64 xb)) (w2.heap.size + 1) w2.heap.size (.slice a3 acc.length c3') loops acc) := (HOUT.out.keptNew (HOUT.out.keptNew (HOUT.out.keptNew (HOUT.out.keptNew HOS.out (Nat.le_refl _) (set_grown wS W1.heap.size 0 (.int .i64 xc))) (Nat.le_refl _) (set_grown (wS.setCell ⟨W1.heap.size, 0, none⟩ (.int .i64 xc)) W1.heap.size 1 (.int .i64 xd))) (Nat.le_refl _) (set_grown ((wS.setCell ⟨W1.heap.size, 0, none⟩ (.int .i64 xc)).setCell ⟨W1.heap.size, 1, none⟩ (.int .i64 xd)) W1.heap.size 2 (.int .i64 xa))) (Nat.le_refl _) (set_grown (((wS.setCell ⟨W1.heap.size, 0, none⟩ (.int .i64 xc)).setCell ⟨W1.heap.size, 1, none⟩ (.int .i64 xd)).setCell ⟨W1.heap.size, 2, none⟩ (.int .i64 xa)) W1.heap.size 3 (.int .i64 xb)))
            go_wp2_with (first
              | (at_builtin; refine wpList_append_own _ rfl _ _ 22 rfl (w2.heap.size + 1) 64 i0 (.agg #[.int .i64 0, .int .i64 0, .int .i64 0, .int .i64 0, .bool false]) 5 40 Try.underlying22 hi hz0 hz1 hz2 rfl (by decide) _ _ _ rfl (HOX.out.row.alloc _) ⟨wS.heap.size, 0, none⟩ 1 1 [.int .i64 xc, .int .i64 xd, .int .i64 xa, .int .i64 xb, .bool xp] rfl rfl (new_cell5' (by simp) _ _ _ _ _ _) (cells_one [(⟨xc, xd, xa, xb, xp⟩ : Cr)]) (by unfold maxLen; omega) (by omega) (by simp; omega) ?_; intro v8 w8 hown8 hg8 _; refine Hid.out ?_))
            refine Lib.hid ?_
            have HOW8 : Hid (w8.ownsRow (w2.heap.size + 1) 64 5 v8 (acc.length + 1) (crossCells acc ++ crossCells [(⟨xc, xd, xa, xb, xp⟩ : Cr)])) := hown8
            have HG8 : Hid ((((((wS.setCell ⟨W1.heap.size, 0, none⟩ (.int .i64 xc)).setCell ⟨W1.heap.size, 1, none⟩ (.int .i64 xd)).setCell ⟨W1.heap.size, 2, none⟩ (.int .i64 xa)).setCell ⟨W1.heap.size, 3, none⟩ (.int .i64 xb)).alloc (.cells #[.int .i64 xc, .int .i64 xd, .int .i64 xa, .int .i64 xb, .bool xp] 64)).grownBy w8 (Value.slice a3 acc.length c3').ownBlock) := hg8
            obtain ⟨a8, c8, ev8⟩ := own_capS HOW8.out
            subst ev8
            have hb8 := HOX.out.box8 (by omega) HG8.out
            have r0 : w8.cell? ⟨w2.heap.size, 0, none⟩ = some (.slice a3 acc.length c3') := block_cell hb8 rfl
            have r1 : w8.frozen? ⟨w2.heap.size, 0, none⟩ = false := block_frozen hb8
            have r2 : w2.heap.size < w8.heap.size := (Array.getElem?_eq_some_iff.1 hb8).1
            clear hown8 hg8 hb8
            clear s0 s1 s2 s3 s4 y0 y1 y2 y3 y4 t0 t1
            go_wp2
            go_roundw
            all_goals first
              | (simp only [intOf]; omega)
              | exact ⟨i + 1, .slice a8 (acc.length + 1) c8, acc ++ [(⟨xc, xd, xa, xb, xp⟩ : Cr)], by omega, by go_num, (by have := hal.out; simp; omega : (acc ++ [(⟨xc, xd, xa, xb, xp⟩ : Cr)]).length = i + 1), (by rw [HNX.out, HRX.out, HMX.out, hacc.out] : acc ++ [(⟨xc, xd, xa, xb, xp⟩ : Cr)] = (C.take (i + 1)).map (fun x => revX (wi wk x.a) (wi wk x.b) x)), HOX.out.app (by omega) rfl HOW8.out HG8.out, HOX.out.below (below_set (below_set (below_set (below_set HBS.out (by omega) 0 (.int .i64 xc)) (by omega) 1 (.int .i64 xd)) (by omega) 2 (.int .i64 xa)) (by omega) 3 (.int .i64 xb)) (by omega) (by first | omega | (simp; omega)) (Nat.le_refl _) HG8.out⟩
        | false =>
          skip
          go_region_held3 (fun w' => w'.cell? ⟨br, orr + p, none⟩ = some (.slice aw wk.length cw) ∧ w'.cell? ⟨W1.heap.size, 0, none⟩ = some (.int .i64 xa) ∧ w'.cell? ⟨W1.heap.size, 1, none⟩ = some (.int .i64 xb)) (first | exact HF.out _ HS.out | exact HF.out _ HA.out | exact HF.out _ HDW.out | exact HF.out _ HYY.out) (first
            | (go_at_call 87; have hAA := HA; clear hAA; refine (within_any _ wk xb _ hlr ((HSW.out.on (HDA.out _ HA.out)).mono (HDA.out _ HA.out).size)).mono ?_; rw [HQB.out]; rintro e9 wS ⟨rfl, hbS⟩
               have HS : Hid (Below Y.heap.size Y wS) := HA.out.trans (hbS.mono HA.out.size)
               clear hbS)
            | (go_at_call 87; refine (within_any _ wk xa _ hlr ((HSW.out.on HDY.out).mono HDY.out.size)).mono ?_; rw [HPB.out]; rintro e9 wA ⟨rfl, hbA⟩
               have HA : Hid (Below Y.heap.size Y wA) := HDW.out.trans hbA
               obtain ⟨a0, a1, a2⟩ := HF.out wA HA.out
               clear hbA))
          all_goals
            have hT5 := (HS.out.block W1.heap.size (by omega)).trans HTY.out
            have s0 : wS.cell? ⟨W1.heap.size, 0, none⟩ = some (.int .i64 xa) := block_cell hT5 rfl
            have s1 : wS.cell? ⟨W1.heap.size, 1, none⟩ = some (.int .i64 xb) := block_cell hT5 rfl
            have s2 : wS.cell? ⟨W1.heap.size, 2, none⟩ = some (.int .i64 xc) := block_cell hT5 rfl
            have s3 : wS.cell? ⟨W1.heap.size, 3, none⟩ = some (.int .i64 xd) := block_cell hT5 rfl
            have s4 : wS.cell? ⟨W1.heap.size, 4, none⟩ = some (.bool xp) := block_cell hT5 rfl
            have y0 : wS.frozen? ⟨W1.heap.size, 0, none⟩ = false := block_frozen hT5
            have y1 : wS.frozen? ⟨W1.heap.size, 1, none⟩ = false := block_frozen hT5
            have y2 : wS.frozen? ⟨W1.heap.size, 2, none⟩ = false := block_frozen hT5
            have y3 : wS.frozen? ⟨W1.heap.size, 3, none⟩ = false := block_frozen hT5
            have y4 : wS.frozen? ⟨W1.heap.size, 4, none⟩ = false := block_frozen hT5
            have HBS : Hid (Below w2.heap.size w2 wS) := (hb.trans (HBY.out.mono hszW)).trans (HS.out.mono (by omega))
            have HOS : Hid (OutAt wS (w2.heap.size + 1) w2.heap.size (.slice a3 acc.length c3') loops acc) := HOUT.out.on (HBY.out.trans (HS.out.mono (by omega)))
            have t0 : wS.cell? ⟨w2.heap.size, 0, none⟩ = some (.slice a3 acc.length c3') := block_cell HOS.out.box rfl
            have t1 : w2.heap.size < wS.heap.size := (Array.getElem?_eq_some_iff.1 HOS.out.box).1
            have hsS : Y.heap.size ≤ wS.heap.size := HS.out.size
            have hlS : W1.heap.size < wS.heap.size := by omega
            clear hT5
            have HMX : Hid (revX true false ⟨xa, xb, xc, xd, xp⟩ = (⟨xc, xd, xa, xb, !xp⟩ : Cr)) := (rfl : revX true false ⟨xa, xb, xc, xd, xp⟩ = (⟨xc, xd, xa, xb, !xp⟩ : Cr))
            have HOX : Hid (OutAt (((((wS.setCell ⟨W1.heap.size, 4, none⟩ (.bool (!xp))).setCell ⟨W1.heap.size, 0, none⟩ (.int .i64 xc)).setCell ⟨W1.heap.size, 1, none⟩ (.int .i64 xd)).setCell ⟨W1.heap.size, 2, none⟩ (.int .i64 xa)).setCell ⟨W1.heap.size, 3, none⟩ (.int .i64 xb)) (w2.heap.size + 1) w2.heap.size (.slice a3 acc.length c3') loops acc) := (HOUT.out.keptNew (HOUT.out.keptNew (HOUT.out.keptNew (HOUT.out.keptNew (HOUT.out.keptNew HOS.out (Nat.le_refl _) (set_grown wS W1.heap.size 4 (.bool (!xp)))) (Nat.le_refl _) (set_grown (wS.setCell ⟨W1.heap.size, 4, none⟩ (.bool (!xp))) W1.heap.size 0 (.int .i64 xc))) (Nat.le_refl _) (set_grown ((wS.setCell ⟨W1.heap.size, 4, none⟩ (.bool (!xp))).setCell ⟨W1.heap.size, 0, none⟩ (.int .i64 xc)) W1.heap.size 1 (.int .i64 xd))) (Nat.le_refl _) (set_grown (((wS.setCell ⟨W1.heap.size, 4, none⟩ (.bool (!xp))).setCell ⟨W1.heap.size, 0, none⟩ (.int .i64 xc)).setCell ⟨W1.heap.size, 1, none⟩ (.int .i64 xd)) W1.heap.size 2 (.int .i64 xa))) (Nat.le_refl _) (set_grown ((((wS.setCell ⟨W1.heap.size, 4, none⟩ (.bool (!xp))).setCell ⟨W1.heap.size, 0, none⟩ (.int .i64 xc)).setCell ⟨W1.heap.size, 1, none⟩ (.int .i64 xd)).setCell ⟨W1.heap.size, 2, none⟩ (.int .i64 xa)) W1.heap.size 3 (.int .i64 xb)))
            go_wp2_with (first
              | (at_builtin; refine wpList_append_own _ rfl _ _ 22 rfl (w2.heap.size + 1) 64 i0 (.agg #[.int .i64 0, .int .i64 0, .int .i64 0, .int .i64 0, .bool false]) 5 40 Try.underlying22 hi hz0 hz1 hz2 rfl (by decide) _ _ _ rfl (HOX.out.row.alloc _) ⟨wS.heap.size, 0, none⟩ 1 1 [.int .i64 xc, .int .i64 xd, .int .i64 xa, .int .i64 xb, .bool (!xp)] rfl rfl (new_cell5' (by simp) _ _ _ _ _ _) (cells_one [(⟨xc, xd, xa, xb, !xp⟩ : Cr)]) (by unfold maxLen; omega) (by omega) (by simp; omega) ?_; intro v8 w8 hown8 hg8 _; refine Hid.out ?_))
            refine Lib.hid ?_
            have HOW8 : Hid (w8.ownsRow (w2.heap.size + 1) 64 5 v8 (acc.length + 1) (crossCells acc ++ crossCells [(⟨xc, xd, xa, xb, !xp⟩ : Cr)])) := hown8
            have HG8 : Hid (((((((wS.setCell ⟨W1.heap.size, 4, none⟩ (.bool (!xp))).setCell ⟨W1.heap.size, 0, none⟩ (.int .i64 xc)).setCell ⟨W1.heap.size, 1, none⟩ (.int .i64 xd)).setCell ⟨W1.heap.size, 2, none⟩ (.int .i64 xa)).setCell ⟨W1.heap.size, 3, none⟩ (.int .i64 xb)).alloc (.cells #[.int .i64 xc, .int .i64 xd, .int .i64 xa, .int .i64 xb, .bool (!xp)] 64)).grownBy w8 (Value.slice a3 acc.length c3').ownBlock) := hg8
            obtain ⟨a8, c8, ev8⟩ := own_capS HOW8.out
            subst ev8
            have hb8 := HOX.out.box8 (by omega) HG8.out
            have r0 : w8.cell? ⟨w2.heap.size, 0, none⟩ = some (.slice a3 acc.length c3') := block_cell hb8 rfl
            have r1 : w8.frozen? ⟨w2.heap.size, 0, none⟩ = false := block_frozen hb8
            have r2 : w2.heap.size < w8.heap.size := (Array.getElem?_eq_some_iff.1 hb8).1
            clear hown8 hg8 hb8
            clear s0 s1 s2 s3 s4 y0 y1 y2 y3 y4 t0 t1
            go_wp2
            go_roundw
            all_goals first
              | (simp only [intOf]; omega)
              | exact ⟨i + 1, .slice a8 (acc.length + 1) c8, acc ++ [(⟨xc, xd, xa, xb, !xp⟩ : Cr)], by omega, by go_num, (by have := hal.out; simp; omega : (acc ++ [(⟨xc, xd, xa, xb, !xp⟩ : Cr)]).length = i + 1), (by rw [HNX.out, HRX.out, HMX.out, hacc.out] : acc ++ [(⟨xc, xd, xa, xb, !xp⟩ : Cr)] = (C.take (i + 1)).map (fun x => revX (wi wk x.a) (wi wk x.b) x)), HOX.out.app (by omega) rfl HOW8.out HG8.out, HOX.out.below (below_set (below_set (below_set (below_set (below_set HBS.out (by omega) 4 (.bool (!xp))) (by omega) 0 (.int .i64 xc)) (by omega) 1 (.int .i64 xd)) (by omega) 2 (.int .i64 xa)) (by omega) 3 (.int .i64 xb)) (by omega) (by first | omega | (simp; omega)) (Nat.le_refl _) HG8.out⟩
      | false =>
        cases qb with
        | true =>
          skip
          go_region_held3 (fun w' => w'.cell? ⟨br, orr + p, none⟩ = some (.slice aw wk.length cw) ∧ w'.cell? ⟨W1.heap.size, 0, none⟩ = some (.int .i64 xa) ∧ w'.cell? ⟨W1.heap.size, 1, none⟩ = some (.int .i64 xb)) (first | exact HF.out _ HS.out | exact HF.out _ HA.out | exact HF.out _ HDW.out | exact HF.out _ HYY.out) (first
            | (go_at_call 87; have hAA := HA; clear hAA; refine (within_any _ wk xb _ hlr ((HSW.out.on (HDA.out _ HA.out)).mono (HDA.out _ HA.out).size)).mono ?_; rw [HQB.out]; rintro e9 wS ⟨rfl, hbS⟩
               have HS : Hid (Below Y.heap.size Y wS) := HA.out.trans (hbS.mono HA.out.size)
               clear hbS)
            | (go_at_call 87; refine (within_any _ wk xa _ hlr ((HSW.out.on HDY.out).mono HDY.out.size)).mono ?_; rw [HPB.out]; rintro e9 wA ⟨rfl, hbA⟩
               have HA : Hid (Below Y.heap.size Y wA) := HDW.out.trans hbA
               obtain ⟨a0, a1, a2⟩ := HF.out wA HA.out
               clear hbA))
          all_goals
            have hT5 := (HS.out.block W1.heap.size (by omega)).trans HTY.out
            have s0 : wS.cell? ⟨W1.heap.size, 0, none⟩ = some (.int .i64 xa) := block_cell hT5 rfl
            have s1 : wS.cell? ⟨W1.heap.size, 1, none⟩ = some (.int .i64 xb) := block_cell hT5 rfl
            have s2 : wS.cell? ⟨W1.heap.size, 2, none⟩ = some (.int .i64 xc) := block_cell hT5 rfl
            have s3 : wS.cell? ⟨W1.heap.size, 3, none⟩ = some (.int .i64 xd) := block_cell hT5 rfl
            have s4 : wS.cell? ⟨W1.heap.size, 4, none⟩ = some (.bool xp) := block_cell hT5 rfl
            have y0 : wS.frozen? ⟨W1.heap.size, 0, none⟩ = false := block_frozen hT5
            have y1 : wS.frozen? ⟨W1.heap.size, 1, none⟩ = false := block_frozen hT5
            have y2 : wS.frozen? ⟨W1.heap.size, 2, none⟩ = false := block_frozen hT5
            have y3 : wS.frozen? ⟨W1.heap.size, 3, none⟩ = false := block_frozen hT5
            have y4 : wS.frozen? ⟨W1.heap.size, 4, none⟩ = false := block_frozen hT5
            have HBS : Hid (Below w2.heap.size w2 wS) := (hb.trans (HBY.out.mono hszW)).trans (HS.out.mono (by omega))
            have HOS : Hid (OutAt wS (w2.heap.size + 1) w2.heap.size (.slice a3 acc.length c3') loops acc) := HOUT.out.on (HBY.out.trans (HS.out.mono (by omega)))
            have t0 : wS.cell? ⟨w2.heap.size, 0, none⟩ = some (.slice a3 acc.length c3') := block_cell HOS.out.box rfl
            have t1 : w2.heap.size < wS.heap.size := (Array.getElem?_eq_some_iff.1 HOS.out.box).1
            have hsS : Y.heap.size ≤ wS.heap.size := HS.out.size
            have hlS : W1.heap.size < wS.heap.size := by omega
            clear hT5
            have HMX : Hid (revX false true ⟨xa, xb, xc, xd, xp⟩ = (⟨xa, xb, xc, xd, !xp⟩ : Cr)) := (rfl : revX false true ⟨xa, xb, xc, xd, xp⟩ = (⟨xa, xb, xc, xd, !xp⟩ : Cr))
            have HOX : Hid (OutAt (wS.setCell ⟨W1.heap.size, 4, none⟩ (.bool (!xp))) (w2.heap.size + 1) w2.heap.size (.slice a3 acc.length c3') loops acc) := (HOUT.out.keptNew HOS.out (Nat.le_refl _) (set_grown wS W1.heap.size 4 (.bool (!xp))))
            go_wp2_with (first
              | (at_builtin; refine wpList_append_own _ rfl _ _ 22 rfl (w2.heap.size + 1) 64 i0 (.agg #[.int .i64 0, .int .i64 0, .int .i64 0, .int .i64 0, .bool false]) 5 40 Try.underlying22 hi hz0 hz1 hz2 rfl (by decide) _ _ _ rfl (HOX.out.row.alloc _) ⟨wS.heap.size, 0, none⟩ 1 1 [.int .i64 xa, .int .i64 xb, .int .i64 xc, .int .i64 xd, .bool (!xp)] rfl rfl (new_cell5' (by simp) _ _ _ _ _ _) (cells_one [(⟨xa, xb, xc, xd, !xp⟩ : Cr)]) (by unfold maxLen; omega) (by omega) (by simp; omega) ?_; intro v8 w8 hown8 hg8 _; refine Hid.out ?_))
            refine Lib.hid ?_
            have HOW8 : Hid (w8.ownsRow (w2.heap.size + 1) 64 5 v8 (acc.length + 1) (crossCells acc ++ crossCells [(⟨xa, xb, xc, xd, !xp⟩ : Cr)])) := hown8
            have HG8 : Hid (((wS.setCell ⟨W1.heap.size, 4, none⟩ (.bool (!xp))).alloc (.cells #[.int .i64 xa, .int .i64 xb, .int .i64 xc, .int .i64 xd, .bool (!xp)] 64)).grownBy w8 (Value.slice a3 acc.length c3').ownBlock) := hg8
            obtain ⟨a8, c8, ev8⟩ := own_capS HOW8.out
            subst ev8
            have hb8 := HOX.out.box8 (by omega) HG8.out
            have r0 : w8.cell? ⟨w2.heap.size, 0, none⟩ = some (.slice a3 acc.length c3') := block_cell hb8 rfl
            have r1 : w8.frozen? ⟨w2.heap.size, 0, none⟩ = false := block_frozen hb8
            have r2 : w2.heap.size < w8.heap.size := (Array.getElem?_eq_some_iff.1 hb8).1
            clear hown8 hg8 hb8
            clear s0 s1 s2 s3 s4 y0 y1 y2 y3 y4 t0 t1
            go_wp2
            go_roundw
            all_goals first
              | (simp only [intOf]; omega)
              | exact ⟨i + 1, .slice a8 (acc.length + 1) c8, acc ++ [(⟨xa, xb, xc, xd, !xp⟩ : Cr)], by omega, by go_num, (by have := hal.out; simp; omega : (acc ++ [(⟨xa, xb, xc, xd, !xp⟩ : Cr)]).length = i + 1), (by rw [HNX.out, HRX.out, HMX.out, hacc.out] : acc ++ [(⟨xa, xb, xc, xd, !xp⟩ : Cr)] = (C.take (i + 1)).map (fun x => revX (wi wk x.a) (wi wk x.b) x)), HOX.out.app (by omega) rfl HOW8.out HG8.out, HOX.out.below (below_set HBS.out (by omega) 4 (.bool (!xp))) (by omega) (by first | omega | (simp; omega)) (Nat.le_refl _) HG8.out⟩
        | false =>
          skip
          go_region_held3 (fun w' => w'.cell? ⟨br, orr + p, none⟩ = some (.slice aw wk.length cw) ∧ w'.cell? ⟨W1.heap.size, 0, none⟩ = some (.int .i64 xa) ∧ w'.cell? ⟨W1.heap.size, 1, none⟩ = some (.int .i64 xb)) (first | exact HF.out _ HS.out | exact HF.out _ HA.out | exact HF.out _ HDW.out | exact HF.out _ HYY.out) (first
            | (go_at_call 87; have hAA := HA; clear hAA; refine (within_any _ wk xb _ hlr ((HSW.out.on (HDA.out _ HA.out)).mono (HDA.out _ HA.out).size)).mono ?_; rw [HQB.out]; rintro e9 wS ⟨rfl, hbS⟩
               have HS : Hid (Below Y.heap.size Y wS) := HA.out.trans (hbS.mono HA.out.size)
               clear hbS)
            | (go_at_call 87; refine (within_any _ wk xa _ hlr ((HSW.out.on HDY.out).mono HDY.out.size)).mono ?_; rw [HPB.out]; rintro e9 wA ⟨rfl, hbA⟩
               have HA : Hid (Below Y.heap.size Y wA) := HDW.out.trans hbA
               obtain ⟨a0, a1, a2⟩ := HF.out wA HA.out
               clear hbA))
          all_goals
            have hT5 := (HS.out.block W1.heap.size (by omega)).trans HTY.out
            have s0 : wS.cell? ⟨W1.heap.size, 0, none⟩ = some (.int .i64 xa) := block_cell hT5 rfl
            have s1 : wS.cell? ⟨W1.heap.size, 1, none⟩ = some (.int .i64 xb) := block_cell hT5 rfl
            have s2 : wS.cell? ⟨W1.heap.size, 2, none⟩ = some (.int .i64 xc) := block_cell hT5 rfl
            have s3 : wS.cell? ⟨W1.heap.size, 3, none⟩ = some (.int .i64 xd) := block_cell hT5 rfl
            have s4 : wS.cell? ⟨W1.heap.size, 4, none⟩ = some (.bool xp) := block_cell hT5 rfl
            have y0 : wS.frozen? ⟨W1.heap.size, 0, none⟩ = false := block_frozen hT5
            have y1 : wS.frozen? ⟨W1.heap.size, 1, none⟩ = false := block_frozen hT5
            have y2 : wS.frozen? ⟨W1.heap.size, 2, none⟩ = false := block_frozen hT5
            have y3 : wS.frozen? ⟨W1.heap.size, 3, none⟩ = false := block_frozen hT5
            have y4 : wS.frozen? ⟨W1.heap.size, 4, none⟩ = false := block_frozen hT5
            have HBS : Hid (Below w2.heap.size w2 wS) := (hb.trans (HBY.out.mono hszW)).trans (HS.out.mono (by omega))
            have HOS : Hid (OutAt wS (w2.heap.size + 1) w2.heap.size (.slice a3 acc.length c3') loops acc) := HOUT.out.on (HBY.out.trans (HS.out.mono (by omega)))
            have t0 : wS.cell? ⟨w2.heap.size, 0, none⟩ = some (.slice a3 acc.length c3') := block_cell HOS.out.box rfl
            have t1 : w2.heap.size < wS.heap.size := (Array.getElem?_eq_some_iff.1 HOS.out.box).1
            have hsS : Y.heap.size ≤ wS.heap.size := HS.out.size
            have hlS : W1.heap.size < wS.heap.size := by omega
            clear hT5
            have HMX : Hid (revX false false ⟨xa, xb, xc, xd, xp⟩ = (⟨xa, xb, xc, xd, xp⟩ : Cr)) := (rfl : revX false false ⟨xa, xb, xc, xd, xp⟩ = (⟨xa, xb, xc, xd, xp⟩ : Cr))
            have HOX : Hid (OutAt wS (w2.heap.size + 1) w2.heap.size (.slice a3 acc.length c3') loops acc) := HOS.out
            go_wp2_with (first
              | (at_builtin; refine wpList_append_own _ rfl _ _ 22 rfl (w2.heap.size + 1) 64 i0 (.agg #[.int .i64 0, .int .i64 0, .int .i64 0, .int .i64 0, .bool false]) 5 40 Try.underlying22 hi hz0 hz1 hz2 rfl (by decide) _ _ _ rfl (HOX.out.row.alloc _) ⟨wS.heap.size, 0, none⟩ 1 1 [.int .i64 xa, .int .i64 xb, .int .i64 xc, .int .i64 xd, .bool xp] rfl rfl (new_cell5' (by simp) _ _ _ _ _ _) (cells_one [(⟨xa, xb, xc, xd, xp⟩ : Cr)]) (by unfold maxLen; omega) (by omega) (by simp; omega) ?_; intro v8 w8 hown8 hg8 _; refine Hid.out ?_))
            refine Lib.hid ?_
            have HOW8 : Hid (w8.ownsRow (w2.heap.size + 1) 64 5 v8 (acc.length + 1) (crossCells acc ++ crossCells [(⟨xa, xb, xc, xd, xp⟩ : Cr)])) := hown8
            have HG8 : Hid ((wS.alloc (.cells #[.int .i64 xa, .int .i64 xb, .int .i64 xc, .int .i64 xd, .bool xp] 64)).grownBy w8 (Value.slice a3 acc.length c3').ownBlock) := hg8
            obtain ⟨a8, c8, ev8⟩ := own_capS HOW8.out
            subst ev8
            have hb8 := HOX.out.box8 (by omega) HG8.out
            have r0 : w8.cell? ⟨w2.heap.size, 0, none⟩ = some (.slice a3 acc.length c3') := block_cell hb8 rfl
            have r1 : w8.frozen? ⟨w2.heap.size, 0, none⟩ = false := block_frozen hb8
            have r2 : w2.heap.size < w8.heap.size := (Array.getElem?_eq_some_iff.1 hb8).1
            clear hown8 hg8 hb8
            clear s0 s1 s2 s3 s4 y0 y1 y2 y3 y4 t0 t1
            go_wp2
            go_roundw
            all_goals first
              | (simp only [intOf]; omega)
              | exact ⟨i + 1, .slice a8 (acc.length + 1) c8, acc ++ [(⟨xa, xb, xc, xd, xp⟩ : Cr)], by omega, by go_num, (by have := hal.out; simp; omega : (acc ++ [(⟨xa, xb, xc, xd, xp⟩ : Cr)]).length = i + 1), (by rw [HNX.out, HRX.out, HMX.out, hacc.out] : acc ++ [(⟨xa, xb, xc, xd, xp⟩ : Cr)] = (C.take (i + 1)).map (fun x => revX (wi wk x.a) (wi wk x.b) x)), HOX.out.app (by omega) rfl HOW8.out HG8.out, HOX.out.below HBS.out (by omega) (by first | omega | (simp; omega)) (Nat.le_refl _) HG8.out⟩
    · obtain rfl : i = C.length := by omega
      have hdi : decide ((C.length : Int) < (C.length : Int)) = false := by simp
      have e : acc = revC wk C := by rw [hacc.out, List.take_length]; rfl
      have HOUT : Hid (OutAt W1 (w2.heap.size + 1) w2.heap.size v3 loops (revC wk C)) := (by rw [← e]; exact hout : OutAt W1 (w2.heap.size + 1) w2.heap.size v3 loops (revC wk C))
      have hres := (hb.block _ (by omega)).trans HR2.out
      have HRES : Hid (W1.heap[w.heap.size + 1]? = some (.cells #[.slice none 0 0, .int .i64 0] 24 (0, 0))) := hres
      have q0 : W1.cell? ⟨w2.heap.size, 0, none⟩ = some v3 := block_cell hout.box rfl
      have q1 : W1.cell? ⟨w2.heap.size, 1, none⟩ = some (.int .i64 loops) := block_cell hout.box rfl
      have r0 : W1.cell? ⟨w.heap.size + 1, 0, none⟩ = some (.slice none 0 0) := block_cell hres rfl
      have r1 : W1.cell? ⟨w.heap.size + 1, 1, none⟩ = some (.int .i64 0) := block_cell hres rfl
      have f0 : W1.frozen? ⟨w.heap.size + 1, 0, none⟩ = false := block_frozen hres
      have f1 : W1.frozen? ⟨w.heap.size + 1, 1, none⟩ = false := block_frozen hres
      have hl2 : w.heap.size + 1 < W1.heap.size := by omega
      have HBW : Hid (Below w.heap.size w W1) := HB2.out.trans (hb.mono HB2.out.size)
      clear hout hres hacc e
      obtain ⟨a3, c3', ev3⟩ := own_capS HOUT.out.row
      have hrl : (revC wk C).length = C.length := by simp [revC]
      rw [hrl] at ev3
      subst ev3
      go_wp2
      have hX := set_block (i := 1) (u := .int .i64 loops) (set_block (i := 0) (u := .slice a3 C.length c3') HRES.out)
      have x0 := block_cell (i := 0) (v := .slice a3 C.length c3') hX rfl
      have x1 := block_cell (i := 1) (v := .int .i64 loops) hX rfl
      have hk := HOUT.out.kept (st2_grown W1 (w.heap.size + 1) 0 (.slice a3 C.length c3') (.int .i64 loops)) (by omega) (by omega)
      exact bodyPost_ret (v := .tuple #[.agg #[.slice a3 C.length c3', .int .i64 loops], .int .i64 0]) (by simp [results, Try.results42, go_sem, x0, x1]) rfl ⟨_, rfl, (by rw [HWKE.out]; exact crs_own hk.row (by unfold maxLen; rw [hrl]; omega)), HBW.out.grown (st2_grown W1 (w.heap.size + 1) 0 (.slice a3 C.length c3') (.int .i64 loops)) (by omega) (fun q hq => by have := Option.some.inj hq; omega)⟩
end Go.Proofs.Ytmggackacaobjaa
