/- The walk of drawing.Of. -/
import Derived.Test.YtlcogbcpmneknaaG7P
import Derived.Deep.RegionHeld3
namespace Go.Proofs.Ytlcogbcpmneknaa
open Go.RowKit

theorem crs_some {w : World} {B : Nat} {ad : Option Addr} {cap : Nat} {C : List Cr} (h : Crs w B (.slice ad C.length cap) C) (hp : 0 < C.length) : ∃ b off, ad = some ⟨b, off, none⟩ ∧ b < B ∧ CrossAt w b off C := by
  obtain ⟨a', cap', e, _, g⟩ := h
  injection e with e1 e2 e3
  obtain ⟨b, off, h1, h2, h3⟩ := g hp
  exact ⟨b, off, by rw [e1, h1], h2, h3⟩

set_option maxHeartbeats 8000000 in
set_option maxRecDepth 100000 in
theorem of_some (ad : Option Addr) (cap : Nat) (C : List Cr) (loops : Int) (w : World) (hs : sizeB C loops = true) (hC : Crs w w.heap.size (.slice ad C.length cap) C) :
    Calls Try.prog 48 #[.agg #[.slice ad C.length cap, .int .i64 loops]] w fun e w' => ∃ d, e = .returned (.tuple #[d, .bool (mayD C loops)]) ∧ Below w.heap.size w w' ∧ Drawn w w' w.heap.size (.slice ad C.length cap) loops C d := by
  obtain ⟨s1, s2, s3, s4⟩ := sizeB_iff hs
  have HC : Hid (Crs w w.heap.size (.slice ad C.length cap) C) := hC
  have HS : Hid (sizeB C loops = true) := hs
  clear hC hs
  have dA : decide (16 < (C.length : Int)) = false := by simp; omega
  have dA2 : decide (16 < C.length) = false := by simp; omega
  have dB : decide (loops < 0) = false := by simp; omega
  have dC : decide (16 < loops) = false := by simp; omega
  have dD : ((C.length : Int) + loops == 0) = false := by rw [beq_eq_false_iff_ne]; omega
  clear s4
  obtain ⟨m, hm⟩ : ∃ m : Nat, m = 2 * C.length + 1 := ⟨_, rfl⟩
  have hmi : 2 * (C.length : Int) + 1 = (m : Int) := by omega
  have HMM : Hid (m = 2 * C.length + 1) := hm
  have hm40 : m ≤ 40 := by omega
  clear hm
  have HM : Hid (0 = 0) := (rfl : 0 = 0)
  go_enter Try.func48, Try.ntmps48
  go_wp2
  obtain ⟨W0, hW0⟩ : ∃ W0, W0 = ((w.alloc (.cells #[.slice ad C.length cap, .int .i64 loops] 24)).alloc (.cells #[.slice none 0 0, .int .i64 0, .slice none 0 0, .slice none 0 0] 39)) := ⟨_, rfl⟩
  rw [← hW0]
  have hs0 : W0.heap.size = w.heap.size + 2 := by rw [hW0]; simp
  have hT0 : W0.heap[w.heap.size]? = some (.cells #[.slice ad C.length cap, .int .i64 loops] 24 (0, 0)) := by
    rw [hW0]
    exact ((World.grownBy_alloc _ _ none).block w.heap.size (by simp) (by simp)).trans Array.getElem?_push_size
  have hT1 : W0.heap[w.heap.size + 1]? = some (.cells #[.slice none 0 0, .int .i64 0, .slice none 0 0, .slice none 0 0] 39 (0, 0)) := by
    rw [hW0]
    have e : w.heap.size + 1 = (w.alloc (.cells #[.slice ad C.length cap, .int .i64 loops] 24)).heap.size := by simp
    rw [e]
    exact Array.getElem?_push_size
  have HB0 : Hid (Below w.heap.size w W0) := (by rw [hW0]; exact below2 _ _ _ : Below w.heap.size w W0)
  have HT0 : Hid (W0.heap[w.heap.size]? = some (.cells #[.slice ad C.length cap, .int .i64 loops] 24 (0, 0))) := hT0
  have HT1 : Hid (W0.heap[w.heap.size + 1]? = some (.cells #[.slice none 0 0, .int .i64 0, .slice none 0 0, .slice none 0 0] 39 (0, 0))) := hT1
  have k0 : W0.cell? ⟨w.heap.size, 0, none⟩ = some (.slice ad C.length cap) := by unfold World.cell?; rw [hT0]; rfl
  have k1 : W0.cell? ⟨w.heap.size, 1, none⟩ = some (.int .i64 loops) := by unfold World.cell?; rw [hT0]; rfl
  clear hW0 hT0 hT1
  have hwA : IntKind.i64.wrap (2 * (C.length : Int)) = 2 * (C.length : Int) := IntWalk.i64_in _ (by omega)
  have hwC : IntKind.i64.wrap (m : Int) = (m : Int) := IntWalk.i64_in _ (by omega)
  have hwB : IntKind.i64.wrap (2 * (C.length : Int) + 1) = (m : Int) := by rw [← hmi]; exact IntWalk.i64_in _ (by omega)
  go_region_held3 (fun w' => w'.cell? ⟨w.heap.size, 0, none⟩ = some (.slice ad C.length cap) ∧ w'.cell? ⟨w.heap.size, 1, none⟩ = some (.int .i64 loops)) (first | exact ⟨k30, k31⟩ | exact ⟨k20, k21⟩ | exact ⟨k0, k1⟩ | exact ⟨st4_cell (by omega) k30, st4_cell (by omega) k31⟩) (first
    | (go_at_call 55; clear HM; refine (unknown_any m _ hm40).mono ?_; rintro e9 w2 ⟨v2, rfl, hF, hb2⟩
       obtain ⟨a2, c2, rfl⟩ := own_capS hF
       have HB2 : Hid (Below W0.heap.size W0 w2) := (Below.refl _ _).drew.trans hb2
       have k20 := bcell HB2.out (by omega) k0
       have k21 := bcell HB2.out (by omega) k1
       clear hb2)
    | (go_at_call 55; refine (unknown_any m _ hm40).mono ?_; rintro e9 w3 ⟨v3, rfl, hT, hb3⟩
       obtain ⟨a3, c3, rfl⟩ := own_capS hT
       have HB3 : Hid (Below W0.heap.size W0 w3) := HB2.out.trans (hb3.mono HB2.out.size)
       have k30 := bcell HB3.out (by omega) k0
       have k31 := bcell HB3.out (by omega) k1
       have hT3 : w3.heap[w.heap.size + 1]? = some (.cells #[.slice none 0 0, .int .i64 0, .slice none 0 0, .slice none 0 0] 39 (0, 0)) := (HB3.out.block _ (by omega)).trans HT1.out
       have g0 : w3.cell? ⟨w.heap.size + 1, 0, none⟩ = some (.slice none 0 0) := by unfold World.cell?; rw [hT3]; rfl
       have g1 : w3.cell? ⟨w.heap.size + 1, 1, none⟩ = some (.int .i64 0) := by unfold World.cell?; rw [hT3]; rfl
       have g2 : w3.cell? ⟨w.heap.size + 1, 2, none⟩ = some (.slice none 0 0) := by unfold World.cell?; rw [hT3]; rfl
       have g3 : w3.cell? ⟨w.heap.size + 1, 3, none⟩ = some (.slice none 0 0) := by unfold World.cell?; rw [hT3]; rfl
       have f0 : w3.frozen? ⟨w.heap.size + 1, 0, none⟩ = false := by simp [World.frozen?, hT3]
       have f1 : w3.frozen? ⟨w.heap.size + 1, 1, none⟩ = false := by simp [World.frozen?, hT3]
       have f2 : w3.frozen? ⟨w.heap.size + 1, 2, none⟩ = false := by simp [World.frozen?, hT3]
       have f3 : w3.frozen? ⟨w.heap.size + 1, 3, none⟩ = false := by simp [World.frozen?, hT3]
       have HB23 : Hid (Below w2.heap.size w2 w3) := hb3
       have HT3 : Hid (w3.heap[w.heap.size + 1]? = some (.cells #[.slice none 0 0, .int .i64 0, .slice none 0 0, .slice none 0 0] 39 (0, 0))) := hT3
       clear hb3 hT3))
  have HST : Hid (∃ gF cF gT cT, .slice a2 m c2 = Value.slice (some ⟨gF, 0, none⟩) (2 * C.length + 1) cF ∧ .slice a3 m c3 = Value.slice (some ⟨gT, 0, none⟩) (2 * C.length + 1) cT ∧
      OfAt w.heap.size gF cF gT cT (.slice ad C.length cap) loops C 0 0 (st4 w3 (w.heap.size + 1) (.slice ad C.length cap) (.int .i64 loops) (.slice a2 m c2) (.slice a3 m c3))) := by
    show ∃ gF cF gT cT, .slice a2 m c2 = Value.slice (some ⟨gF, 0, none⟩) (2 * C.length + 1) cF ∧ .slice a3 m c3 = Value.slice (some ⟨gT, 0, none⟩) (2 * C.length + 1) cT ∧
      OfAt w.heap.size gF cF gT cT (.slice ad C.length cap) loops C 0 0 (st4 w3 (w.heap.size + 1) (.slice ad C.length cap) (.int .i64 loops) (.slice a2 m c2) (.slice a3 m c3))
    have hm := HMM.out
    obtain ⟨gF, cF, hvF, hF1, hF2⟩ := own_block hF (by omega)
    obtain ⟨gT, cT, hvT, hT1, hT2⟩ := own_block hT (by omega)
    have e0 : W0.drew.heap.size = w.heap.size + 2 := hs0
    have hg := st4_grown w3 (w.heap.size + 1) (.slice ad C.length cap) (.int .i64 loops) (.slice a2 m c2) (.slice a3 m c3)
    have hF3 := own_any hF (grown_below HB23.out none)
    rw [hvF] at hF3 hg ⊢
    rw [hvT] at hT hg ⊢
    rw [e0] at hF3 hF1
    have hsz2 := HB2.out.size
    refine ⟨gF, cF, gT, cT, by rw [hm], by rw [hm], ⟨?_, ?_, ?_, ?_, by omega⟩⟩
    · exact (hg.block _ (by have := HB3.out.size; omega) (fun e => by have := Option.some.inj e; omega)).trans ((HB3.out.block _ (by omega)).trans HT0.out)
    · have := st4_block (a := .slice ad C.length cap) (b := .int .i64 loops) (c := .slice (some ⟨gF, 0, none⟩) m cF) (d := .slice (some ⟨gT, 0, none⟩) m cT) HT3.out
      rw [← hm]
      exact this
    · rw [ends_start, ← hm]
      exact hF3.kept hg (Or.inr (fun e => by have : gF = w.heap.size + 1 := Option.some.inj e; omega))
    · rw [ends_start, ← hm]
      exact (own_low hT (by omega)).kept hg (Or.inr (fun e => by have : gT = w.heap.size + 1 := Option.some.inj e; omega))
  have HBX : Hid (Below w.heap.size w (st4 w3 (w.heap.size + 1) (.slice ad C.length cap) (.int .i64 loops) (.slice a2 m c2) (.slice a3 m c3))) :=
    (HB0.out.trans (HB3.out.mono (by omega))).grown (st4_grown _ _ _ _ _ _) (by have := HB3.out.size; omega) (fun k hk => by have := Option.some.inj hk; omega)
  clear hF hT HB2 HB3 HB23 HT3 HT0 HT1 HB0 k0 k1 k20 k21 k30 k31 g0 g1 g2 g3 f0 f1 f2 f3 hwA hwB hwC hmi hm40
  obtain ⟨X, hX⟩ : ∃ X, X = st4 w3 (w.heap.size + 1) (.slice ad C.length cap) (.int .i64 loops) (.slice a2 m c2) (.slice a3 m c3) := ⟨_, rfl⟩
  rw [← hX] at HST HBX
  unfold st4 at hX
  rw [← hX]
  obtain ⟨gF, cF, gT, cT, hvF, hvT, HOF⟩ := HST.out
  have HO0 : Hid (OfAt w.heap.size gF cF gT cT (.slice ad C.length cap) loops C 0 0 X) := HOF
  have x0 : X.cell? ⟨w.heap.size, 0, none⟩ = some (.slice ad C.length cap) := block_cell HO0.out.dia rfl
  have hszX : w.heap.size + 2 ≤ X.heap.size := by have := (HO0.out.to.lt gT rfl); omega
  clear hX HOF HST
  rw [hvF, hvT]
  clear hvF hvT
  go_wp2
  go_loopw [46] (fun v46 wr => ∃ i : Nat, i ≤ C.length ∧ v46 = .int .i64 i ∧ OfAt w.heap.size gF cF gT cT (.slice ad C.length cap) loops C i 0 wr ∧ Hid (∀ i' k' : Nat, i' < i → k' < 4 → fit C i' k') ∧ Below w.heap.size w wr) (fun v46 _ => C.length - (intOf v46).toNat)
  case atStart => exact ⟨0, Nat.zero_le _, rfl, HO0.out, fun i' k' hi => absurd hi (Nat.not_lt_zero _), HBX.out⟩
  case round =>
    clear x0 HO0 HBX
    rename World => W1
    obtain ⟨i, hi, rfl, hof, hfit, hb⟩ := hrel
    have hszW := hb.size
    have hgT := hof.to.lt gT rfl
    have hgF := hof.from_.lt gF rfl
    by_cases hil : i < C.length
    · obtain ⟨b, off, e3, hbw, hC⟩ := crs_some HC.out (by omega)
      subst e3
      obtain ⟨c0, c1, c2, c3, c4⟩ := (hC.on hb hbw) i hil
      clear hC
      have HXX : Hid (∀ k, (C.getD i Cr.none).arc k = (C.getD i Cr.none).arc k) := fun _ => rfl
      obtain ⟨x, hx⟩ : ∃ x, C.getD i Cr.none = x := ⟨_, rfl⟩
      rw [hx] at c0 c1 c2 c3 c4
      have HX : Hid (C.getD i Cr.none = x) := hx
      clear hx HXX
      have hbr : b < W1.heap.size := by omega
      have hdi : decide ((i : Int) < (C.length : Int)) = true := by simp; omega
      have hdi2 : decide (i < C.length) = true := by simp; omega
      go_wp2_with (go_at_call 53; refine (arcs_any x _).mono ?_; rintro e9 w4 ⟨rfl, hb4⟩; refine Hid.out ?_)
      refine Lib.hid ?_
      have HB4 : Hid (Below w.heap.size w w4) := (hb.alloc hszW _).trans (hb4.mono (by simp; omega))
      have HO4 : Hid (OfAt w.heap.size gF cF gT cT (.slice (some ⟨b, off, none⟩) C.length cap) loops C i 0 w4) := hof.on (((Below.refl _ _).alloc (Nat.le_refl _) _).trans (hb4.mono (by simp))) (by omega)
      have HCB : Hid (w4.heap[W1.heap.size]? = some (.cells #[.int .i64 x.a, .int .i64 x.b, .int .i64 x.c, .int .i64 x.d, .bool x.plus] 58 (0, 0))) := (hb4.block _ (by simp)).trans Array.getElem?_push_size
      clear hb4 c0 c1 c2 c3 c4
      go_wp2
      go_loopw [53] (fun v53 ws => ∃ k : Nat, k ≤ 4 ∧ v53 = .int .i64 k ∧ OfAt w.heap.size gF cF gT cT (.slice (some ⟨b, off, none⟩) C.length cap) loops C i k ws ∧ Hid (∀ k' : Nat, k' < k → fit C i k') ∧ Below w.heap.size w ws ∧ ws.heap[W1.heap.size]? = some (.cells #[.int .i64 x.a, .int .i64 x.b, .int .i64 x.c, .int .i64 x.d, .bool x.plus] 58 (0, 0))) (fun v53 _ => 4 - (intOf v53).toNat)
      case atStart => exact ⟨0, Nat.zero_le _, rfl, HO4.out, fun k' hk => absurd hk (Nat.not_lt_zero _), HB4.out, HCB.out⟩
      case round =>
        clear HB4 HO4 HCB hof hb
        rename World => W3
        obtain ⟨k, hk, rfl, hof, hfk, hb, hcb⟩ := hrel
        by_cases hkl : k < 4
        · have HOF : Hid (OfAt w.heap.size gF cF gT cT (.slice (some ⟨b, off, none⟩) C.length cap) loops C i k W3) := hof
          have HCB : Hid (W3.heap[W1.heap.size]? = some (.cells #[.int .i64 x.a, .int .i64 x.b, .int .i64 x.c, .int .i64 x.d, .bool x.plus] 58 (0, 0))) := hcb
          have HBB : Hid (Below w.heap.size w W3) := hb
          have q0 : W3.cell? ⟨W1.heap.size, 0, none⟩ = some (.int .i64 x.a) := block_cell hcb rfl
          have q1 : W3.cell? ⟨W1.heap.size, 1, none⟩ = some (.int .i64 x.b) := block_cell hcb rfl
          have q2 : W3.cell? ⟨W1.heap.size, 2, none⟩ = some (.int .i64 x.c) := block_cell hcb rfl
          have q3 : W3.cell? ⟨W1.heap.size, 3, none⟩ = some (.int .i64 x.d) := block_cell hcb rfl
          have q4 : W3.cell? ⟨W1.heap.size, 4, none⟩ = some (.bool x.plus) := block_cell hcb rfl
          have d2 : W3.cell? ⟨w.heap.size + 1, 2, none⟩ = some (.slice (some ⟨gF, 0, none⟩) (2 * C.length + 1) cF) := block_cell hof.dra rfl
          have d3 : W3.cell? ⟨w.heap.size + 1, 3, none⟩ = some (.slice (some ⟨gT, 0, none⟩) (2 * C.length + 1) cT) := block_cell hof.dra rfl
          clear hof hcb hb
          have hdk : decide ((k : Int) < 4) = true := by simp; omega
          have hdk2 : decide (k < 4) = true := by simp; omega
          have hcl : W1.heap.size < W3.heap.size := by
            rcases Nat.lt_or_ge W1.heap.size W3.heap.size with h | h
            · exact h
            · rw [Array.getElem?_eq_none h] at HCB; cases HCB.out
          have hix := index_arr x k hkl
          obtain ⟨av, hav⟩ : ∃ av, x.arc k = av := ⟨_, rfl⟩
          obtain ⟨cv, hcv⟩ : ∃ cv, x.comes k = cv := ⟨_, rfl⟩
          have HAV : Hid (x.arc k = av) := hav
          have HCV : Hid (x.comes k = cv) := hcv
          rw [hav] at hix
          clear hav hcv
          cases cv with
          | true =>
            go_wp2_with (go_at_call 54; refine (comesIn_any x k _ hkl).mono ?_; rw [HCV.out]; rintro e9 w5 ⟨rfl, hb5⟩; refine Hid.out ?_)
            refine Lib.hid ?_
            have HO5 : Hid (OfAt w.heap.size gF cF gT cT (.slice (some ⟨b, off, none⟩) C.length cap) loops C i k w5) := HOF.out.on hb5 (by omega)
            have HB5 : Hid (Below w.heap.size w w5) := HBB.out.trans (hb5.mono HBB.out.size)
            have HC5 : Hid (w5.heap[W1.heap.size]? = some (.cells #[.int .i64 x.a, .int .i64 x.b, .int .i64 x.c, .int .i64 x.d, .bool x.plus] 58 (0, 0))) := (hb5.block _ hcl).trans HCB.out
            have hs5 : W3.heap.size ≤ w5.heap.size := hb5.size
            clear hb5 q0 q1 q2 q3 q4 d2 d3
            have d0 : w5.cell? ⟨w.heap.size + 1, 0, none⟩ = some (.slice (some ⟨b, off, none⟩) C.length cap) := block_cell HO5.out.dra rfl
            have d1 : w5.cell? ⟨w.heap.size + 1, 1, none⟩ = some (.int .i64 loops) := block_cell HO5.out.dra rfl
            have d2 : w5.cell? ⟨w.heap.size + 1, 2, none⟩ = some (.slice (some ⟨gF, 0, none⟩) (2 * C.length + 1) cF) := block_cell HO5.out.dra rfl
            have d3 : w5.cell? ⟨w.heap.size + 1, 3, none⟩ = some (.slice (some ⟨gT, 0, none⟩) (2 * C.length + 1) cT) := block_cell HO5.out.dra rfl
            have f0 : w5.frozen? ⟨w.heap.size + 1, 0, none⟩ = false := block_frozen HO5.out.dra
            have f1 : w5.frozen? ⟨w.heap.size + 1, 1, none⟩ = false := block_frozen HO5.out.dra
            have f2 : w5.frozen? ⟨w.heap.size + 1, 2, none⟩ = false := block_frozen HO5.out.dra
            have f3 : w5.frozen? ⟨w.heap.size + 1, 3, none⟩ = false := block_frozen HO5.out.dra
            have hw2 : IntKind.i64.wrap (2 * (C.length : Int)) = 2 * (C.length : Int) := IntWalk.i64_in _ (by omega)
            by_cases hlo : av < 1
            · have HN : Hid (mayD C loops = false) := unfit_no hil hkl (fun h => by have := h.1; rw [HX.out, HAV.out] at this; omega)
              have hd : decide (av < 1) = true := by simp; omega
              go_wp2
              have hX := st4_block (a := .slice none 0 0) (b := .int .i64 0) (c := .slice none 0 0) (d := .slice none 0 0) HO5.out.dra
              unfold st4 at hX
              have x0 := block_cell (i := 0) (v := .slice none 0 0) hX rfl
              have x1 := block_cell (i := 1) (v := .int .i64 0) hX rfl
              have x2 := block_cell (i := 2) (v := .slice none 0 0) hX rfl
              have x3 := block_cell (i := 3) (v := .slice none 0 0) hX rfl
              exact bodyPost_ret (v := .tuple #[noDrawing, .bool false]) (by simp [results, Try.results48, go_sem, noDrawing, x0, x1, x2, x3]) rfl ⟨noDrawing, by rw [HN.out], HB5.out.grown (st4_grown w5 (w.heap.size + 1) (.slice none 0 0) (.int .i64 0) (.slice none 0 0) (.slice none 0 0)) HB5.out.size (fun q hq => by have := Option.some.inj hq; omega), ⟨fun _ => rfl, fun h => by rw [HN.out] at h; cases h⟩⟩
            · by_cases hhi : 2 * (C.length : Int) < av
              · have HN : Hid (mayD C loops = false) := unfit_no hil hkl (fun h => by have := h.2.1; rw [HX.out, HAV.out] at this; omega)
                have hd1 : decide (av < 1) = false := by simp; omega
                have hd : decide (2 * (C.length : Int) < av) = true := by simp; omega
                go_wp2
                have hX := st4_block (a := .slice none 0 0) (b := .int .i64 0) (c := .slice none 0 0) (d := .slice none 0 0) HO5.out.dra
                unfold st4 at hX
                have x0 := block_cell (i := 0) (v := .slice none 0 0) hX rfl
                have x1 := block_cell (i := 1) (v := .int .i64 0) hX rfl
                have x2 := block_cell (i := 2) (v := .slice none 0 0) hX rfl
                have x3 := block_cell (i := 3) (v := .slice none 0 0) hX rfl
                exact bodyPost_ret (v := .tuple #[noDrawing, .bool false]) (by simp [results, Try.results48, go_sem, noDrawing, x0, x1, x2, x3]) rfl ⟨noDrawing, by rw [HN.out], HB5.out.grown (st4_grown w5 (w.heap.size + 1) (.slice none 0 0) (.int .i64 0) (.slice none 0 0) (.slice none 0 0)) HB5.out.size (fun q hq => by have := Option.some.inj hq; omega), ⟨fun _ => rfl, fun h => by rw [HN.out] at h; cases h⟩⟩
              · obtain ⟨a, rfl⟩ : ∃ a : Nat, av = (a : Int) := ⟨av.toNat, by omega⟩
                have hd1 : decide ((a : Int) < 1) = false := by simp; omega
                have hd2 : decide (2 * (C.length : Int) < (a : Int)) = false := by simp; omega
                have hal : a < 2 * C.length + 1 := by omega
                have e0 : w5.cell? ⟨gT, a * 2, none⟩ = some (.int .i64 (endAh C a true i k).1) := by
                  rw [HO5.out.to.cellAt (a * 2) (by omega), flat_cellE _ a (by rw [ends_length]; omega), ends_at C true i k a (by omega) (by omega)]
                have e1 : w5.cell? ⟨gT, a * 2 + 1, none⟩ = some (.int .i64 (endAh C a true i k).2) := by
                  rw [HO5.out.to.cellAt (a * 2 + 1) (by omega), flat_cellC _ a (by rw [ends_length]; omega), ends_at C true i k a (by omega) (by omega)]
                have z0 : w5.frozen? ⟨gT, a * 2, none⟩ = false := HO5.out.to.frozenAt (a * 2)
                have z1 : w5.frozen? ⟨gT, a * 2 + 1, none⟩ = false := HO5.out.to.frozenAt (a * 2 + 1)
                have hgl : gT < w5.heap.size := (HO5.out.to.lt gT rfl).2
                have HFR : Hid ((endAh C a true i k).1 = -1 ↔ ahd C a true i k = 0) := endAh_free C a true i k (by omega)
                generalize (endAh C a true i k).1 = u at e0 HFR
                generalize (endAh C a true i k).2 = u2 at e1
                by_cases hu : u = -1
                · subst hu
                  have HFT : Hid (fit C i k) := ⟨by rw [HX.out, HAV.out]; omega, by rw [HX.out, HAV.out]; omega, by rw [HX.out, HAV.out, HCV.out]; exact HFR.out.1 rfl⟩
                  have HNX : Hid (OfAt w.heap.size gF cF gT cT (.slice (some ⟨b, off, none⟩) C.length cap) loops C i (k + 1) (st2 w5 gT (a * 2) (.int .i64 (i : Nat)) (.int .i64 (k : Nat)))) := HO5.out.storeT (by omega) (by omega) (by rw [HX.out]; exact HCV.out) (by rw [HX.out]; exact HAV.out)
                  clear d0 d1 d2 f0 f1 f2 f3
                  go_wp2
                  go_roundw
                  case rel =>
                    refine ⟨k + 1, by omega, by go_num, HNX.out, fun k' hk' => ?_, HB5.out.grown (st2_grown w5 gT (a * 2) (.int .i64 (i : Nat)) (.int .i64 (k : Nat))) HB5.out.size (fun q hq => by have := Option.some.inj hq; omega), ((st2_grown w5 gT (a * 2) (.int .i64 (i : Nat)) (.int .i64 (k : Nat))).block _ (by omega) (fun e => by have := Option.some.inj e; omega)).trans HC5.out⟩
                    by_cases e : k' = k
                    · rw [e]; exact HFT.out
                    · exact hfk.out k' (by omega)
                  case measure => simp only [intOf]; omega
                · have HN : Hid (mayD C loops = false) := unfit_no hil hkl (fun h => by have := h.2.2; rw [HX.out, HAV.out, HCV.out] at this; exact hu (HFR.out.2 this))
                  have hd : (u != -1) = true := by rw [bne_iff_ne]; exact hu
                  go_wp2
                  have hX := st4_block (a := .slice none 0 0) (b := .int .i64 0) (c := .slice none 0 0) (d := .slice none 0 0) HO5.out.dra
                  unfold st4 at hX
                  have x0 := block_cell (i := 0) (v := .slice none 0 0) hX rfl
                  have x1 := block_cell (i := 1) (v := .int .i64 0) hX rfl
                  have x2 := block_cell (i := 2) (v := .slice none 0 0) hX rfl
                  have x3 := block_cell (i := 3) (v := .slice none 0 0) hX rfl
                  exact bodyPost_ret (v := .tuple #[noDrawing, .bool false]) (by simp [results, Try.results48, go_sem, noDrawing, x0, x1, x2, x3]) rfl ⟨noDrawing, by rw [HN.out], HB5.out.grown (st4_grown w5 (w.heap.size + 1) (.slice none 0 0) (.int .i64 0) (.slice none 0 0) (.slice none 0 0)) HB5.out.size (fun q hq => by have := Option.some.inj hq; omega), ⟨fun _ => rfl, fun h => by rw [HN.out] at h; cases h⟩⟩
          | false =>
            go_wp2_with (go_at_call 54; refine (comesIn_any x k _ hkl).mono ?_; rw [HCV.out]; rintro e9 w5 ⟨rfl, hb5⟩; refine Hid.out ?_)
            refine Lib.hid ?_
            have HO5 : Hid (OfAt w.heap.size gF cF gT cT (.slice (some ⟨b, off, none⟩) C.length cap) loops C i k w5) := HOF.out.on hb5 (by omega)
            have HB5 : Hid (Below w.heap.size w w5) := HBB.out.trans (hb5.mono HBB.out.size)
            have HC5 : Hid (w5.heap[W1.heap.size]? = some (.cells #[.int .i64 x.a, .int .i64 x.b, .int .i64 x.c, .int .i64 x.d, .bool x.plus] 58 (0, 0))) := (hb5.block _ hcl).trans HCB.out
            have hs5 : W3.heap.size ≤ w5.heap.size := hb5.size
            clear hb5 q0 q1 q2 q3 q4 d2 d3
            have d0 : w5.cell? ⟨w.heap.size + 1, 0, none⟩ = some (.slice (some ⟨b, off, none⟩) C.length cap) := block_cell HO5.out.dra rfl
            have d1 : w5.cell? ⟨w.heap.size + 1, 1, none⟩ = some (.int .i64 loops) := block_cell HO5.out.dra rfl
            have d2 : w5.cell? ⟨w.heap.size + 1, 2, none⟩ = some (.slice (some ⟨gF, 0, none⟩) (2 * C.length + 1) cF) := block_cell HO5.out.dra rfl
            have d3 : w5.cell? ⟨w.heap.size + 1, 3, none⟩ = some (.slice (some ⟨gT, 0, none⟩) (2 * C.length + 1) cT) := block_cell HO5.out.dra rfl
            have f0 : w5.frozen? ⟨w.heap.size + 1, 0, none⟩ = false := block_frozen HO5.out.dra
            have f1 : w5.frozen? ⟨w.heap.size + 1, 1, none⟩ = false := block_frozen HO5.out.dra
            have f2 : w5.frozen? ⟨w.heap.size + 1, 2, none⟩ = false := block_frozen HO5.out.dra
            have f3 : w5.frozen? ⟨w.heap.size + 1, 3, none⟩ = false := block_frozen HO5.out.dra
            have hw2 : IntKind.i64.wrap (2 * (C.length : Int)) = 2 * (C.length : Int) := IntWalk.i64_in _ (by omega)
            by_cases hlo : av < 1
            · have HN : Hid (mayD C loops = false) := unfit_no hil hkl (fun h => by have := h.1; rw [HX.out, HAV.out] at this; omega)
              have hd : decide (av < 1) = true := by simp; omega
              go_wp2
              have hX := st4_block (a := .slice none 0 0) (b := .int .i64 0) (c := .slice none 0 0) (d := .slice none 0 0) HO5.out.dra
              unfold st4 at hX
              have x0 := block_cell (i := 0) (v := .slice none 0 0) hX rfl
              have x1 := block_cell (i := 1) (v := .int .i64 0) hX rfl
              have x2 := block_cell (i := 2) (v := .slice none 0 0) hX rfl
              have x3 := block_cell (i := 3) (v := .slice none 0 0) hX rfl
              exact bodyPost_ret (v := .tuple #[noDrawing, .bool false]) (by simp [results, Try.results48, go_sem, noDrawing, x0, x1, x2, x3]) rfl ⟨noDrawing, by rw [HN.out], HB5.out.grown (st4_grown w5 (w.heap.size + 1) (.slice none 0 0) (.int .i64 0) (.slice none 0 0) (.slice none 0 0)) HB5.out.size (fun q hq => by have := Option.some.inj hq; omega), ⟨fun _ => rfl, fun h => by rw [HN.out] at h; cases h⟩⟩
            · by_cases hhi : 2 * (C.length : Int) < av
              · have HN : Hid (mayD C loops = false) := unfit_no hil hkl (fun h => by have := h.2.1; rw [HX.out, HAV.out] at this; omega)
                have hd1 : decide (av < 1) = false := by simp; omega
                have hd : decide (2 * (C.length : Int) < av) = true := by simp; omega
                go_wp2
                have hX := st4_block (a := .slice none 0 0) (b := .int .i64 0) (c := .slice none 0 0) (d := .slice none 0 0) HO5.out.dra
                unfold st4 at hX
                have x0 := block_cell (i := 0) (v := .slice none 0 0) hX rfl
                have x1 := block_cell (i := 1) (v := .int .i64 0) hX rfl
                have x2 := block_cell (i := 2) (v := .slice none 0 0) hX rfl
                have x3 := block_cell (i := 3) (v := .slice none 0 0) hX rfl
                exact bodyPost_ret (v := .tuple #[noDrawing, .bool false]) (by simp [results, Try.results48, go_sem, noDrawing, x0, x1, x2, x3]) rfl ⟨noDrawing, by rw [HN.out], HB5.out.grown (st4_grown w5 (w.heap.size + 1) (.slice none 0 0) (.int .i64 0) (.slice none 0 0) (.slice none 0 0)) HB5.out.size (fun q hq => by have := Option.some.inj hq; omega), ⟨fun _ => rfl, fun h => by rw [HN.out] at h; cases h⟩⟩
              · obtain ⟨a, rfl⟩ : ∃ a : Nat, av = (a : Int) := ⟨av.toNat, by omega⟩
                have hd1 : decide ((a : Int) < 1) = false := by simp; omega
                have hd2 : decide (2 * (C.length : Int) < (a : Int)) = false := by simp; omega
                have hal : a < 2 * C.length + 1 := by omega
                have e0 : w5.cell? ⟨gF, a * 2, none⟩ = some (.int .i64 (endAh C a false i k).1) := by
                  rw [HO5.out.from_.cellAt (a * 2) (by omega), flat_cellE _ a (by rw [ends_length]; omega), ends_at C false i k a (by omega) (by omega)]
                have e1 : w5.cell? ⟨gF, a * 2 + 1, none⟩ = some (.int .i64 (endAh C a false i k).2) := by
                  rw [HO5.out.from_.cellAt (a * 2 + 1) (by omega), flat_cellC _ a (by rw [ends_length]; omega), ends_at C false i k a (by omega) (by omega)]
                have z0 : w5.frozen? ⟨gF, a * 2, none⟩ = false := HO5.out.from_.frozenAt (a * 2)
                have z1 : w5.frozen? ⟨gF, a * 2 + 1, none⟩ = false := HO5.out.from_.frozenAt (a * 2 + 1)
                have hgl : gF < w5.heap.size := (HO5.out.from_.lt gF rfl).2
                have HFR : Hid ((endAh C a false i k).1 = -1 ↔ ahd C a false i k = 0) := endAh_free C a false i k (by omega)
                generalize (endAh C a false i k).1 = u at e0 HFR
                generalize (endAh C a false i k).2 = u2 at e1
                by_cases hu : u = -1
                · subst hu
                  have HFT : Hid (fit C i k) := ⟨by rw [HX.out, HAV.out]; omega, by rw [HX.out, HAV.out]; omega, by rw [HX.out, HAV.out, HCV.out]; exact HFR.out.1 rfl⟩
                  have HNX : Hid (OfAt w.heap.size gF cF gT cT (.slice (some ⟨b, off, none⟩) C.length cap) loops C i (k + 1) (st2 w5 gF (a * 2) (.int .i64 (i : Nat)) (.int .i64 (k : Nat)))) := HO5.out.storeF (by omega) (by omega) (by rw [HX.out]; exact HCV.out) (by rw [HX.out]; exact HAV.out)
                  clear d0 d1 d2 f0 f1 f2 f3
                  go_wp2
                  go_roundw
                  case rel =>
                    refine ⟨k + 1, by omega, by go_num, HNX.out, fun k' hk' => ?_, HB5.out.grown (st2_grown w5 gF (a * 2) (.int .i64 (i : Nat)) (.int .i64 (k : Nat))) HB5.out.size (fun q hq => by have := Option.some.inj hq; omega), ((st2_grown w5 gF (a * 2) (.int .i64 (i : Nat)) (.int .i64 (k : Nat))).block _ (by omega) (fun e => by have := Option.some.inj e; omega)).trans HC5.out⟩
                    by_cases e : k' = k
                    · rw [e]; exact HFT.out
                    · exact hfk.out k' (by omega)
                  case measure => simp only [intOf]; omega
                · have HN : Hid (mayD C loops = false) := unfit_no hil hkl (fun h => by have := h.2.2; rw [HX.out, HAV.out, HCV.out] at this; exact hu (HFR.out.2 this))
                  have hd : (u != -1) = true := by rw [bne_iff_ne]; exact hu
                  go_wp2
                  have hX := st4_block (a := .slice none 0 0) (b := .int .i64 0) (c := .slice none 0 0) (d := .slice none 0 0) HO5.out.dra
                  unfold st4 at hX
                  have x0 := block_cell (i := 0) (v := .slice none 0 0) hX rfl
                  have x1 := block_cell (i := 1) (v := .int .i64 0) hX rfl
                  have x2 := block_cell (i := 2) (v := .slice none 0 0) hX rfl
                  have x3 := block_cell (i := 3) (v := .slice none 0 0) hX rfl
                  exact bodyPost_ret (v := .tuple #[noDrawing, .bool false]) (by simp [results, Try.results48, go_sem, noDrawing, x0, x1, x2, x3]) rfl ⟨noDrawing, by rw [HN.out], HB5.out.grown (st4_grown w5 (w.heap.size + 1) (.slice none 0 0) (.int .i64 0) (.slice none 0 0) (.slice none 0 0)) HB5.out.size (fun q hq => by have := Option.some.inj hq; omega), ⟨fun _ => rfl, fun h => by rw [HN.out] at h; cases h⟩⟩
        · obtain rfl : k = 4 := by omega
          go_wp2
          go_roundw
          case rel =>
            refine ⟨i + 1, by omega, by go_num, hof.row, fun i' k' hi' hk' => ?_, hb⟩
            by_cases e : i' = i
            · rw [e]; exact hfk.out k' hk'
            · exact hfit.out i' k' (by omega) hk'
          case measure => simp only [intOf]; omega
    · obtain rfl : i = C.length := by omega
      have HY : Hid (mayD C loops = true) := fit_yes HS.out (fun i' k' hi' hk' => hfit.out i' k' hi' hk')
      have HOF : Hid (OfAt w.heap.size gF cF gT cT (.slice ad C.length cap) loops C C.length 0 W1) := hof
      have d0 : W1.cell? ⟨w.heap.size + 1, 0, none⟩ = some (.slice ad C.length cap) := block_cell hof.dra rfl
      have d1 : W1.cell? ⟨w.heap.size + 1, 1, none⟩ = some (.int .i64 loops) := block_cell hof.dra rfl
      have d2 : W1.cell? ⟨w.heap.size + 1, 2, none⟩ = some (.slice (some ⟨gF, 0, none⟩) (2 * C.length + 1) cF) := block_cell hof.dra rfl
      have d3 : W1.cell? ⟨w.heap.size + 1, 3, none⟩ = some (.slice (some ⟨gT, 0, none⟩) (2 * C.length + 1) cT) := block_cell hof.dra rfl
      have f0 : W1.frozen? ⟨w.heap.size + 1, 0, none⟩ = false := block_frozen hof.dra
      have f1 : W1.frozen? ⟨w.heap.size + 1, 1, none⟩ = false := block_frozen hof.dra
      have f2 : W1.frozen? ⟨w.heap.size + 1, 2, none⟩ = false := block_frozen hof.dra
      have f3 : W1.frozen? ⟨w.heap.size + 1, 3, none⟩ = false := block_frozen hof.dra
      clear hof
      have hdn : decide ((C.length : Int) < (C.length : Int)) = false := by simp
      go_wp2
      have hX := st4_block (a := .slice ad C.length cap) (b := .int .i64 loops) (c := .slice (some ⟨gF, 0, none⟩) (2 * C.length + 1) cF) (d := .slice (some ⟨gT, 0, none⟩) (2 * C.length + 1) cT) HOF.out.dra
      have hG := st4_grown W1 (w.heap.size + 1) (.slice ad C.length cap) (.int .i64 loops) (.slice (some ⟨gF, 0, none⟩) (2 * C.length + 1) cF) (.slice (some ⟨gT, 0, none⟩) (2 * C.length + 1) cT)
      have HGR : Hid (W1.grownBy (st4 W1 (w.heap.size + 1) (.slice ad C.length cap) (.int .i64 loops) (.slice (some ⟨gF, 0, none⟩) (2 * C.length + 1) cF) (.slice (some ⟨gT, 0, none⟩) (2 * C.length + 1) cT)) (some (w.heap.size + 1))) := hG
      clear hG
      unfold st4 at hX
      have x0 := block_cell (i := 0) (v := .slice ad C.length cap) hX rfl
      have x1 := block_cell (i := 1) (v := .int .i64 loops) hX rfl
      have x2 := block_cell (i := 2) (v := .slice (some ⟨gF, 0, none⟩) (2 * C.length + 1) cF) hX rfl
      have x3 := block_cell (i := 3) (v := .slice (some ⟨gT, 0, none⟩) (2 * C.length + 1) cT) hX rfl
      refine bodyPost_ret (v := .tuple #[.agg #[.slice ad C.length cap, .int .i64 loops, .slice (some ⟨gF, 0, none⟩) (2 * C.length + 1) cF, .slice (some ⟨gT, 0, none⟩) (2 * C.length + 1) cT], .bool true]) (by simp [results, Try.results48, go_sem, x0, x1, x2, x3]) rfl ⟨_, by rw [HY.out], hb.grown HGR.out hb.size (fun q hq => by have := Option.some.inj hq; omega), ⟨fun h => (by rw [HY.out] at h; cases h), fun _ => ⟨gF, cF, gT, cT, rfl, ?_, ?_⟩⟩⟩
      · exact own_low (HOF.out.from_.kept HGR.out (Or.inr (fun e => by have : gF = w.heap.size + 1 := Option.some.inj e; omega))) (by omega)
      · exact own_low (HOF.out.to.kept HGR.out (Or.inr (fun e => by have : gT = w.heap.size + 1 := Option.some.inj e; omega))) (by omega)

/-- drawing.Of. -/
theorem of_any (v : Value) (C : List Cr) (loops : Int) (w : World) (h : Crs w w.heap.size v C) :
    Calls Try.prog 48 #[.agg #[v, .int .i64 loops]] w fun e w' => ∃ d, e = .returned (.tuple #[d, .bool (mayD C loops)]) ∧ Below w.heap.size w w' ∧ Drawn w w' w.heap.size v loops C d := by
  cases hs : sizeB C loops with
  | false =>
    refine (of_size v C loops w h hs).mono ?_
    rintro e w' ⟨rfl, hb⟩
    have hN := mayD_size hs
    exact ⟨noDrawing, by rw [hN], hb, ⟨fun _ => rfl, fun h => (by rw [hN] at h; cases h)⟩⟩
  | true =>
    have h' := h
    obtain ⟨a, cap, rfl, hn, g⟩ := h
    exact of_some a cap C loops w hs h'
end Go.Proofs.Ytlcogbcpmneknaa
