/- The walk of ref.EndOf. -/
import Derived.Test.YtagaajlbkfkaiaaLevP
namespace Go.Proofs.Ytagaajlbkfkaiaa
open Go.RowKit

theorem may_size {C : List Cr} {loops : Int} (hm : mayD C loops = true) : sizeB C loops = true := by
  cases hs : sizeB C loops with
  | true => rfl
  | false => rw [mayD_size hs] at hm; cases hm

set_option maxHeartbeats 4000000 in
set_option maxRecDepth 100000 in
theorem endOf_any (b off cap : Nat) (C : List Cr) (loops : Int) (a : Nat) (back : Bool) (w : World) (hm : mayD C loops = true) (h1 : 1 ≤ a) (h2 : a ≤ 2 * C.length) (hbw : b < w.heap.size) (hC : CrossAt w b off C) :
    Calls Try.prog 63 #[.agg #[.slice (some ⟨b, off, none⟩) C.length cap, .int .i64 loops], .int .i64 a, .bool back] w fun e w' => e = .returned (.agg #[.int .i64 (endTo C a (!back) C.length).1, .int .i64 (endTo C a (!back) C.length).2]) ∧ Below w.heap.size w w' := by
  have HM : Hid (mayD C loops = true) := hm
  obtain ⟨s1, -, -, -⟩ := sizeB_iff (may_size hm)
  have HC : Hid (CrossAt w b off C) := hC
  clear hm hC
  obtain ⟨w1, hw1⟩ : ∃ w1, w1 = (w.alloc (.cells #[.slice (some ⟨b, off, none⟩) C.length cap, .int .i64 loops] 24)).alloc (.cells #[.int .i64 0, .int .i64 0] 96) := ⟨_, rfl⟩
  have hsz1 : w1.heap.size = w.heap.size + 2 := by rw [hw1]; simp
  have HT1 : Hid (w1.heap[w.heap.size]? = some (.cells #[.slice (some ⟨b, off, none⟩) C.length cap, .int .i64 loops] 24 (0, 0))) := (by rw [hw1]; exact ((World.grownBy_alloc _ _ none).block w.heap.size (by simp) (by simp)).trans Array.getElem?_push_size : w1.heap[w.heap.size]? = some (.cells #[.slice (some ⟨b, off, none⟩) C.length cap, .int .i64 loops] 24 (0, 0)))
  have HT2 : Hid (w1.heap[w.heap.size + 1]? = some (.cells #[.int .i64 0, .int .i64 0] 96 (0, 0))) := (by
    rw [hw1]
    have e : w.heap.size + 1 = (w.alloc (.cells #[.slice (some ⟨b, off, none⟩) C.length cap, .int .i64 loops] 24)).heap.size := by simp
    rw [e]
    exact Array.getElem?_push_size : w1.heap[w.heap.size + 1]? = some (.cells #[.int .i64 0, .int .i64 0] 96 (0, 0)))
  have HE0 : Hid (w1.cell? ⟨w.heap.size, 0, none⟩ = some (.slice (some ⟨b, off, none⟩) C.length cap)) := block_cell HT1.out rfl
  have HE1 : Hid (w1.cell? ⟨w.heap.size, 1, none⟩ = some (.int .i64 loops)) := block_cell HT1.out rfl
  have HB1 : Hid (Below w.heap.size w w1) := (by rw [hw1]; exact below2 _ _ _ : Below w.heap.size w w1)
  have HC1 : Hid (CrossAt w1 b off C) := HC.out.on HB1.out hbw
  have HW1 : Hid (w1 = (w.alloc (.cells #[.slice (some ⟨b, off, none⟩) C.length cap, .int .i64 loops] 24)).alloc (.cells #[.int .i64 0, .int .i64 0] 96)) := hw1
  clear hw1
  go_enter Try.func63, Try.ntmps63
  go_wp2
  go_loopw [7] (fun v7 wr => ∃ i : Nat, i ≤ C.length ∧ v7 = .int .i64 i ∧ Hid (∀ i' k' : Nat, i' < i → k' < 4 → ¬((C.getD i' Cr.none).arc k' = (a : Int) ∧ (C.getD i' Cr.none).comes k' = !back)) ∧ Below w1.heap.size w1 wr) (fun v7 _ => C.length - (intOf v7).toNat)
  case atStart => exact ⟨0, Nat.zero_le _, rfl, fun i' k' hi => absurd hi (Nat.not_lt_zero _), by rw [← HW1.out]; exact Below.refl _ _⟩
  case round =>
    rename World => W1
    obtain ⟨i, hi, rfl, hno, hb⟩ := hrel
    have hszW := hb.size
    have c0 := bcell hb (by omega) HE0.out
    have c1 := bcell hb (by omega) HE1.out
    by_cases hil : i < C.length
    · have hdi : decide ((i : Int) < (C.length : Int)) = true := by simp; omega
      have hdi2 : decide (i < C.length) = true := by simp; omega
      go_wp2
      clear c0 c1
      go_loopw [8] (fun v8 ws => ∃ k : Nat, k ≤ 4 ∧ v8 = .int .i64 k ∧ Hid (∀ k' : Nat, k' < k → ¬((C.getD i Cr.none).arc k' = (a : Int) ∧ (C.getD i Cr.none).comes k' = !back)) ∧ Below w1.heap.size w1 ws) (fun v8 _ => 4 - (intOf v8).toNat)
      case atStart => exact ⟨0, Nat.zero_le _, rfl, fun k' hk => absurd hk (Nat.not_lt_zero _), hb⟩
      case round =>
        clear hb
        rename World => W3
        obtain ⟨k, hk, rfl, hnk, hb⟩ := hrel
        have hszY := hb.size
        by_cases hkl : k < 4
        · have HF : Hid (∀ wX, Below (W3.alloc (.cells #[.int .i64 i, .int .i64 k] 96)).heap.size (W3.alloc (.cells #[.int .i64 i, .int .i64 k] 96)) wX → wX.cell? ⟨w.heap.size, 0, none⟩ = some (.slice (some ⟨b, off, none⟩) C.length cap) ∧ wX.cell? ⟨w.heap.size, 1, none⟩ = some (.int .i64 loops) ∧
              wX.cell? ⟨W3.heap.size, 0, none⟩ = some (.int .i64 i) ∧ wX.cell? ⟨W3.heap.size, 1, none⟩ = some (.int .i64 k) ∧ w.heap.size < wX.heap.size ∧ W3.heap.size < wX.heap.size ∧ b < wX.heap.size ∧ CrossAt wX b off C) := fun wX hX => by
            have hB : Below w1.heap.size w1 wX := (hb.alloc hszY _).trans (hX.mono (by simp; omega))
            have hsX := hX.size
            simp only [World.size_alloc] at hsX
            have hT : wX.heap[W3.heap.size]? = some (.cells #[.int .i64 i, .int .i64 k] 96 (0, 0)) := (hX.block _ (by simp)).trans Array.getElem?_push_size
            exact ⟨bcell hB (by omega) HE0.out, bcell hB (by omega) HE1.out, block_cell hT rfl, block_cell hT rfl, by omega, by omega, by omega, HC1.out.on hB (by omega)⟩
          have c0 := bcell hb (by omega) HE0.out
          have c1 := bcell hb (by omega) HE1.out
          have hbs : w.heap.size < W3.heap.size := by omega
          have HB0 : Hid (Below (W3.alloc (.cells #[.int .i64 i, .int .i64 k] 96)).heap.size (W3.alloc (.cells #[.int .i64 i, .int .i64 k] 96)) (W3.alloc (.cells #[.int .i64 i, .int .i64 k] 96))) := Below.refl _ _
          have HBN : Hid (∀ wX, Below (W3.alloc (.cells #[.int .i64 i, .int .i64 k] 96)).heap.size (W3.alloc (.cells #[.int .i64 i, .int .i64 k] 96)) wX → Below w1.heap.size w1 wX) := fun wX hX => (hb.alloc hszY _).trans (hX.mono (by simp; omega))
          obtain ⟨av, hav⟩ : ∃ av, (C.getD i Cr.none).arc k = av := ⟨_, rfl⟩
          obtain ⟨cv, hcv⟩ : ∃ cv, (C.getD i Cr.none).comes k = cv := ⟨_, rfl⟩
          have HAR : Hid ((C.getD i Cr.none).arc k = av) := hav
          have HCO : Hid ((C.getD i Cr.none).comes k = cv) := hcv
          clear hav hcv hb
          by_cases heq : av = (a : Int)
          · subst heq
            go_wp2_with (go_at_call 60; refine (arcAt_any b off cap loops C i k _ hil hkl (HF.out _ HB0.out).2.2.2.2.2.2.1 (HF.out _ HB0.out).2.2.2.2.2.2.2).mono ?_; rw [HAR.out]; rintro e9 w4 ⟨rfl, hb4⟩; refine Hid.out ?_)
            refine Lib.hid ?_
            have HB4 : Hid (Below (W3.alloc (.cells #[.int .i64 i, .int .i64 k] 96)).heap.size (W3.alloc (.cells #[.int .i64 i, .int .i64 k] 96)) w4) := hb4
            obtain ⟨p0, p1, q0, q1, r0, r1, -, -⟩ := HF.out w4 HB4.out
            clear hb4 c0 c1
            go_wp2_with (go_at_call 61; refine (entry_any b off cap loops C i k _ hil hkl (HF.out _ HB4.out).2.2.2.2.2.2.1 (HF.out _ HB4.out).2.2.2.2.2.2.2).mono ?_; rw [HCO.out]; rintro e9 w5 ⟨rfl, hb5⟩; refine Hid.out ?_)
            refine Lib.hid ?_
            clear p0 p1 q0 q1 r0 r1
            have HB5 : Hid (Below (W3.alloc (.cells #[.int .i64 i, .int .i64 k] 96)).heap.size (W3.alloc (.cells #[.int .i64 i, .int .i64 k] 96)) w5) := HB4.out.trans (hb5.mono HB4.out.size)
            obtain ⟨p0, p1, q0, q1, r0, r1, -, -⟩ := HF.out w5 HB5.out
            clear hb5
            by_cases hcb : cv = !back
            · have hd : (cv != back) = true := by rw [hcb]; cases back <;> rfl
              have HEQ : Hid (endTo C a (!back) C.length = ((i : Int), (k : Int))) := end_one HM.out a h1 h2 (!back) i k hil hkl HAR.out (by rw [HCO.out]; exact hcb)
              have HT5 : Hid (w5.heap[w.heap.size + 1]? = some (.cells #[.int .i64 0, .int .i64 0] 96 (0, 0))) := ((HBN.out _ HB5.out).block _ (by omega)).trans HT2.out
              have z0 : w5.cell? ⟨w.heap.size + 1, 0, none⟩ = some (.int .i64 0) := block_cell HT5.out rfl
              have z1 : w5.cell? ⟨w.heap.size + 1, 1, none⟩ = some (.int .i64 0) := block_cell HT5.out rfl
              have f0 : w5.frozen? ⟨w.heap.size + 1, 0, none⟩ = false := block_frozen HT5.out
              have f1 : w5.frozen? ⟨w.heap.size + 1, 1, none⟩ = false := block_frozen HT5.out
              go_wp2
              have hX := set_block (i := 1) (u := .int .i64 k) (set_block (i := 0) (u := .int .i64 i) HT5.out)
              have x0 := block_cell (i := 0) (v := .int .i64 i) hX rfl
              have x1 := block_cell (i := 1) (v := .int .i64 k) hX rfl
              refine bodyPost_ret (v := .agg #[.int .i64 i, .int .i64 k]) (by simp [results, Try.results63, go_sem, x0, x1]) rfl ⟨by rw [HEQ.out], ?_⟩
              exact (HB1.out.trans ((HBN.out _ HB5.out).mono (by omega))).grown (st2_grown w5 (w.heap.size + 1) 0 (.int .i64 i) (.int .i64 k)) (by have := (HBN.out _ HB5.out).size; omega) (fun k hk => by have := Option.some.inj hk; omega)
            · have hd : cv = back := by cases cv <;> cases back <;> simp_all
              subst hd
              cases cv
              · go_wp2
                go_roundw
                case rel =>
                  refine ⟨k + 1, by omega, by go_num, fun k' hk' => ?_, HBN.out _ HB5.out⟩
                  by_cases e : k' = k
                  · rw [e, HCO.out]; exact fun h => hcb h.2
                  · exact hnk.out k' (by omega)
                case measure => simp only [intOf]; omega
              · go_wp2
                go_roundw
                case rel =>
                  refine ⟨k + 1, by omega, by go_num, fun k' hk' => ?_, HBN.out _ HB5.out⟩
                  by_cases e : k' = k
                  · rw [e, HCO.out]; exact fun h => hcb h.2
                  · exact hnk.out k' (by omega)
                case measure => simp only [intOf]; omega
          · have dA1 : (av == (a : Int)) = false := by rw [beq_eq_false_iff_ne]; exact heq
            go_wp2_with (go_at_call 60; refine (arcAt_any b off cap loops C i k _ hil hkl (HF.out _ HB0.out).2.2.2.2.2.2.1 (HF.out _ HB0.out).2.2.2.2.2.2.2).mono ?_; rw [HAR.out]; rintro e9 w4 ⟨rfl, hb4⟩; refine Hid.out ?_)
            refine Lib.hid ?_
            have HB4 : Hid (Below (W3.alloc (.cells #[.int .i64 i, .int .i64 k] 96)).heap.size (W3.alloc (.cells #[.int .i64 i, .int .i64 k] 96)) w4) := hb4
            clear hb4 c0 c1
            go_wp2
            go_roundw
            case rel =>
              refine ⟨k + 1, by omega, by go_num, fun k' hk' => ?_, HBN.out _ HB4.out⟩
              by_cases e : k' = k
              · rw [e, HAR.out]; exact fun h => heq h.1
              · exact hnk.out k' (by omega)
            case measure => simp only [intOf]; omega
        · obtain rfl : k = 4 := by omega
          go_wp2
          go_roundw
          case rel =>
            refine ⟨i + 1, by omega, by go_num, fun i' k' hi' hk' => ?_, hb⟩
            by_cases e : i' = i
            · rw [e]; exact hnk.out k' hk'
            · exact hno.out i' k' (by omega) hk'
          case measure => simp only [intOf]; omega
    · obtain ⟨i', k', g1, g2, g3, g4, -⟩ := end_may HM.out a h1 h2 (!back)
      exact absurd ⟨g3, g4⟩ (hno.out i' k' (by omega) g2)
end Go.Proofs.Ytagaajlbkfkaiaa
