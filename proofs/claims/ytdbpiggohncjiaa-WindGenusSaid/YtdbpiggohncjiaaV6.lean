/- The walks of ref.OnePiece and ref.GenusOf. -/
import Derived.Test.YtdbpiggohncjiaaV5
namespace Go.Proofs.Ytdbpiggohncjiaa
open Go.RowKit

set_option maxHeartbeats 4000000 in
set_option maxRecDepth 100000 in
theorem genusOf_any (v : Value) (C : List Cr) (loops : Int) (w : World) (hm : mayD C loops = true) (h : Crs w w.heap.size v C) :
    Calls Try.prog 54 #[.agg #[v, .int .i64 loops]] w fun e w' => e = .returned (.int .i64 (gN C)) ∧ Below w.heap.size w w' := by
  have HC : Hid (Crs w w.heap.size v C) := h
  have HM : Hid (mayD C loops = true) := hm
  obtain ⟨s1, s2, s3, s4⟩ := sizeB_iff (may_size hm)
  obtain ⟨a, cap, rfl, -, -⟩ := h
  have hq1 := walksM_len C
  have hq2 := circM_len C
  have HG : Hid (gN C = (2 - ((walksM C).length : Int) - ((circM C).length : Int) + (C.length : Int)).tdiv 2) := (rfl : gN C = (2 - ((walksM C).length : Int) - ((circM C).length : Int) + (C.length : Int)).tdiv 2)
  obtain ⟨p1, hp1⟩ : ∃ p1, (walksM C).length = p1 := ⟨_, rfl⟩
  obtain ⟨p2, hp2⟩ : ∃ p2, (circM C).length = p2 := ⟨_, rfl⟩
  have HP1 : Hid ((walksM C).length = p1) := hp1
  have HP2 : Hid ((circM C).length = p2) := hp2
  rw [hp1, hp2] at HG
  rw [hp1] at hq1
  rw [hp2] at hq2
  rw [HG.out]
  clear hp1 hp2 hm
  have e1 : IntKind.i64.wrap (2 - (p1 : Int)) = 2 - (p1 : Int) := IntWalk.i64_in _ (by omega)
  have e2 : IntKind.i64.wrap (2 - (p1 : Int) - (p2 : Int)) = 2 - (p1 : Int) - (p2 : Int) := IntWalk.i64_in _ (by omega)
  have e3 : IntKind.i64.wrap (2 - (p1 : Int) - (p2 : Int) + (C.length : Int)) = 2 - (p1 : Int) - (p2 : Int) + (C.length : Int) := IntWalk.i64_in _ (by omega)
  have e4 : IntKind.i64.wrap ((2 - (p1 : Int) - (p2 : Int) + (C.length : Int)).tdiv 2) = (2 - (p1 : Int) - (p2 : Int) + (C.length : Int)).tdiv 2 := by
    have hlo : -100 ≤ 2 - (p1 : Int) - (p2 : Int) + (C.length : Int) ∧ 2 - (p1 : Int) - (p2 : Int) + (C.length : Int) ≤ 100 := by omega
    generalize 2 - (p1 : Int) - (p2 : Int) + (C.length : Int) = x at hlo
    exact IntWalk.i64_in _ (tdiv_small x hlo)
  obtain ⟨w0, hw0⟩ : ∃ w0, w0 = w.alloc (.cells #[.slice a C.length cap, .int .i64 loops] 35) := ⟨_, rfl⟩
  have HW0 : Hid (w0 = w.alloc (.cells #[.slice a C.length cap, .int .i64 loops] 35)) := hw0
  have hs0 : w0.heap.size = w.heap.size + 1 := by rw [hw0]; simp
  have HB0 : Hid (Below w.heap.size w w0) := (by rw [hw0]; exact (Below.refl _ _).alloc (Nat.le_refl _) _ : Below w.heap.size w w0)
  have HT0 : Hid (w0.heap[w.heap.size]? = some (.cells #[.slice a C.length cap, .int .i64 loops] 35 (0, 0))) := (by rw [hw0]; exact alloc_at rfl : w0.heap[w.heap.size]? = some (.cells #[.slice a C.length cap, .int .i64 loops] 35 (0, 0)))
  clear hw0
  have HK : Hid (∀ w', Below w0.heap.size w0 w' → w'.cell? ⟨w.heap.size, 0, none⟩ = some (.slice a C.length cap) ∧ w'.cell? ⟨w.heap.size, 1, none⟩ = some (.int .i64 loops)) := fun w' hb => by
    have g := (hb.block _ (by omega)).trans HT0.out
    exact ⟨block_cell g rfl, block_cell g rfl⟩
  have HCK : Hid (∀ w', Below w0.heap.size w0 w' → Crs w' w'.heap.size (.slice a C.length cap) C) := fun w' hb => HC.out.up (HB0.out.trans (hb.mono (by omega)))
  have HD0 : Hid (Below w0.heap.size w0 w0.drew) := (Below.refl _ _).drew
  obtain ⟨t0, t1⟩ := HK.out w0 (Below.refl _ _)
  go_enter Try.func54, Try.ntmps54
  go_wp2
  rw [← HW0.out]
  go_region_held3 (fun w' => w'.cell? ⟨w.heap.size, 0, none⟩ = some (.slice a C.length cap) ∧ w'.cell? ⟨w.heap.size, 1, none⟩ = some (.int .i64 loops)) (first | exact HK.out _ HZ.out | exact HK.out _ HY.out | exact HK.out _ HD0.out | exact HK.out _ (Below.refl _ _)) (first
    | (go_at_call 123; refine (circlesOf_any a cap C loops _ HM.out (HCK.out _ HY.out)).mono ?_; rintro e9 w5 ⟨vc, rfl, hvc, hb5⟩
       have HZ : Hid (Below w0.heap.size w0 w5) := HY.out.trans (hb5.mono HY.out.size)
       obtain ⟨ys2, hl2, hr2, -⟩ := hvc
       obtain ⟨ac, cc, ec⟩ := own_capS hr2
       rw [hl2, HP2.out] at ec
       subst ec
       clear hb5 hr2)
    | (go_at_call 72; refine (strandsOf_any a cap C loops _ HM.out (HCK.out _ HD0.out)).mono ?_; rintro e9 w4 ⟨vw, rfl, hvw, hb4⟩
       have HY : Hid (Below w0.heap.size w0 w4) := HD0.out.trans (hb4.mono HD0.out.size)
       obtain ⟨ys1, hl1, hr1, -⟩ := hvw
       obtain ⟨aw, cw, ew⟩ := own_capS hr1
       rw [hl1, HP1.out] at ew
       subst ew
       clear hb4 hr1))
  have HBF : Hid (Below w.heap.size w w5) := HB0.out.trans (HZ.out.mono (by omega))
  go_wp2
  go_ret
  exact ⟨rfl, HBF.out⟩

set_option maxHeartbeats 4000000 in
set_option maxRecDepth 100000 in
theorem onePiece_any (v : Value) (C : List Cr) (loops : Int) (w : World) (hm : mayD C loops = true) (h : Crs w w.heap.size v C) :
    Calls Try.prog 53 #[.agg #[v, .int .i64 loops]] w fun e w' => e = .returned (.bool (oneB C loops)) ∧ Below w.heap.size w w' := by
  have HC : Hid (Crs w w.heap.size v C) := h
  have HM : Hid (mayD C loops = true) := hm
  obtain ⟨s1, s2, s3, s4⟩ := sizeB_iff (may_size hm)
  obtain ⟨a, cap, rfl, -, -⟩ := h
  have HOB : Hid (oneB C loops = ((decide (0 < C.length) && (List.range C.length).all fun v => decide ((whoM C).getD v 0 = 0)) && decide (loops = 0))) := (rfl : oneB C loops = ((decide (0 < C.length) && (List.range C.length).all fun v => decide ((whoM C).getD v 0 = 0)) && decide (loops = 0)))
  obtain ⟨ob, hob⟩ : ∃ ob, oneB C loops = ob := ⟨_, rfl⟩
  rw [hob] at HOB ⊢
  have HB1 : Hid (Below w.heap.size w (w.alloc (.cells #[.slice a C.length cap, .int .i64 loops] 35))) := (Below.refl _ _).alloc (Nat.le_refl _) _
  clear hob hm
  go_enter Try.func53, Try.ntmps53
  go_wp2_with (go_at_call 97; refine (piecesOf_any a cap C loops _ HM.out (HC.out.up HB1.out)).mono ?_; rintro e9 w2 ⟨vP, W, rfl, hrow, hls, hb2⟩; refine Hid.out ?_)
  refine Lib.hid ?_
  obtain rfl : W = whoM C := whoM_is HM.out hls
  have HW : Hid ((whoM C).length = C.length) := hls.1
  obtain ⟨aP, cP, rfl⟩ := own_capS hrow
  have HR : Hid (w2.ownsRow (w.alloc (.cells #[.slice a C.length cap, .int .i64 loops] 35)).heap.size 3 1 (.slice aP C.length cP) C.length (nats (whoM C))) := hrow
  have HB2 : Hid (Below w.heap.size w w2) := HB1.out.trans (hb2.mono HB1.out.size)
  have hg := (hb2.block w.heap.size (by simp)).trans (alloc_at rfl)
  have k0 : w2.cell? ⟨w.heap.size, 0, none⟩ = some (.slice a C.length cap) := block_cell hg rfl
  have k1 : w2.cell? ⟨w.heap.size, 1, none⟩ = some (.int .i64 loops) := block_cell hg rfl
  have hs2 : w.heap.size + 1 ≤ w2.heap.size := by have := hb2.size; simpa using this
  clear hrow hls hb2 hg
  go_wp2
  go_loopw [4] (fun v4 ws => ∃ i : Nat, i ≤ C.length ∧ v4 = .int .i64 (i : Nat) ∧ Hid (∀ q, q < i → (whoM C).getD q 0 = 0) ∧ ws = w2) (fun v4 _ => C.length - (intOf v4).toNat)
  case atStart => exact ⟨0, Nat.zero_le _, rfl, (fun q hq => absurd hq (Nat.not_lt_zero _) : ∀ q, q < 0 → (whoM C).getD q 0 = 0), rfl⟩
  case round =>
    obtain ⟨i, hin, rfl, hq, rfl⟩ := hrel
    rename World => W2
    by_cases hil : i < C.length
    · obtain ⟨g, c', e, -, hgl⟩ := own_block HR.out (by omega)
      injection e with eg1 eg2 eg3
      subst eg1
      have e0 := HR.out.cellAt i (by omega)
      rw [nats_get _ i (by rw [HW.out]; exact hil)] at e0
      obtain ⟨y, hy⟩ : ∃ y, (whoM C).getD i 0 = y := ⟨_, rfl⟩
      have HY : Hid ((whoM C).getD i 0 = y) := hy
      rw [hy] at e0
      have hii : (i : Int) < (C.length : Int) := by omega
      clear hy eg2 eg3
      by_cases hy0 : y = 0
      · subst hy0
        go_wp2
        go_roundw
        case rel =>
          refine ⟨i + 1, by omega, by go_num, (fun q hq2 => ?_ : ∀ q, q < i + 1 → (whoM C).getD q 0 = 0), by first | rfl | trivial⟩
          by_cases e : q = i
          · subst e; exact HY.out
          · exact hq.out q (by omega)
        case measure => simp only [intOf]; omega
      · have hye : ((y : Int) == 0) = false := beq_eq_false_iff_ne.2 (by omega)
        obtain rfl : ob = false := by
          rw [HOB.out, Bool.and_eq_false_iff]
          refine Or.inl ?_
          rw [Bool.and_eq_false_iff]
          refine Or.inr ?_
          rw [List.all_eq_false]
          exact ⟨i, List.mem_range.2 hil, by rw [HY.out]; simpa using hy0⟩
        go_wp2
        go_ret
        exact ⟨rfl, HB2.out⟩
    · obtain rfl : i = C.length := by omega
      have HO2 : Hid (ob = (decide (0 < C.length) && decide (loops = 0))) := (by
        rw [HOB.out]
        have : ((List.range C.length).all fun v => decide ((whoM C).getD v 0 = 0)) = true := by
          rw [List.all_eq_true]
          intro q hq2
          exact decide_eq_true (hq.out q (List.mem_range.1 hq2))
        rw [this, Bool.and_true] : ob = (decide (0 < C.length) && decide (loops = 0)))
      by_cases hp : 0 < C.length
      · have hd1 : decide ((0 : Int) < (C.length : Int)) = true := decide_eq_true (by omega)
        have hd2 : decide (0 < C.length) = true := decide_eq_true (by omega)
        by_cases hl : loops = 0
        · subst hl
          obtain rfl : ob = true := by rw [HO2.out, hd2]; rfl
          go_wp2
          go_ret
          exact ⟨rfl, HB2.out⟩
        · have hl2 : (loops == 0) = false := beq_eq_false_iff_ne.2 hl
          obtain rfl : ob = false := by rw [HO2.out, decide_eq_false hl]; simp
          go_wp2
          go_ret
          exact ⟨rfl, HB2.out⟩
      · have hd1 : decide ((0 : Int) < (C.length : Int)) = false := decide_eq_false (by omega)
        have hd2 : decide (0 < C.length) = false := decide_eq_false (by omega)
        obtain rfl : ob = false := by rw [HO2.out, hd2]; rfl
        go_wp2
        go_ret
        exact ⟨rfl, HB2.out⟩
end Go.Proofs.Ytdbpiggohncjiaa
