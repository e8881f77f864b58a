/- The walks of ref.OnePiece and ref.GenusOf. -/
import Derived.Test.YtagaajlbkfkaiaaSG0P
namespace Go.Proofs.Ytagaajlbkfkaiaa
open Go.RowKit

set_option maxHeartbeats 4000000 in
set_option maxRecDepth 100000 in
theorem onePiece_any (v : Value) (C : List Cr) (loops : Int) (w : World) (hm : mayD C loops = true) (h : Crs w w.heap.size v C) :
    Calls Try.prog 56 #[.agg #[v, .int .i64 loops]] w fun e w' => e = .returned (.bool (oneB C loops)) ∧ Below w.heap.size w w' := by
  have HC : Hid (Crs w w.heap.size v C) := h
  have HM : Hid (mayD C loops = true) := hm
  obtain ⟨s1, s2, s3, s4⟩ := sizeB_iff (may_size hm)
  obtain ⟨a, cap, rfl, -, -⟩ := h
  have HOB : Hid (oneB C loops = ((decide (0 < C.length) && (List.range C.length).all fun v => decide ((whoM C).getD v 0 = 0)) && decide (loops = 0))) := (rfl : oneB C loops = ((decide (0 < C.length) && (List.range C.length).all fun v => decide ((whoM C).getD v 0 = 0)) && decide (loops = 0)))
  obtain ⟨ob, hob⟩ : ∃ ob, oneB C loops = ob := ⟨_, rfl⟩
  rw [hob] at HOB ⊢
  have HB1 : Hid (Below w.heap.size w (w.alloc (.cells #[.slice a C.length cap, .int .i64 loops] 24))) := (Below.refl _ _).alloc (Nat.le_refl _) _
  clear hob hm
  go_enter Try.func56, Try.ntmps56
  go_wp2_with (go_at_call 62; refine (piecesOf_any a cap C loops _ HM.out (HC.out.up HB1.out)).mono ?_; rintro e9 w2 ⟨vP, W, rfl, hrow, hls, hb2⟩; refine Hid.out ?_)
  refine Lib.hid ?_
  obtain rfl : W = whoM C := whoM_is HM.out hls
  have HW : Hid ((whoM C).length = C.length) := hls.1
  obtain ⟨aP, cP, rfl⟩ := own_capS hrow
  have HR : Hid (w2.ownsRow (w.alloc (.cells #[.slice a C.length cap, .int .i64 loops] 24)).heap.size 3 1 (.slice aP C.length cP) C.length (nats (whoM C))) := hrow
  have HB2 : Hid (Below w.heap.size w w2) := HB1.out.trans (hb2.mono HB1.out.size)
  have hg := (hb2.block w.heap.size (by simp)).trans (alloc_at rfl)
  have k0 : w2.cell? ⟨w.heap.size, 0, none⟩ = some (.slice a C.length cap) := block_cell hg rfl
  have k1 : w2.cell? ⟨w.heap.size, 1, none⟩ = some (.int .i64 loops) := block_cell hg rfl
  have hs2 : w.heap.size + 1 ≤ w2.heap.size := by have := hb2.size; simpa using this
  clear hrow hls hb2 hg
  go_wp2
  go_loopw [4] (fun v4 ws => ∃ i : Nat, i ≤ C.length ∧ v4 = .int .i64 (i : Nat) ∧ Hid (∀ q, q < i → (whoM C).getD q 0 = 0) ∧ ws = w2) (fun v4 _ => C.length - (intOf v4).toNat)
  case atStart => exact ⟨0, Nat.zero_le _, rfl, (fun q hq => absurd hq (Nat.not_lt_zero _) : ∀ q, q < 0 → (whoM C).getD q 0 = 0), rfl⟩
  case round =>
    obtain ⟨i, hin, rfl, hq, rfl⟩ := hrel
    rename World => W2
    by_cases hil : i < C.length
    · obtain ⟨g, c', e, -, hgl⟩ := own_block HR.out (by omega)
      injection e with eg1 eg2 eg3
      subst eg1
      have e0 := HR.out.cellAt i (by omega)
      rw [nats_get _ i (by rw [HW.out]; exact hil)] at e0
      obtain ⟨y, hy⟩ : ∃ y, (whoM C).getD i 0 = y := ⟨_, rfl⟩
      have HY : Hid ((whoM C).getD i 0 = y) := hy
      rw [hy] at e0
      have hii : (i : Int) < (C.length : Int) := by omega
      clear hy eg2 eg3
      by_cases hy0 : y = 0
      · subst hy0
        go_wp2
        go_roundw
        case rel =>
          refine ⟨i + 1, by omega, by go_num, (fun q hq2 => ?_ : ∀ q, q < i + 1 → (whoM C).getD q 0 = 0), by first | rfl | trivial⟩
          by_cases e : q = i
          · subst e; exact HY.out
          · exact hq.out q (by omega)
        case measure => simp only [intOf]; omega
      · have hye : ((y : Int) == 0) = false := beq_eq_false_iff_ne.2 (by omega)
        obtain rfl : ob = false := by
          rw [HOB.out, Bool.and_eq_false_iff]
          refine Or.inl ?_
          rw [Bool.and_eq_false_iff]
          refine Or.inr ?_
          rw [List.all_eq_false]
          exact ⟨i, List.mem_range.2 hil, by rw [HY.out]; simpa using hy0⟩
        go_wp2
        go_ret
        exact ⟨rfl, HB2.out⟩
    · obtain rfl : i = C.length := by omega
      have HO2 : Hid (ob = (decide (0 < C.length) && decide (loops = 0))) := (by
        rw [HOB.out]
        have : ((List.range C.length).all fun v => decide ((whoM C).getD v 0 = 0)) = true := by
          rw [List.all_eq_true]
          intro q hq2
          exact decide_eq_true (hq.out q (List.mem_range.1 hq2))
        rw [this, Bool.and_true] : ob = (decide (0 < C.length) && decide (loops = 0)))
      by_cases hp : 0 < C.length
      · have hd1 : decide ((0 : Int) < (C.length : Int)) = true := decide_eq_true (by omega)
        have hd2 : decide (0 < C.length) = true := decide_eq_true (by omega)
        by_cases hl : loops = 0
        · subst hl
          obtain rfl : ob = true := by rw [HO2.out, hd2]; rfl
          go_wp2
          go_ret
          exact ⟨rfl, HB2.out⟩
        · have hl2 : (loops == 0) = false := beq_eq_false_iff_ne.2 hl
          obtain rfl : ob = false := by rw [HO2.out, decide_eq_false hl]; simp
          go_wp2
          go_ret
          exact ⟨rfl, HB2.out⟩
      · have hd1 : decide ((0 : Int) < (C.length : Int)) = false := decide_eq_false (by omega)
        have hd2 : decide (0 < C.length) = false := decide_eq_false (by omega)
        obtain rfl : ob = false := by rw [HO2.out, hd2]; rfl
        go_wp2
        go_ret
        exact ⟨rfl, HB2.out⟩
end Go.Proofs.Ytagaajlbkfkaiaa
