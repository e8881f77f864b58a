/- The walk of ref.DiagramMay at whatever diagram; the walk of drawing.unknown. -/
import Derived.Test.YtlimfajjmhfnaaaDoorH3
namespace Go.Proofs.YtlimfajjmhfnaaaDoor
open Go.RowKit

set_option maxHeartbeats 2000000 in
set_option maxRecDepth 100000 in
theorem may17_none (a : Option Addr) (cap : Nat) (loops : Int) (w : World) (h0 : 1 ≤ loops) (h1 : loops ≤ 16) :
    Calls Tryd.prog 26 #[.agg #[.slice a 0 cap, .int .i64 loops]] w fun e w' => e = .returned (.bool true) ∧ Below w.heap.size w w' := by
  have dB : decide (loops < 0) = false := by simp; omega
  have dC : decide (16 < loops) = false := by simp; omega
  have dD : (loops == 0) = false := by rw [beq_eq_false_iff_ne]; omega
  go_enter Tryd.func26, Tryd.ntmps26
  go_wp2
  go_loopw [4] (fun va wr => va = .int .i64 1 ∧ Below w.heap.size w wr) (fun _ _ => 0)
  case atStart => exact ⟨rfl, (Below.refl _ _).alloc (Nat.le_refl _) _⟩
  case round =>
    obtain ⟨rfl, hb⟩ := hrel
    go_wp2
    go_ret
    exact ⟨rfl, hb⟩

/-- ref.DiagramMay. -/
theorem may17_any (v : Value) (C : List Cr) (loops : Int) (w : World) (h : Crs w w.heap.size v C) :
    Calls Tryd.prog 26 #[.agg #[v, .int .i64 loops]] w fun e w' => e = .returned (.bool (mayD C loops)) ∧ Below w.heap.size w w' := by
  cases hs : sizeB C loops with
  | false =>
    rw [mayD_size hs]
    exact may17_size v C loops w h hs
  | true =>
    obtain ⟨a, cap, rfl, hn, g⟩ := h
    rcases Nat.eq_zero_or_pos C.length with h0 | h0
    · have e0 : C = [] := List.length_eq_zero_iff.1 h0
      subst e0
      have hz := sizeB_iff hs
      have e : mayD [] loops = true := mayD_yes hs (fun j h1 h2 => by simp at h2; omega)
      rw [e]
      have h1 : 1 ≤ loops := by
        rcases Int.lt_or_le 0 loops with h | h
        · omega
        · exact absurd ⟨rfl, by omega⟩ hz.2.2.2
      exact may17_none a cap loops w h1 hz.2.2.1
    · obtain ⟨b, off, rfl, hlt, hC⟩ := g h0
      exact may17_some b off cap C loops w hs h0 hlt hC

theorem infoSpot : (Tryd.prog.info? 105).map (fun i => (i.zero, i.size, i.bytes)) = some (some (.agg #[.int .i64 0, .int .i64 0]), 2, 16) := by kernel_rfl

set_option maxHeartbeats 2000000 in
set_option maxRecDepth 100000 in
theorem unknown_any (n : Nat) (w : World) (hn : n ≤ 40) :
    Calls Tryd.prog 57 #[.int .i64 n] w fun e w' => ∃ v, e = .returned v ∧ w'.ownsRow w.heap.size 105 2 v n (flat (List.replicate n (-1, 0))) ∧ Below w.heap.size w w' := by
  obtain ⟨i0, hi, hz0, hz1, hz2⟩ := info_parts infoSpot
  go_enter Tryd.func57, Tryd.ntmps57
  go_wp2_with (first | (at_make; refine wpList_make_full _ rfl _ _ 82 rfl w.heap.size 105 i0 (.agg #[.int .i64 0, .int .i64 0]) 2 Tryd.underlying82 hi hz0 hz1 .i64 .i64 _ _ n rfl rfl rfl rfl (by rw [hz2]; omega) (by unfold maxLen; omega) (Nat.le_refl _) ?_; intro w1 hrow hg1; refine Hid.out ?_))
  refine Lib.hid ?_
  have hz : (madeCells (Value.agg #[.int .i64 0, .int .i64 0]).cells (n * 2)).toList = flat (unkTo n 0) := by
    have e : (Value.agg #[.int .i64 0, .int .i64 0]).cells = #[Value.int .i64 0, .int .i64 0] := rfl
    rw [e, flat_zeros]
    simp [unkTo]
  rw [hz] at hrow
  have HB1 : Hid (Below w.heap.size w w1) := (Below.refl _ _).grown hg1 (Nat.le_refl _) (fun j hj => by cases hj)
  clear hz hg1
  go_wp2
  go_loopw [9] (fun v9 wr => ∃ i : Nat, i ≤ n ∧ v9 = .int .i64 i ∧ wr.ownsRow w.heap.size 105 2 (.slice (some ⟨w.heap.size, 0, none⟩) n n) n (flat (unkTo n i)) ∧ Below w.heap.size w wr) (fun v9 _ => n - (intOf v9).toNat)
  case atStart => exact ⟨0, Nat.zero_le _, rfl, hrow, HB1.out⟩
  case round =>
    clear hrow
    obtain ⟨i, hin, rfl, hown, hb⟩ := hrel
    have hlow := (hown.lt w.heap.size rfl).2
    by_cases hil : i < n
    · have hul : (unkTo n i).length = n := by simp [unkTo]; omega
      have f0 := hown.frozenAt (i * 2)
      have c0 : wr.cell? ⟨w.heap.size, i * 2, none⟩ = some (.int .i64 ((unkTo n i).getD i (0, 0)).1) := by rw [hown.cellAt (i * 2) (by omega)]; exact flat_cellE _ i (by omega)
      have hst := hown.stored (i * 2) (.int .i64 (-1))
      rw [flat_setE _ i (-1) (by omega), unk_next n i hil] at hst
      have HST : Hid ((wr.setCell ⟨w.heap.size, i * 2, none⟩ (.int .i64 (-1))).ownsRow w.heap.size 105 2 (.slice (some ⟨w.heap.size, 0, none⟩) n n) n (flat (unkTo n (i + 1)))) := hst.1
      have HBB : Hid (Below w.heap.size w (wr.setCell ⟨w.heap.size, i * 2, none⟩ (.int .i64 (-1)))) := hb.grown hst.2 hb.size (fun j hj => by cases hj; exact Nat.le_refl _)
      generalize ((unkTo n i).getD i (0, 0)).1 = u at c0
      clear hst hown
      go_wp2
      go_roundw
      case rel => exact ⟨i + 1, by omega, by go_num, HST.out, HBB.out⟩
      case measure => simp only [intOf]; omega
    · obtain rfl : i = n := by omega
      go_wp2
      go_ret
      exact ⟨_, rfl, by have e : unkTo i i = List.replicate i (-1, 0) := by simp [unkTo]
                        rw [← e]; exact hown, hb⟩
end Go.Proofs.YtlimfajjmhfnaaaDoor
