/- The walk of ref.SumOf where it refuses. -/
import Derived.Test.YtnmgeegmiijflaaS5
import Derived.BigQuiet
namespace Go.Proofs.Ytnmgeegmiijflaa
open Go.RowKit

set_option maxHeartbeats 4000000 in
set_option maxRecDepth 100000 in
theorem sumOf_1 (v1 v2 : Value) (C D : List Cr) (l1 l2 x y : Int) (w : World) (h1 : Crs w w.heap.size v1 C) (h2 : Crs w w.heap.size v2 D) (s1 : C.length ≤ 16) (s2 : D.length ≤ 16) (p1 : 0 ≤ l1 ∧ l1 ≤ 16) (p2 : 0 ≤ l2 ∧ l2 ≤ 16) (hx : x < 1) :
    Calls Try.prog 43 #[.agg #[v1, .int .i64 l1], .int .i64 x, .agg #[v2, .int .i64 l2], .int .i64 y] w fun e w' => e = .returned (.tuple #[.agg #[.slice none 0 0, .int .i64 0], .int .i64 3]) ∧ Below w.heap.size w w' := by
  have HC : Hid (Crs w w.heap.size v1 C) := h1
  have HD : Hid (Crs w w.heap.size v2 D) := h2
  obtain ⟨a, cap, rfl⟩ := slice_Crs' h1
  obtain ⟨a', cap', rfl⟩ := slice_Crs' h2
  clear h1 h2
  obtain ⟨w0, hw0⟩ : ∃ w0, w0 = ((w.alloc (.cells #[.slice a C.length cap, .int .i64 l1] 24)).alloc (.cells #[.slice a' D.length cap', .int .i64 l2] 24)).alloc (.cells #[.slice none 0 0, .int .i64 0] 24) := ⟨_, rfl⟩
  have HW0 : Hid (w0 = ((w.alloc (.cells #[.slice a C.length cap, .int .i64 l1] 24)).alloc (.cells #[.slice a' D.length cap', .int .i64 l2] 24)).alloc (.cells #[.slice none 0 0, .int .i64 0] 24)) := hw0
  have hs0 : w0.heap.size = w.heap.size + 3 := by rw [hw0]; simp
  have HB0 : Hid (Below w.heap.size w w0) := (by rw [hw0]; exact below3 _ _ _ _ : Below w.heap.size w w0)
  have HT0 : Hid (w0.heap[w.heap.size]? = some (.cells #[.slice a C.length cap, .int .i64 l1] 24 (0, 0))) := (by rw [hw0]; exact alloc_old (alloc_old (alloc_at rfl)) : w0.heap[w.heap.size]? = some (.cells #[.slice a C.length cap, .int .i64 l1] 24 (0, 0)))
  have HT1 : Hid (w0.heap[w.heap.size + 1]? = some (.cells #[.slice a' D.length cap', .int .i64 l2] 24 (0, 0))) := (by rw [hw0]; exact alloc_old (alloc_at (by simp)) : w0.heap[w.heap.size + 1]? = some (.cells #[.slice a' D.length cap', .int .i64 l2] 24 (0, 0)))
  have HT2 : Hid (w0.heap[w.heap.size + 1 + 1]? = some (.cells #[.slice none 0 0, .int .i64 0] 24 (0, 0))) := (by rw [hw0]; exact alloc_at (by simp) : w0.heap[w.heap.size + 1 + 1]? = some (.cells #[.slice none 0 0, .int .i64 0] 24 (0, 0)))
  clear hw0
  have a0 : w0.cell? ⟨w.heap.size, 0, none⟩ = some (.slice a C.length cap) := block_cell HT0.out rfl
  have b0 : w0.cell? ⟨w.heap.size + 1, 0, none⟩ = some (.slice a' D.length cap') := block_cell HT1.out rfl
  have la : w.heap.size < w0.heap.size := by omega
  have lb : w.heap.size + 1 < w0.heap.size := by omega
  have q1 : IntKind.i64.wrap (2 * (C.length : Int)) = 2 * (C.length : Int) := IntWalk.i64_in _ (by omega)
  have q2 : IntKind.i64.wrap (2 * (D.length : Int)) = 2 * (D.length : Int) := IntWalk.i64_in _ (by omega)
  have q3 : IntKind.i64.wrap ((C.length : Int) + (D.length : Int)) = (C.length : Int) + (D.length : Int) := IntWalk.i64_in _ (by omega)
  have q4 : IntKind.i64.wrap (l1 + l2) = l1 + l2 := IntWalk.i64_in _ (by omega)
  have x1 : decide (x < 1) = true := by simp; omega
  go_enter Try.func43, Try.ntmps43
  go_wp2
  rw [← HW0.out]
  go_quiet (fail)
  have hbq : Below w0.heap.size w0 (w0.drewN nq) := below_drewN (Below.refl _ _) _
  clear a0 b0 la lb
  generalize w0.drewN nq = w1 at hbq ⊢
  have hs1 := hbq.size
  have HB1 : Hid (Below w.heap.size w w1) := HB0.out.trans (hbq.mono HB0.out.size)
  have HA1 : Hid (w1.heap[w.heap.size]? = some (.cells #[.slice a C.length cap, .int .i64 l1] 24 (0, 0))) := (hbq.block _ (by omega)).trans HT0.out
  have HD1 : Hid (w1.heap[w.heap.size + 1]? = some (.cells #[.slice a' D.length cap', .int .i64 l2] 24 (0, 0))) := (hbq.block _ (by omega)).trans HT1.out
  have HR1 : Hid (w1.heap[w.heap.size + 1 + 1]? = some (.cells #[.slice none 0 0, .int .i64 0] 24 (0, 0))) := (hbq.block _ (by omega)).trans HT2.out
  clear hbq
  have a0 : w1.cell? ⟨w.heap.size, 0, none⟩ = some (.slice a C.length cap) := block_cell HA1.out rfl
  have a1 : w1.cell? ⟨w.heap.size, 1, none⟩ = some (.int .i64 l1) := block_cell HA1.out rfl
  have b0 : w1.cell? ⟨w.heap.size + 1, 0, none⟩ = some (.slice a' D.length cap') := block_cell HD1.out rfl
  have b1 : w1.cell? ⟨w.heap.size + 1, 1, none⟩ = some (.int .i64 l2) := block_cell HD1.out rfl
  have r0 : w1.cell? ⟨w.heap.size + 1 + 1, 0, none⟩ = some (.slice none 0 0) := block_cell HR1.out rfl
  have r1 : w1.cell? ⟨w.heap.size + 1 + 1, 1, none⟩ = some (.int .i64 0) := block_cell HR1.out rfl
  have f0 : w1.frozen? ⟨w.heap.size + 1 + 1, 0, none⟩ = false := block_frozen HR1.out
  have f1 : w1.frozen? ⟨w.heap.size + 1 + 1, 1, none⟩ = false := block_frozen HR1.out
  have l0 : w.heap.size + 1 + 1 < w1.heap.size := by omega
  have la : w.heap.size < w1.heap.size := by omega
  have lb : w.heap.size + 1 < w1.heap.size := by omega
  go_wp2
  have hX := set_block (i := 1) (u := .int .i64 0) (set_block (i := 0) (u := .slice none 0 0) HR1.out)
  have x0 := block_cell (i := 0) (v := .slice none 0 0) hX rfl
  have x1' := block_cell (i := 1) (v := .int .i64 0) hX rfl
  exact bodyPost_ret (v := .tuple #[.agg #[.slice none 0 0, .int .i64 0], .int .i64 3]) (by simp [results, Try.results43, go_sem, x0, x1']) rfl ⟨rfl, HB1.out.grown (st2_grown w1 (w.heap.size + 1 + 1) 0 (.slice none 0 0) (.int .i64 0)) (by omega) (fun q hq => by have := Option.some.inj hq; omega)⟩

set_option maxHeartbeats 4000000 in
set_option maxRecDepth 100000 in
theorem sumOf_2 (v1 v2 : Value) (C D : List Cr) (l1 l2 x y : Int) (w : World) (h1 : Crs w w.heap.size v1 C) (h2 : Crs w w.heap.size v2 D) (s1 : C.length ≤ 16) (s2 : D.length ≤ 16) (p1 : 0 ≤ l1 ∧ l1 ≤ 16) (p2 : 0 ≤ l2 ∧ l2 ≤ 16) (h1x : 1 ≤ x) (hx : 2 * (C.length : Int) < x) :
    Calls Try.prog 43 #[.agg #[v1, .int .i64 l1], .int .i64 x, .agg #[v2, .int .i64 l2], .int .i64 y] w fun e w' => e = .returned (.tuple #[.agg #[.slice none 0 0, .int .i64 0], .int .i64 3]) ∧ Below w.heap.size w w' := by
  have HC : Hid (Crs w w.heap.size v1 C) := h1
  have HD : Hid (Crs w w.heap.size v2 D) := h2
  obtain ⟨a, cap, rfl⟩ := slice_Crs' h1
  obtain ⟨a', cap', rfl⟩ := slice_Crs' h2
  clear h1 h2
  obtain ⟨w0, hw0⟩ : ∃ w0, w0 = ((w.alloc (.cells #[.slice a C.length cap, .int .i64 l1] 24)).alloc (.cells #[.slice a' D.length cap', .int .i64 l2] 24)).alloc (.cells #[.slice none 0 0, .int .i64 0] 24) := ⟨_, rfl⟩
  have HW0 : Hid (w0 = ((w.alloc (.cells #[.slice a C.length cap, .int .i64 l1] 24)).alloc (.cells #[.slice a' D.length cap', .int .i64 l2] 24)).alloc (.cells #[.slice none 0 0, .int .i64 0] 24)) := hw0
  have hs0 : w0.heap.size = w.heap.size + 3 := by rw [hw0]; simp
  have HB0 : Hid (Below w.heap.size w w0) := (by rw [hw0]; exact below3 _ _ _ _ : Below w.heap.size w w0)
  have HT0 : Hid (w0.heap[w.heap.size]? = some (.cells #[.slice a C.length cap, .int .i64 l1] 24 (0, 0))) := (by rw [hw0]; exact alloc_old (alloc_old (alloc_at rfl)) : w0.heap[w.heap.size]? = some (.cells #[.slice a C.length cap, .int .i64 l1] 24 (0, 0)))
  have HT1 : Hid (w0.heap[w.heap.size + 1]? = some (.cells #[.slice a' D.length cap', .int .i64 l2] 24 (0, 0))) := (by rw [hw0]; exact alloc_old (alloc_at (by simp)) : w0.heap[w.heap.size + 1]? = some (.cells #[.slice a' D.length cap', .int .i64 l2] 24 (0, 0)))
  have HT2 : Hid (w0.heap[w.heap.size + 1 + 1]? = some (.cells #[.slice none 0 0, .int .i64 0] 24 (0, 0))) := (by rw [hw0]; exact alloc_at (by simp) : w0.heap[w.heap.size + 1 + 1]? = some (.cells #[.slice none 0 0, .int .i64 0] 24 (0, 0)))
  clear hw0
  have a0 : w0.cell? ⟨w.heap.size, 0, none⟩ = some (.slice a C.length cap) := block_cell HT0.out rfl
  have b0 : w0.cell? ⟨w.heap.size + 1, 0, none⟩ = some (.slice a' D.length cap') := block_cell HT1.out rfl
  have la : w.heap.size < w0.heap.size := by omega
  have lb : w.heap.size + 1 < w0.heap.size := by omega
  have q1 : IntKind.i64.wrap (2 * (C.length : Int)) = 2 * (C.length : Int) := IntWalk.i64_in _ (by omega)
  have q2 : IntKind.i64.wrap (2 * (D.length : Int)) = 2 * (D.length : Int) := IntWalk.i64_in _ (by omega)
  have q3 : IntKind.i64.wrap ((C.length : Int) + (D.length : Int)) = (C.length : Int) + (D.length : Int) := IntWalk.i64_in _ (by omega)
  have q4 : IntKind.i64.wrap (l1 + l2) = l1 + l2 := IntWalk.i64_in _ (by omega)
  have x1 : decide (x < 1) = false := by simp; omega
  have x2 : decide (2 * (C.length : Int) < x) = true := by simp; omega
  go_enter Try.func43, Try.ntmps43
  go_wp2
  rw [← HW0.out]
  go_quiet (fail)
  have hbq : Below w0.heap.size w0 (w0.drewN nq) := below_drewN (Below.refl _ _) _
  clear a0 b0 la lb
  generalize w0.drewN nq = w1 at hbq ⊢
  have hs1 := hbq.size
  have HB1 : Hid (Below w.heap.size w w1) := HB0.out.trans (hbq.mono HB0.out.size)
  have HA1 : Hid (w1.heap[w.heap.size]? = some (.cells #[.slice a C.length cap, .int .i64 l1] 24 (0, 0))) := (hbq.block _ (by omega)).trans HT0.out
  have HD1 : Hid (w1.heap[w.heap.size + 1]? = some (.cells #[.slice a' D.length cap', .int .i64 l2] 24 (0, 0))) := (hbq.block _ (by omega)).trans HT1.out
  have HR1 : Hid (w1.heap[w.heap.size + 1 + 1]? = some (.cells #[.slice none 0 0, .int .i64 0] 24 (0, 0))) := (hbq.block _ (by omega)).trans HT2.out
  clear hbq
  have a0 : w1.cell? ⟨w.heap.size, 0, none⟩ = some (.slice a C.length cap) := block_cell HA1.out rfl
  have a1 : w1.cell? ⟨w.heap.size, 1, none⟩ = some (.int .i64 l1) := block_cell HA1.out rfl
  have b0 : w1.cell? ⟨w.heap.size + 1, 0, none⟩ = some (.slice a' D.length cap') := block_cell HD1.out rfl
  have b1 : w1.cell? ⟨w.heap.size + 1, 1, none⟩ = some (.int .i64 l2) := block_cell HD1.out rfl
  have r0 : w1.cell? ⟨w.heap.size + 1 + 1, 0, none⟩ = some (.slice none 0 0) := block_cell HR1.out rfl
  have r1 : w1.cell? ⟨w.heap.size + 1 + 1, 1, none⟩ = some (.int .i64 0) := block_cell HR1.out rfl
  have f0 : w1.frozen? ⟨w.heap.size + 1 + 1, 0, none⟩ = false := block_frozen HR1.out
  have f1 : w1.frozen? ⟨w.heap.size + 1 + 1, 1, none⟩ = false := block_frozen HR1.out
  have l0 : w.heap.size + 1 + 1 < w1.heap.size := by omega
  have la : w.heap.size < w1.heap.size := by omega
  have lb : w.heap.size + 1 < w1.heap.size := by omega
  go_wp2
  have hX := set_block (i := 1) (u := .int .i64 0) (set_block (i := 0) (u := .slice none 0 0) HR1.out)
  have x0 := block_cell (i := 0) (v := .slice none 0 0) hX rfl
  have x1' := block_cell (i := 1) (v := .int .i64 0) hX rfl
  exact bodyPost_ret (v := .tuple #[.agg #[.slice none 0 0, .int .i64 0], .int .i64 3]) (by simp [results, Try.results43, go_sem, x0, x1']) rfl ⟨rfl, HB1.out.grown (st2_grown w1 (w.heap.size + 1 + 1) 0 (.slice none 0 0) (.int .i64 0)) (by omega) (fun q hq => by have := Option.some.inj hq; omega)⟩

set_option maxHeartbeats 4000000 in
set_option maxRecDepth 100000 in
theorem sumOf_3 (v1 v2 : Value) (C D : List Cr) (l1 l2 x y : Int) (w : World) (h1 : Crs w w.heap.size v1 C) (h2 : Crs w w.heap.size v2 D) (s1 : C.length ≤ 16) (s2 : D.length ≤ 16) (p1 : 0 ≤ l1 ∧ l1 ≤ 16) (p2 : 0 ≤ l2 ∧ l2 ≤ 16) (h1x : 1 ≤ x) (hx : x ≤ 2 * (C.length : Int)) (hy : y < 1) :
    Calls Try.prog 43 #[.agg #[v1, .int .i64 l1], .int .i64 x, .agg #[v2, .int .i64 l2], .int .i64 y] w fun e w' => e = .returned (.tuple #[.agg #[.slice none 0 0, .int .i64 0], .int .i64 3]) ∧ Below w.heap.size w w' := by
  have HC : Hid (Crs w w.heap.size v1 C) := h1
  have HD : Hid (Crs w w.heap.size v2 D) := h2
  obtain ⟨a, cap, rfl⟩ := slice_Crs' h1
  obtain ⟨a', cap', rfl⟩ := slice_Crs' h2
  clear h1 h2
  obtain ⟨w0, hw0⟩ : ∃ w0, w0 = ((w.alloc (.cells #[.slice a C.length cap, .int .i64 l1] 24)).alloc (.cells #[.slice a' D.length cap', .int .i64 l2] 24)).alloc (.cells #[.slice none 0 0, .int .i64 0] 24) := ⟨_, rfl⟩
  have HW0 : Hid (w0 = ((w.alloc (.cells #[.slice a C.length cap, .int .i64 l1] 24)).alloc (.cells #[.slice a' D.length cap', .int .i64 l2] 24)).alloc (.cells #[.slice none 0 0, .int .i64 0] 24)) := hw0
  have hs0 : w0.heap.size = w.heap.size + 3 := by rw [hw0]; simp
  have HB0 : Hid (Below w.heap.size w w0) := (by rw [hw0]; exact below3 _ _ _ _ : Below w.heap.size w w0)
  have HT0 : Hid (w0.heap[w.heap.size]? = some (.cells #[.slice a C.length cap, .int .i64 l1] 24 (0, 0))) := (by rw [hw0]; exact alloc_old (alloc_old (alloc_at rfl)) : w0.heap[w.heap.size]? = some (.cells #[.slice a C.length cap, .int .i64 l1] 24 (0, 0)))
  have HT1 : Hid (w0.heap[w.heap.size + 1]? = some (.cells #[.slice a' D.length cap', .int .i64 l2] 24 (0, 0))) := (by rw [hw0]; exact alloc_old (alloc_at (by simp)) : w0.heap[w.heap.size + 1]? = some (.cells #[.slice a' D.length cap', .int .i64 l2] 24 (0, 0)))
  have HT2 : Hid (w0.heap[w.heap.size + 1 + 1]? = some (.cells #[.slice none 0 0, .int .i64 0] 24 (0, 0))) := (by rw [hw0]; exact alloc_at (by simp) : w0.heap[w.heap.size + 1 + 1]? = some (.cells #[.slice none 0 0, .int .i64 0] 24 (0, 0)))
  clear hw0
  have a0 : w0.cell? ⟨w.heap.size, 0, none⟩ = some (.slice a C.length cap) := block_cell HT0.out rfl
  have b0 : w0.cell? ⟨w.heap.size + 1, 0, none⟩ = some (.slice a' D.length cap') := block_cell HT1.out rfl
  have la : w.heap.size < w0.heap.size := by omega
  have lb : w.heap.size + 1 < w0.heap.size := by omega
  have q1 : IntKind.i64.wrap (2 * (C.length : Int)) = 2 * (C.length : Int) := IntWalk.i64_in _ (by omega)
  have q2 : IntKind.i64.wrap (2 * (D.length : Int)) = 2 * (D.length : Int) := IntWalk.i64_in _ (by omega)
  have q3 : IntKind.i64.wrap ((C.length : Int) + (D.length : Int)) = (C.length : Int) + (D.length : Int) := IntWalk.i64_in _ (by omega)
  have q4 : IntKind.i64.wrap (l1 + l2) = l1 + l2 := IntWalk.i64_in _ (by omega)
  have x1 : decide (x < 1) = false := by simp; omega
  have x2 : decide (2 * (C.length : Int) < x) = false := by simp; omega
  have y1 : decide (y < 1) = true := by simp; omega
  go_enter Try.func43, Try.ntmps43
  go_wp2
  rw [← HW0.out]
  go_quiet (fail)
  have hbq : Below w0.heap.size w0 (w0.drewN nq) := below_drewN (Below.refl _ _) _
  clear a0 b0 la lb
  generalize w0.drewN nq = w1 at hbq ⊢
  have hs1 := hbq.size
  have HB1 : Hid (Below w.heap.size w w1) := HB0.out.trans (hbq.mono HB0.out.size)
  have HA1 : Hid (w1.heap[w.heap.size]? = some (.cells #[.slice a C.length cap, .int .i64 l1] 24 (0, 0))) := (hbq.block _ (by omega)).trans HT0.out
  have HD1 : Hid (w1.heap[w.heap.size + 1]? = some (.cells #[.slice a' D.length cap', .int .i64 l2] 24 (0, 0))) := (hbq.block _ (by omega)).trans HT1.out
  have HR1 : Hid (w1.heap[w.heap.size + 1 + 1]? = some (.cells #[.slice none 0 0, .int .i64 0] 24 (0, 0))) := (hbq.block _ (by omega)).trans HT2.out
  clear hbq
  have a0 : w1.cell? ⟨w.heap.size, 0, none⟩ = some (.slice a C.length cap) := block_cell HA1.out rfl
  have a1 : w1.cell? ⟨w.heap.size, 1, none⟩ = some (.int .i64 l1) := block_cell HA1.out rfl
  have b0 : w1.cell? ⟨w.heap.size + 1, 0, none⟩ = some (.slice a' D.length cap') := block_cell HD1.out rfl
  have b1 : w1.cell? ⟨w.heap.size + 1, 1, none⟩ = some (.int .i64 l2) := block_cell HD1.out rfl
  have r0 : w1.cell? ⟨w.heap.size + 1 + 1, 0, none⟩ = some (.slice none 0 0) := block_cell HR1.out rfl
  have r1 : w1.cell? ⟨w.heap.size + 1 + 1, 1, none⟩ = some (.int .i64 0) := block_cell HR1.out rfl
  have f0 : w1.frozen? ⟨w.heap.size + 1 + 1, 0, none⟩ = false := block_frozen HR1.out
  have f1 : w1.frozen? ⟨w.heap.size + 1 + 1, 1, none⟩ = false := block_frozen HR1.out
  have l0 : w.heap.size + 1 + 1 < w1.heap.size := by omega
  have la : w.heap.size < w1.heap.size := by omega
  have lb : w.heap.size + 1 < w1.heap.size := by omega
  go_wp2
  have hX := set_block (i := 1) (u := .int .i64 0) (set_block (i := 0) (u := .slice none 0 0) HR1.out)
  have x0 := block_cell (i := 0) (v := .slice none 0 0) hX rfl
  have x1' := block_cell (i := 1) (v := .int .i64 0) hX rfl
  exact bodyPost_ret (v := .tuple #[.agg #[.slice none 0 0, .int .i64 0], .int .i64 3]) (by simp [results, Try.results43, go_sem, x0, x1']) rfl ⟨rfl, HB1.out.grown (st2_grown w1 (w.heap.size + 1 + 1) 0 (.slice none 0 0) (.int .i64 0)) (by omega) (fun q hq => by have := Option.some.inj hq; omega)⟩

set_option maxHeartbeats 4000000 in
set_option maxRecDepth 100000 in
theorem sumOf_4 (v1 v2 : Value) (C D : List Cr) (l1 l2 x y : Int) (w : World) (h1 : Crs w w.heap.size v1 C) (h2 : Crs w w.heap.size v2 D) (s1 : C.length ≤ 16) (s2 : D.length ≤ 16) (p1 : 0 ≤ l1 ∧ l1 ≤ 16) (p2 : 0 ≤ l2 ∧ l2 ≤ 16) (h1x : 1 ≤ x) (hx : x ≤ 2 * (C.length : Int)) (h1y : 1 ≤ y) (hy : 2 * (D.length : Int) < y) :
    Calls Try.prog 43 #[.agg #[v1, .int .i64 l1], .int .i64 x, .agg #[v2, .int .i64 l2], .int .i64 y] w fun e w' => e = .returned (.tuple #[.agg #[.slice none 0 0, .int .i64 0], .int .i64 3]) ∧ Below w.heap.size w w' := by
  have HC : Hid (Crs w w.heap.size v1 C) := h1
  have HD : Hid (Crs w w.heap.size v2 D) := h2
  obtain ⟨a, cap, rfl⟩ := slice_Crs' h1
  obtain ⟨a', cap', rfl⟩ := slice_Crs' h2
  clear h1 h2
  obtain ⟨w0, hw0⟩ : ∃ w0, w0 = ((w.alloc (.cells #[.slice a C.length cap, .int .i64 l1] 24)).alloc (.cells #[.slice a' D.length cap', .int .i64 l2] 24)).alloc (.cells #[.slice none 0 0, .int .i64 0] 24) := ⟨_, rfl⟩
  have HW0 : Hid (w0 = ((w.alloc (.cells #[.slice a C.length cap, .int .i64 l1] 24)).alloc (.cells #[.slice a' D.length cap', .int .i64 l2] 24)).alloc (.cells #[.slice none 0 0, .int .i64 0] 24)) := hw0
  have hs0 : w0.heap.size = w.heap.size + 3 := by rw [hw0]; simp
  have HB0 : Hid (Below w.heap.size w w0) := (by rw [hw0]; exact below3 _ _ _ _ : Below w.heap.size w w0)
  have HT0 : Hid (w0.heap[w.heap.size]? = some (.cells #[.slice a C.length cap, .int .i64 l1] 24 (0, 0))) := (by rw [hw0]; exact alloc_old (alloc_old (alloc_at rfl)) : w0.heap[w.heap.size]? = some (.cells #[.slice a C.length cap, .int .i64 l1] 24 (0, 0)))
  have HT1 : Hid (w0.heap[w.heap.size + 1]? = some (.cells #[.slice a' D.length cap', .int .i64 l2] 24 (0, 0))) := (by rw [hw0]; exact alloc_old (alloc_at (by simp)) : w0.heap[w.heap.size + 1]? = some (.cells #[.slice a' D.length cap', .int .i64 l2] 24 (0, 0)))
  have HT2 : Hid (w0.heap[w.heap.size + 1 + 1]? = some (.cells #[.slice none 0 0, .int .i64 0] 24 (0, 0))) := (by rw [hw0]; exact alloc_at (by simp) : w0.heap[w.heap.size + 1 + 1]? = some (.cells #[.slice none 0 0, .int .i64 0] 24 (0, 0)))
  clear hw0
  have a0 : w0.cell? ⟨w.heap.size, 0, none⟩ = some (.slice a C.length cap) := block_cell HT0.out rfl
  have b0 : w0.cell? ⟨w.heap.size + 1, 0, none⟩ = some (.slice a' D.length cap') := block_cell HT1.out rfl
  have la : w.heap.size < w0.heap.size := by omega
  have lb : w.heap.size + 1 < w0.heap.size := by omega
  have q1 : IntKind.i64.wrap (2 * (C.length : Int)) = 2 * (C.length : Int) := IntWalk.i64_in _ (by omega)
  have q2 : IntKind.i64.wrap (2 * (D.length : Int)) = 2 * (D.length : Int) := IntWalk.i64_in _ (by omega)
  have q3 : IntKind.i64.wrap ((C.length : Int) + (D.length : Int)) = (C.length : Int) + (D.length : Int) := IntWalk.i64_in _ (by omega)
  have q4 : IntKind.i64.wrap (l1 + l2) = l1 + l2 := IntWalk.i64_in _ (by omega)
  have x1 : decide (x < 1) = false := by simp; omega
  have x2 : decide (2 * (C.length : Int) < x) = false := by simp; omega
  have y1 : decide (y < 1) = false := by simp; omega
  have y2 : decide (2 * (D.length : Int) < y) = true := by simp; omega
  go_enter Try.func43, Try.ntmps43
  go_wp2
  rw [← HW0.out]
  go_quiet (fail)
  have hbq : Below w0.heap.size w0 (w0.drewN nq) := below_drewN (Below.refl _ _) _
  clear a0 b0 la lb
  generalize w0.drewN nq = w1 at hbq ⊢
  have hs1 := hbq.size
  have HB1 : Hid (Below w.heap.size w w1) := HB0.out.trans (hbq.mono HB0.out.size)
  have HA1 : Hid (w1.heap[w.heap.size]? = some (.cells #[.slice a C.length cap, .int .i64 l1] 24 (0, 0))) := (hbq.block _ (by omega)).trans HT0.out
  have HD1 : Hid (w1.heap[w.heap.size + 1]? = some (.cells #[.slice a' D.length cap', .int .i64 l2] 24 (0, 0))) := (hbq.block _ (by omega)).trans HT1.out
  have HR1 : Hid (w1.heap[w.heap.size + 1 + 1]? = some (.cells #[.slice none 0 0, .int .i64 0] 24 (0, 0))) := (hbq.block _ (by omega)).trans HT2.out
  clear hbq
  have a0 : w1.cell? ⟨w.heap.size, 0, none⟩ = some (.slice a C.length cap) := block_cell HA1.out rfl
  have a1 : w1.cell? ⟨w.heap.size, 1, none⟩ = some (.int .i64 l1) := block_cell HA1.out rfl
  have b0 : w1.cell? ⟨w.heap.size + 1, 0, none⟩ = some (.slice a' D.length cap') := block_cell HD1.out rfl
  have b1 : w1.cell? ⟨w.heap.size + 1, 1, none⟩ = some (.int .i64 l2) := block_cell HD1.out rfl
  have r0 : w1.cell? ⟨w.heap.size + 1 + 1, 0, none⟩ = some (.slice none 0 0) := block_cell HR1.out rfl
  have r1 : w1.cell? ⟨w.heap.size + 1 + 1, 1, none⟩ = some (.int .i64 0) := block_cell HR1.out rfl
  have f0 : w1.frozen? ⟨w.heap.size + 1 + 1, 0, none⟩ = false := block_frozen HR1.out
  have f1 : w1.frozen? ⟨w.heap.size + 1 + 1, 1, none⟩ = false := block_frozen HR1.out
  have l0 : w.heap.size + 1 + 1 < w1.heap.size := by omega
  have la : w.heap.size < w1.heap.size := by omega
  have lb : w.heap.size + 1 < w1.heap.size := by omega
  go_wp2
  have hX := set_block (i := 1) (u := .int .i64 0) (set_block (i := 0) (u := .slice none 0 0) HR1.out)
  have x0 := block_cell (i := 0) (v := .slice none 0 0) hX rfl
  have x1' := block_cell (i := 1) (v := .int .i64 0) hX rfl
  exact bodyPost_ret (v := .tuple #[.agg #[.slice none 0 0, .int .i64 0], .int .i64 3]) (by simp [results, Try.results43, go_sem, x0, x1']) rfl ⟨rfl, HB1.out.grown (st2_grown w1 (w.heap.size + 1 + 1) 0 (.slice none 0 0) (.int .i64 0)) (by omega) (fun q hq => by have := Option.some.inj hq; omega)⟩

set_option maxHeartbeats 4000000 in
set_option maxRecDepth 100000 in
theorem sumOf_5 (v1 v2 : Value) (C D : List Cr) (l1 l2 x y : Int) (w : World) (h1 : Crs w w.heap.size v1 C) (h2 : Crs w w.heap.size v2 D) (s1 : C.length ≤ 16) (s2 : D.length ≤ 16) (p1 : 0 ≤ l1 ∧ l1 ≤ 16) (p2 : 0 ≤ l2 ∧ l2 ≤ 16) (h1x : 1 ≤ x) (hx : x ≤ 2 * (C.length : Int)) (h1y : 1 ≤ y) (hy : y ≤ 2 * (D.length : Int)) (hn : 16 < C.length + D.length) :
    Calls Try.prog 43 #[.agg #[v1, .int .i64 l1], .int .i64 x, .agg #[v2, .int .i64 l2], .int .i64 y] w fun e w' => e = .returned (.tuple #[.agg #[.slice none 0 0, .int .i64 0], .int .i64 2]) ∧ Below w.heap.size w w' := by
  have HC : Hid (Crs w w.heap.size v1 C) := h1
  have HD : Hid (Crs w w.heap.size v2 D) := h2
  obtain ⟨a, cap, rfl⟩ := slice_Crs' h1
  obtain ⟨a', cap', rfl⟩ := slice_Crs' h2
  clear h1 h2
  obtain ⟨w0, hw0⟩ : ∃ w0, w0 = ((w.alloc (.cells #[.slice a C.length cap, .int .i64 l1] 24)).alloc (.cells #[.slice a' D.length cap', .int .i64 l2] 24)).alloc (.cells #[.slice none 0 0, .int .i64 0] 24) := ⟨_, rfl⟩
  have HW0 : Hid (w0 = ((w.alloc (.cells #[.slice a C.length cap, .int .i64 l1] 24)).alloc (.cells #[.slice a' D.length cap', .int .i64 l2] 24)).alloc (.cells #[.slice none 0 0, .int .i64 0] 24)) := hw0
  have hs0 : w0.heap.size = w.heap.size + 3 := by rw [hw0]; simp
  have HB0 : Hid (Below w.heap.size w w0) := (by rw [hw0]; exact below3 _ _ _ _ : Below w.heap.size w w0)
  have HT0 : Hid (w0.heap[w.heap.size]? = some (.cells #[.slice a C.length cap, .int .i64 l1] 24 (0, 0))) := (by rw [hw0]; exact alloc_old (alloc_old (alloc_at rfl)) : w0.heap[w.heap.size]? = some (.cells #[.slice a C.length cap, .int .i64 l1] 24 (0, 0)))
  have HT1 : Hid (w0.heap[w.heap.size + 1]? = some (.cells #[.slice a' D.length cap', .int .i64 l2] 24 (0, 0))) := (by rw [hw0]; exact alloc_old (alloc_at (by simp)) : w0.heap[w.heap.size + 1]? = some (.cells #[.slice a' D.length cap', .int .i64 l2] 24 (0, 0)))
  have HT2 : Hid (w0.heap[w.heap.size + 1 + 1]? = some (.cells #[.slice none 0 0, .int .i64 0] 24 (0, 0))) := (by rw [hw0]; exact alloc_at (by simp) : w0.heap[w.heap.size + 1 + 1]? = some (.cells #[.slice none 0 0, .int .i64 0] 24 (0, 0)))
  clear hw0
  have a0 : w0.cell? ⟨w.heap.size, 0, none⟩ = some (.slice a C.length cap) := block_cell HT0.out rfl
  have b0 : w0.cell? ⟨w.heap.size + 1, 0, none⟩ = some (.slice a' D.length cap') := block_cell HT1.out rfl
  have la : w.heap.size < w0.heap.size := by omega
  have lb : w.heap.size + 1 < w0.heap.size := by omega
  have q1 : IntKind.i64.wrap (2 * (C.length : Int)) = 2 * (C.length : Int) := IntWalk.i64_in _ (by omega)
  have q2 : IntKind.i64.wrap (2 * (D.length : Int)) = 2 * (D.length : Int) := IntWalk.i64_in _ (by omega)
  have q3 : IntKind.i64.wrap ((C.length : Int) + (D.length : Int)) = (C.length : Int) + (D.length : Int) := IntWalk.i64_in _ (by omega)
  have q4 : IntKind.i64.wrap (l1 + l2) = l1 + l2 := IntWalk.i64_in _ (by omega)
  have x1 : decide (x < 1) = false := by simp; omega
  have x2 : decide (2 * (C.length : Int) < x) = false := by simp; omega
  have y1 : decide (y < 1) = false := by simp; omega
  have y2 : decide (2 * (D.length : Int) < y) = false := by simp; omega
  have n1 : decide (16 < (C.length : Int) + (D.length : Int)) = true := by simp; omega
  go_enter Try.func43, Try.ntmps43
  go_wp2
  rw [← HW0.out]
  go_quiet (fail)
  have hbq : Below w0.heap.size w0 (w0.drewN nq) := below_drewN (Below.refl _ _) _
  clear a0 b0 la lb
  generalize w0.drewN nq = w1 at hbq ⊢
  have hs1 := hbq.size
  have HB1 : Hid (Below w.heap.size w w1) := HB0.out.trans (hbq.mono HB0.out.size)
  have HA1 : Hid (w1.heap[w.heap.size]? = some (.cells #[.slice a C.length cap, .int .i64 l1] 24 (0, 0))) := (hbq.block _ (by omega)).trans HT0.out
  have HD1 : Hid (w1.heap[w.heap.size + 1]? = some (.cells #[.slice a' D.length cap', .int .i64 l2] 24 (0, 0))) := (hbq.block _ (by omega)).trans HT1.out
  have HR1 : Hid (w1.heap[w.heap.size + 1 + 1]? = some (.cells #[.slice none 0 0, .int .i64 0] 24 (0, 0))) := (hbq.block _ (by omega)).trans HT2.out
  clear hbq
  have a0 : w1.cell? ⟨w.heap.size, 0, none⟩ = some (.slice a C.length cap) := block_cell HA1.out rfl
  have a1 : w1.cell? ⟨w.heap.size, 1, none⟩ = some (.int .i64 l1) := block_cell HA1.out rfl
  have b0 : w1.cell? ⟨w.heap.size + 1, 0, none⟩ = some (.slice a' D.length cap') := block_cell HD1.out rfl
  have b1 : w1.cell? ⟨w.heap.size + 1, 1, none⟩ = some (.int .i64 l2) := block_cell HD1.out rfl
  have r0 : w1.cell? ⟨w.heap.size + 1 + 1, 0, none⟩ = some (.slice none 0 0) := block_cell HR1.out rfl
  have r1 : w1.cell? ⟨w.heap.size + 1 + 1, 1, none⟩ = some (.int .i64 0) := block_cell HR1.out rfl
  have f0 : w1.frozen? ⟨w.heap.size + 1 + 1, 0, none⟩ = false := block_frozen HR1.out
  have f1 : w1.frozen? ⟨w.heap.size + 1 + 1, 1, none⟩ = false := block_frozen HR1.out
  have l0 : w.heap.size + 1 + 1 < w1.heap.size := by omega
  have la : w.heap.size < w1.heap.size := by omega
  have lb : w.heap.size + 1 < w1.heap.size := by omega
  go_wp2
  have hX := set_block (i := 1) (u := .int .i64 0) (set_block (i := 0) (u := .slice none 0 0) HR1.out)
  have x0 := block_cell (i := 0) (v := .slice none 0 0) hX rfl
  have x1' := block_cell (i := 1) (v := .int .i64 0) hX rfl
  exact bodyPost_ret (v := .tuple #[.agg #[.slice none 0 0, .int .i64 0], .int .i64 2]) (by simp [results, Try.results43, go_sem, x0, x1']) rfl ⟨rfl, HB1.out.grown (st2_grown w1 (w.heap.size + 1 + 1) 0 (.slice none 0 0) (.int .i64 0)) (by omega) (fun q hq => by have := Option.some.inj hq; omega)⟩

set_option maxHeartbeats 4000000 in
set_option maxRecDepth 100000 in
theorem sumOf_6 (v1 v2 : Value) (C D : List Cr) (l1 l2 x y : Int) (w : World) (h1 : Crs w w.heap.size v1 C) (h2 : Crs w w.heap.size v2 D) (s1 : C.length ≤ 16) (s2 : D.length ≤ 16) (p1 : 0 ≤ l1 ∧ l1 ≤ 16) (p2 : 0 ≤ l2 ∧ l2 ≤ 16) (h1x : 1 ≤ x) (hx : x ≤ 2 * (C.length : Int)) (h1y : 1 ≤ y) (hy : y ≤ 2 * (D.length : Int)) (hn : C.length + D.length ≤ 16) (hl : 16 < l1 + l2) :
    Calls Try.prog 43 #[.agg #[v1, .int .i64 l1], .int .i64 x, .agg #[v2, .int .i64 l2], .int .i64 y] w fun e w' => e = .returned (.tuple #[.agg #[.slice none 0 0, .int .i64 0], .int .i64 2]) ∧ Below w.heap.size w w' := by
  have HC : Hid (Crs w w.heap.size v1 C) := h1
  have HD : Hid (Crs w w.heap.size v2 D) := h2
  obtain ⟨a, cap, rfl⟩ := slice_Crs' h1
  obtain ⟨a', cap', rfl⟩ := slice_Crs' h2
  clear h1 h2
  obtain ⟨w0, hw0⟩ : ∃ w0, w0 = ((w.alloc (.cells #[.slice a C.length cap, .int .i64 l1] 24)).alloc (.cells #[.slice a' D.length cap', .int .i64 l2] 24)).alloc (.cells #[.slice none 0 0, .int .i64 0] 24) := ⟨_, rfl⟩
  have HW0 : Hid (w0 = ((w.alloc (.cells #[.slice a C.length cap, .int .i64 l1] 24)).alloc (.cells #[.slice a' D.length cap', .int .i64 l2] 24)).alloc (.cells #[.slice none 0 0, .int .i64 0] 24)) := hw0
  have hs0 : w0.heap.size = w.heap.size + 3 := by rw [hw0]; simp
  have HB0 : Hid (Below w.heap.size w w0) := (by rw [hw0]; exact below3 _ _ _ _ : Below w.heap.size w w0)
  have HT0 : Hid (w0.heap[w.heap.size]? = some (.cells #[.slice a C.length cap, .int .i64 l1] 24 (0, 0))) := (by rw [hw0]; exact alloc_old (alloc_old (alloc_at rfl)) : w0.heap[w.heap.size]? = some (.cells #[.slice a C.length cap, .int .i64 l1] 24 (0, 0)))
  have HT1 : Hid (w0.heap[w.heap.size + 1]? = some (.cells #[.slice a' D.length cap', .int .i64 l2] 24 (0, 0))) := (by rw [hw0]; exact alloc_old (alloc_at (by simp)) : w0.heap[w.heap.size + 1]? = some (.cells #[.slice a' D.length cap', .int .i64 l2] 24 (0, 0)))
  have HT2 : Hid (w0.heap[w.heap.size + 1 + 1]? = some (.cells #[.slice none 0 0, .int .i64 0] 24 (0, 0))) := (by rw [hw0]; exact alloc_at (by simp) : w0.heap[w.heap.size + 1 + 1]? = some (.cells #[.slice none 0 0, .int .i64 0] 24 (0, 0)))
  clear hw0
  have a0 : w0.cell? ⟨w.heap.size, 0, none⟩ = some (.slice a C.length cap) := block_cell HT0.out rfl
  have b0 : w0.cell? ⟨w.heap.size + 1, 0, none⟩ = some (.slice a' D.length cap') := block_cell HT1.out rfl
  have la : w.heap.size < w0.heap.size := by omega
  have lb : w.heap.size + 1 < w0.heap.size := by omega
  have q1 : IntKind.i64.wrap (2 * (C.length : Int)) = 2 * (C.length : Int) := IntWalk.i64_in _ (by omega)
  have q2 : IntKind.i64.wrap (2 * (D.length : Int)) = 2 * (D.length : Int) := IntWalk.i64_in _ (by omega)
  have q3 : IntKind.i64.wrap ((C.length : Int) + (D.length : Int)) = (C.length : Int) + (D.length : Int) := IntWalk.i64_in _ (by omega)
  have q4 : IntKind.i64.wrap (l1 + l2) = l1 + l2 := IntWalk.i64_in _ (by omega)
  have x1 : decide (x < 1) = false := by simp; omega
  have x2 : decide (2 * (C.length : Int) < x) = false := by simp; omega
  have y1 : decide (y < 1) = false := by simp; omega
  have y2 : decide (2 * (D.length : Int) < y) = false := by simp; omega
  have n1 : decide (16 < (C.length : Int) + (D.length : Int)) = false := by simp; omega
  have n2 : decide (16 < l1 + l2) = true := by simp; omega
  go_enter Try.func43, Try.ntmps43
  go_wp2
  rw [← HW0.out]
  go_quiet (fail)
  have hbq : Below w0.heap.size w0 (w0.drewN nq) := below_drewN (Below.refl _ _) _
  clear a0 b0 la lb
  generalize w0.drewN nq = w1 at hbq ⊢
  have hs1 := hbq.size
  have HB1 : Hid (Below w.heap.size w w1) := HB0.out.trans (hbq.mono HB0.out.size)
  have HA1 : Hid (w1.heap[w.heap.size]? = some (.cells #[.slice a C.length cap, .int .i64 l1] 24 (0, 0))) := (hbq.block _ (by omega)).trans HT0.out
  have HD1 : Hid (w1.heap[w.heap.size + 1]? = some (.cells #[.slice a' D.length cap', .int .i64 l2] 24 (0, 0))) := (hbq.block _ (by omega)).trans HT1.out
  have HR1 : Hid (w1.heap[w.heap.size + 1 + 1]? = some (.cells #[.slice none 0 0, .int .i64 0] 24 (0, 0))) := (hbq.block _ (by omega)).trans HT2.out
  clear hbq
  have a0 : w1.cell? ⟨w.heap.size, 0, none⟩ = some (.slice a C.length cap) := block_cell HA1.out rfl
  have a1 : w1.cell? ⟨w.heap.size, 1, none⟩ = some (.int .i64 l1) := block_cell HA1.out rfl
  have b0 : w1.cell? ⟨w.heap.size + 1, 0, none⟩ = some (.slice a' D.length cap') := block_cell HD1.out rfl
  have b1 : w1.cell? ⟨w.heap.size + 1, 1, none⟩ = some (.int .i64 l2) := block_cell HD1.out rfl
  have r0 : w1.cell? ⟨w.heap.size + 1 + 1, 0, none⟩ = some (.slice none 0 0) := block_cell HR1.out rfl
  have r1 : w1.cell? ⟨w.heap.size + 1 + 1, 1, none⟩ = some (.int .i64 0) := block_cell HR1.out rfl
  have f0 : w1.frozen? ⟨w.heap.size + 1 + 1, 0, none⟩ = false := block_frozen HR1.out
  have f1 : w1.frozen? ⟨w.heap.size + 1 + 1, 1, none⟩ = false := block_frozen HR1.out
  have l0 : w.heap.size + 1 + 1 < w1.heap.size := by omega
  have la : w.heap.size < w1.heap.size := by omega
  have lb : w.heap.size + 1 < w1.heap.size := by omega
  go_wp2
  have hX := set_block (i := 1) (u := .int .i64 0) (set_block (i := 0) (u := .slice none 0 0) HR1.out)
  have x0 := block_cell (i := 0) (v := .slice none 0 0) hX rfl
  have x1' := block_cell (i := 1) (v := .int .i64 0) hX rfl
  exact bodyPost_ret (v := .tuple #[.agg #[.slice none 0 0, .int .i64 0], .int .i64 2]) (by simp [results, Try.results43, go_sem, x0, x1']) rfl ⟨rfl, HB1.out.grown (st2_grown w1 (w.heap.size + 1 + 1) 0 (.slice none 0 0) (.int .i64 0)) (by omega) (fun q hq => by have := Option.some.inj hq; omega)⟩

end Go.Proofs.Ytnmgeegmiijflaa
