/- The walk of sign.chartOf. -/
import Derived.Test.YtlcogbcpmneknaaSG2
import Derived.Deep.Cut
namespace Go.Proofs.Ytlcogbcpmneknaa
open Go.RowKit Go.Maps

theorem infoIntS : (Try.prog.info? 3).map (fun i => (i.zero, i.size, i.bytes)) = some (some (.int .i64 0), 1, 8) := by kernel_rfl
/-- What may be in a chart's place: nothing. -/
def noChart : Value := .agg #[.slice none 0 0, .int .i64 0, .slice none 0 0, .slice none 0 0, .map none, .slice none 0 0]
theorem res_chart {W : World} {g : Nat} {c0 c1 c2 c3 c4 c5 : Value} {x : Int} {tm : Array Value} (h : W.heap[g]? = some (.cells #[c0, c1, c2, c3, c4, c5] 43 (0, 0))) (h2 : tm[2]? = some (.pointer (some ⟨g, 0, none⟩))) (h3 : tm[3]? = some (.int .i64 x)) : (results Try.f11 tm).run Try.prog W = .ok (.tuple #[.agg #[c0, c1, c2, c3, c4, c5], .int .i64 x]) W := by
  have e0 : W.cell? ⟨g, 0, none⟩ = some c0 := block_cell h rfl
  have e1 : W.cell? ⟨g, 1, none⟩ = some c1 := block_cell h rfl
  have e2 : W.cell? ⟨g, 2, none⟩ = some c2 := block_cell h rfl
  have e3 : W.cell? ⟨g, 3, none⟩ = some c3 := block_cell h rfl
  have e4 : W.cell? ⟨g, 4, none⟩ = some c4 := block_cell h rfl
  have e5 : W.cell? ⟨g, 5, none⟩ = some c5 := block_cell h rfl
  simp [results, Try.results11, go_sem, h2, h3, e0, e1, e2, e3, e4, e5]
theorem st6_block {W : World} {g : Nat} {c0 c1 c2 c3 c4 c5 d0 d1 d2 d3 d4 d5 : Value} {t : TypeId} (h : W.heap[g]? = some (.cells #[c0, c1, c2, c3, c4, c5] t (0, 0))) : ((((((W.setCell ⟨g, 0, none⟩ d0).setCell ⟨g, 1, none⟩ d1).setCell ⟨g, 2, none⟩ d2).setCell ⟨g, 3, none⟩ d3).setCell ⟨g, 4, none⟩ d4).setCell ⟨g, 5, none⟩ d5).heap[g]? = some (.cells #[d0, d1, d2, d3, d4, d5] t (0, 0)) := by
  rw [set_block (set_block (set_block (set_block (set_block (set_block h)))))]
  rfl
theorem st6_grown (W : World) (g : Nat) (d0 d1 d2 d3 d4 d5 : Value) : W.grownBy ((((((W.setCell ⟨g, 0, none⟩ d0).setCell ⟨g, 1, none⟩ d1).setCell ⟨g, 2, none⟩ d2).setCell ⟨g, 3, none⟩ d3).setCell ⟨g, 4, none⟩ d4).setCell ⟨g, 5, none⟩ d5) (some g) :=
  grown_trans (grown_trans (grown_trans (grown_trans (grown_trans (set_grown _ _ _ _) (set_grown _ _ _ _)) (set_grown _ _ _ _)) (set_grown _ _ _ _)) (set_grown _ _ _ _)) (set_grown _ _ _ _)

set_option maxHeartbeats 8000000 in
set_option maxRecDepth 100000 in
theorem chart_no (v : Value) (C : List Cr) (loops : Int) (r : Int) (w : World) (hr : r ≠ 0) (h : Crs w w.heap.size v C) (hS : ∀ W, Crs W W.heap.size v C → Calls Try.prog 25 #[.agg #[v, .int .i64 loops]] W fun e w' => e = .returned (.tuple #[noDrawing, .int .i64 r]) ∧ Below W.heap.size W w') :
    Calls Try.prog 11 #[.agg #[v, .int .i64 loops]] w fun e w' => e = .returned (.tuple #[noChart, .int .i64 r]) ∧ Below w.heap.size w w' := by
  obtain ⟨a, cap, rfl, hn, hx⟩ := h
  have HC : Hid (Crs w w.heap.size (.slice a C.length cap) C) := ⟨a, cap, rfl, hn, hx⟩
  unfold noDrawing at hS
  have HS := hidS hS
  have hr0 : (r != 0) = true := by simpa using hr
  obtain ⟨V, hV⟩ : ∃ V, (w.alloc (.cells #[.slice a C.length cap, .int .i64 loops] 24)).alloc (.cells #[.slice none 0 0, .int .i64 0, .slice none 0 0, .slice none 0 0, .map none, .slice none 0 0] 43) = V := ⟨_, rfl⟩
  have hB : Below w.heap.size w V := by rw [← hV]; exact below2 _ _ _
  have hsV : V.heap.size = w.heap.size + 2 := by rw [← hV]; simp
  have k0 : V.heap[w.heap.size]? = some (.cells #[.slice a C.length cap, .int .i64 loops] 24 (0, 0)) := by rw [← hV]; exact alloc_old (alloc_at rfl)
  have k1 : V.heap[w.heap.size + 1]? = some (.cells #[.slice none 0 0, .int .i64 0, .slice none 0 0, .slice none 0 0, .map none, .slice none 0 0] 43 (0, 0)) := by rw [← hV]; exact alloc_at (by simp)
  have v0 : V.cell? ⟨w.heap.size, 0, none⟩ = some (.slice a C.length cap) := block_cell k0 rfl
  have v1 : V.cell? ⟨w.heap.size, 1, none⟩ = some (.int .i64 loops) := block_cell k0 rfl
  have lV : w.heap.size < V.heap.size := by omega
  have HV := hidS hV
  have HB := hidS hB
  have HK1 := hidS k1
  clear hV hB k0 k1 hS hx
  go_enter Try.func11, Try.ntmps11
  go_upto_region 1 with (fail)
  rw [HV.out]
  go_upto_region 3 with (go_at_call 25; refine (HS.out _ (HC.out.up HB.out)).mono ?_; rintro e9 w2 ⟨rfl, hb2⟩; have HB2 := hidS hb2; clear hb2)
  obtain ⟨X, hX⟩ : ∃ X, w2.alloc (.cells #[.slice none 0 0, .int .i64 0, .slice none 0 0, .slice none 0 0] 39) = X := ⟨_, rfl⟩
  have hbX : Below V.heap.size V X := by rw [← hX]; exact HB2.out.alloc HB2.out.size _
  have kX := (hbX.block _ (by omega)).trans HK1.out
  have x0 : X.cell? ⟨w.heap.size + 1, 0, none⟩ = some (.slice none 0 0) := block_cell kX rfl
  have x1 : X.cell? ⟨w.heap.size + 1, 1, none⟩ = some (.int .i64 0) := block_cell kX rfl
  have x2 : X.cell? ⟨w.heap.size + 1, 2, none⟩ = some (.slice none 0 0) := block_cell kX rfl
  have x3 : X.cell? ⟨w.heap.size + 1, 3, none⟩ = some (.slice none 0 0) := block_cell kX rfl
  have x4 : X.cell? ⟨w.heap.size + 1, 4, none⟩ = some (.map none) := block_cell kX rfl
  have x5 : X.cell? ⟨w.heap.size + 1, 5, none⟩ = some (.slice none 0 0) := block_cell kX rfl
  have z0 : X.frozen? ⟨w.heap.size + 1, 0, none⟩ = false := block_frozen kX
  have z1 : X.frozen? ⟨w.heap.size + 1, 1, none⟩ = false := block_frozen kX
  have z2 : X.frozen? ⟨w.heap.size + 1, 2, none⟩ = false := block_frozen kX
  have z3 : X.frozen? ⟨w.heap.size + 1, 3, none⟩ = false := block_frozen kX
  have z4 : X.frozen? ⟨w.heap.size + 1, 4, none⟩ = false := block_frozen kX
  have z5 : X.frozen? ⟨w.heap.size + 1, 5, none⟩ = false := block_frozen kX
  have lX : w.heap.size + 1 < X.heap.size := (Array.getElem?_eq_some_iff.1 kX).1
  have HKX := hidS kX
  have HBX := hidS hbX
  rw [hX]
  clear hX hbX kX v0 v1
  go_wp2
  have hb := HB.out.trans (HBX.out.mono (by omega))
  have hg := st6_grown X (w.heap.size + 1) (.slice none 0 0) (.int .i64 0) (.slice none 0 0) (.slice none 0 0) (.map none) (.slice none 0 0)
  exact bodyPost_ret (res_chart (st6_block HKX.out) rfl rfl) rfl ⟨rfl, hb.grown hg hb.size (fun q hq => by have := Option.some.inj hq; omega)⟩
end Go.Proofs.Ytlcogbcpmneknaa
