/- The walks of Drawing.Has and canon.tied. -/
import Derived.Test.YtkbapnjlnnggaaaHs
import Derived.Test.YtkbapnjlnnggaaaS2
namespace Go.Proofs.Ytkbapnjlnnggaaa
open Go.RowKit

/-- Both summands as one. -/
def tieC (C D : List Cr) (x y : Int) : List Cr := C.map (tieX 0 x (y + 2 * (C.length : Int))) ++ D.map (tieX (2 * (C.length : Int)) y x)
theorem arcs_in {C : List Cr} {loops : Int} (hm : mayD C loops = true) : ∀ i k, i < C.length → k < 4 → -1000 ≤ (C.getD i Cr.none).arc k ∧ (C.getD i Cr.none).arc k ≤ 1000 := fun i k hi hk => by
  obtain ⟨s, -, -, -⟩ := sizeB_iff (may_size hm)
  have h := may_fit hm i k hi hk
  have h1 := h.1
  have h2 := h.2.1
  omega

set_option maxHeartbeats 4000000 in
set_option maxRecDepth 100000 in
theorem tied_any (a : Option Addr) (cap : Nat) (C : List Cr) (l1 : Int) (gF cF gT cT : Nat) (a' : Option Addr) (cap' : Nat) (D : List Cr) (l2 : Int) (gF' cF' gT' cT' : Nat) (x y : Int) (w : World) (hm : mayD C l1 = true) (hm' : mayD D l2 = true)
    (_hx : 1 ≤ x ∧ x ≤ 32) (hy : 1 ≤ y ∧ y ≤ 32) (hC : Crs w w.heap.size (.slice a C.length cap) C) (hD : Crs w w.heap.size (.slice a' D.length cap') D) :
    Calls Try.prog 43 #[drV a cap C l1 gF cF gT cT, .int .i64 x, drV a' cap' D l2 gF' cF' gT' cT', .int .i64 y] w fun e w' => ∃ v, e = .returned (.agg #[v, .int .i64 (l1 + l2)]) ∧ w'.ownsRow w.heap.size 89 5 v (tieC C D x y).length (crossCells (tieC C D x y)) ∧ Below w.heap.size w w' := by
  obtain ⟨s1, p1, p2, -⟩ := sizeB_iff (may_size hm)
  obtain ⟨s2, p3, p4, -⟩ := sizeB_iff (may_size hm')
  have HA1 : Hid (∀ i k, i < C.length → k < 4 → -1000 ≤ (C.getD i Cr.none).arc k ∧ (C.getD i Cr.none).arc k ≤ 1000) := arcs_in hm
  have HA2 : Hid (∀ i k, i < D.length → k < 4 → -1000 ≤ (D.getD i Cr.none).arc k ∧ (D.getD i Cr.none).arc k ≤ 1000) := arcs_in hm'
  have HC : Hid (Crs w w.heap.size (.slice a C.length cap) C) := hC
  have HD : Hid (Crs w w.heap.size (.slice a' D.length cap') D) := hD
  unfold drV
  clear hm hm' hC hD
  obtain ⟨w0, hw0⟩ : ∃ w0, w0 = (((w.alloc (.cells #[.slice a C.length cap, .int .i64 l1, .slice (some ⟨gF, 0, none⟩) (2 * C.length + 1) cF, .slice (some ⟨gT, 0, none⟩) (2 * C.length + 1) cT] 71)).alloc (.cells #[.slice a' D.length cap', .int .i64 l2, .slice (some ⟨gF', 0, none⟩) (2 * D.length + 1) cF', .slice (some ⟨gT', 0, none⟩) (2 * D.length + 1) cT'] 71)).alloc (.cells #[.slice none 0 0, .int .i64 0] 24)).alloc (.cells #[.slice none 0 0, .int .i64 (l1 + l2)] 24) := ⟨_, rfl⟩
  have HW0 : Hid (w0 = (((w.alloc (.cells #[.slice a C.length cap, .int .i64 l1, .slice (some ⟨gF, 0, none⟩) (2 * C.length + 1) cF, .slice (some ⟨gT, 0, none⟩) (2 * C.length + 1) cT] 71)).alloc (.cells #[.slice a' D.length cap', .int .i64 l2, .slice (some ⟨gF', 0, none⟩) (2 * D.length + 1) cF', .slice (some ⟨gT', 0, none⟩) (2 * D.length + 1) cT'] 71)).alloc (.cells #[.slice none 0 0, .int .i64 0] 24)).alloc (.cells #[.slice none 0 0, .int .i64 (l1 + l2)] 24)) := hw0
  have hs0 : w0.heap.size = w.heap.size + 4 := by rw [hw0]; simp
  have HB0 : Hid (Below w.heap.size w w0) := (by rw [hw0]; exact (below3 _ _ _ _).alloc (by simp; omega) _ : Below w.heap.size w w0)
  have HT1 : Hid (w0.heap[w.heap.size + 1]? = some (.cells #[.slice a' D.length cap', .int .i64 l2, .slice (some ⟨gF', 0, none⟩) (2 * D.length + 1) cF', .slice (some ⟨gT', 0, none⟩) (2 * D.length + 1) cT'] 71 (0, 0))) := (by rw [hw0]; exact alloc_old (alloc_old (alloc_at (by simp))) : w0.heap[w.heap.size + 1]? = some (.cells #[.slice a' D.length cap', .int .i64 l2, .slice (some ⟨gF', 0, none⟩) (2 * D.length + 1) cF', .slice (some ⟨gT', 0, none⟩) (2 * D.length + 1) cT'] 71 (0, 0)))
  have HT2 : Hid (w0.heap[w.heap.size + 1 + 1]? = some (.cells #[.slice none 0 0, .int .i64 0] 24 (0, 0))) := (by rw [hw0]; exact alloc_old (alloc_at (by simp)) : w0.heap[w.heap.size + 1 + 1]? = some (.cells #[.slice none 0 0, .int .i64 0] 24 (0, 0)))
  have HO0 : Hid (OutAt w0 (w.heap.size + 4) (w.heap.size + 1 + 1 + 1) (.slice none 0 0) (l1 + l2) []) := (by rw [hw0]; exact OutAt.nil (alloc_at (by simp)) : OutAt w0 (w.heap.size + 4) (w.heap.size + 1 + 1 + 1) (.slice none 0 0) (l1 + l2) [])
  have HC0 : Hid (Crs w0 (w.heap.size + 1 + 1 + 1) (.slice a C.length cap) C) := (HC.out.on HB0.out).mono (by omega)
  clear hw0
  have q1 : IntKind.i64.wrap (l1 + l2) = l1 + l2 := IntWalk.i64_in _ (by omega)
  have q2 : IntKind.i64.wrap (2 * (C.length : Int)) = 2 * (C.length : Int) := IntWalk.i64_in _ (by omega)
  have q3 : IntKind.i64.wrap (y + 2 * (C.length : Int)) = y + 2 * (C.length : Int) := IntWalk.i64_in _ (by omega)
  go_enter Try.func43, Try.ntmps43
  go_wp2_with (go_at_call 78; rw [← HW0.out]; refine (tiedLay_any a cap C l1 (l1 + l2) gF cF gT cT 0 x (y + 2 * (C.length : Int)) (w.heap.size + 4) (w.heap.size + 1 + 1 + 1) _ [] _ s1 (by simp) (by omega) (by omega) HC0.out HA1.out (by omega) HO0.out).mono ?_; rintro e9 w1 ⟨rfl, ⟨v1, ho1⟩, hb1⟩; refine Hid.out ?_)
  refine Lib.hid ?_
  have HO1 : Hid (OutAt w1 (w.heap.size + 4) (w.heap.size + 1 + 1 + 1) v1 (l1 + l2) ([] ++ C.map (tieX 0 x (y + 2 * (C.length : Int))))) := ho1
  have HB1 : Hid (Below (w.heap.size + 1 + 1 + 1) w0 w1) := hb1
  have hs1 := hb1.size
  have g1 := (hb1.block _ (by omega)).trans HT1.out
  have HR1 : Hid (w1.heap[w.heap.size + 1 + 1]? = some (.cells #[.slice none 0 0, .int .i64 0] 24 (0, 0))) := (hb1.block _ (by omega)).trans HT2.out
  have HW1 : Hid (Below w.heap.size w w1) := HB0.out.trans (hb1.mono (by omega))
  have HD1 : Hid (Crs w1 (w.heap.size + 1 + 1 + 1) (.slice a' D.length cap') D) := (HD.out.on HW1.out).mono (by omega)
  have e0 : w1.cell? ⟨w.heap.size + 1, 0, none⟩ = some (.slice a' D.length cap') := block_cell g1 rfl
  have e1 : w1.cell? ⟨w.heap.size + 1, 1, none⟩ = some (.int .i64 l2) := block_cell g1 rfl
  have e2 : w1.cell? ⟨w.heap.size + 1, 2, none⟩ = some (.slice (some ⟨gF', 0, none⟩) (2 * D.length + 1) cF') := block_cell g1 rfl
  have e3 : w1.cell? ⟨w.heap.size + 1, 3, none⟩ = some (.slice (some ⟨gT', 0, none⟩) (2 * D.length + 1) cT') := block_cell g1 rfl
  have hl1 : w.heap.size + 1 < w1.heap.size := by omega
  have hlA : ([] ++ C.map (tieX 0 x (y + 2 * (C.length : Int)))).length ≤ 16 := by simp; omega
  clear ho1 hb1 g1
  go_wp2_with (go_at_call 78; refine (tiedLay_any a' cap' D l2 (l1 + l2) gF' cF' gT' cT' (2 * (C.length : Int)) y x (w.heap.size + 4) (w.heap.size + 1 + 1 + 1) _ _ _ s2 hlA (by omega) (by omega) HD1.out HA2.out (by omega) HO1.out).mono ?_; rintro e9 w2 ⟨rfl, ⟨v2, ho2⟩, hb2⟩; refine Hid.out ?_)
  refine Lib.hid ?_
  have HO2 : Hid (OutAt w2 (w.heap.size + 4) (w.heap.size + 1 + 1 + 1) v2 (l1 + l2) (tieC C D x y)) := ho2
  have HB2 : Hid (Below w.heap.size w w2) := HW1.out.trans (hb2.mono (by omega))
  have HR2 : Hid (w2.heap[w.heap.size + 1 + 1]? = some (.cells #[.slice none 0 0, .int .i64 0] 24 (0, 0))) := (hb2.block _ (by omega)).trans HR1.out
  have hs2 := hb2.size
  clear ho2 hb2 e0 e1 e2 e3
  have hsl : (tieC C D x y).length ≤ 40 := by simp [tieC]; omega
  obtain ⟨E, hE⟩ : ∃ E, tieC C D x y = E := ⟨_, rfl⟩
  rw [hE] at HO2 hsl
  have HE : Hid (tieC C D x y = E) := hE
  clear hE
  obtain ⟨a3, c3', ev3⟩ := own_capS HO2.out.row
  subst ev3
  have t0 : w2.cell? ⟨w.heap.size + 1 + 1 + 1, 0, none⟩ = some (.slice a3 E.length c3') := block_cell HO2.out.box rfl
  have t1 : w2.cell? ⟨w.heap.size + 1 + 1 + 1, 1, none⟩ = some (.int .i64 (l1 + l2)) := block_cell HO2.out.box rfl
  have r0 : w2.cell? ⟨w.heap.size + 1 + 1, 0, none⟩ = some (.slice none 0 0) := block_cell HR2.out rfl
  have r1 : w2.cell? ⟨w.heap.size + 1 + 1, 1, none⟩ = some (.int .i64 0) := block_cell HR2.out rfl
  have f0 : w2.frozen? ⟨w.heap.size + 1 + 1, 0, none⟩ = false := block_frozen HR2.out
  have f1 : w2.frozen? ⟨w.heap.size + 1 + 1, 1, none⟩ = false := block_frozen HR2.out
  have hl2 : w.heap.size + 1 + 1 < w2.heap.size := by omega
  have hl3 : w.heap.size + 1 + 1 + 1 < w2.heap.size := by omega
  go_wp2
  have hX := set_block (i := 1) (u := .int .i64 (l1 + l2)) (set_block (i := 0) (u := .slice a3 E.length c3') HR2.out)
  have x0 := block_cell (i := 0) (v := .slice a3 E.length c3') hX rfl
  have x1 := block_cell (i := 1) (v := .int .i64 (l1 + l2)) hX rfl
  have hk := HO2.out.kept (st2_grown w2 (w.heap.size + 1 + 1) 0 (.slice a3 E.length c3') (.int .i64 (l1 + l2))) (by omega) (by omega)
  exact bodyPost_ret (v := .agg #[.slice a3 E.length c3', .int .i64 (l1 + l2)]) (by simp [results, Try.results43, go_sem, x0, x1]) rfl ⟨_, rfl, (by rw [HE.out]; exact own_low hk.row (by omega)), HB2.out.grown (st2_grown w2 (w.heap.size + 1 + 1) 0 (.slice a3 E.length c3') (.int .i64 (l1 + l2))) (by omega) (fun q hq => by have := Option.some.inj hq; omega)⟩
end Go.Proofs.Ytkbapnjlnnggaaa
