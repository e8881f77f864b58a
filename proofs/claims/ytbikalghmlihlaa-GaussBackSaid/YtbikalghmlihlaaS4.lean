/- The walk of canon.both. -/
import Derived.Test.YtbikalghmlihlaaS3
import Derived.Deep.Cut
namespace Go.Proofs.Ytbikalghmlihlaa
open Go.RowKit

/-- A drawing as a value: of a diagram that may be, and of none. -/
structure DrawIs (w : World) (v : Value) (loops : Int) (C : List Cr) (c0 c1 c2 c3 : Value) : Prop where
  no : mayD C loops = false → c0 = .slice none 0 0 ∧ c1 = .int .i64 0 ∧ c2 = .slice none 0 0 ∧ c3 = .slice none 0 0
  yes : mayD C loops = true → ∃ a cap gF cF gT cT, v = .slice a C.length cap ∧ c0 = v ∧ c1 = .int .i64 loops ∧ c2 = .slice (some ⟨gF, 0, none⟩) (2 * C.length + 1) cF ∧ c3 = .slice (some ⟨gT, 0, none⟩) (2 * C.length + 1) cT

/-- Four cells written out. -/
def Shaped (c0 c1 c2 c3 : Value) : Prop := ∃ (a : Option Addr) (n cap : Nat) (l : Int) (gF : Option Addr) (nF cF : Nat) (gT : Option Addr) (nT cT : Nat), c0 = .slice a n cap ∧ c1 = .int .i64 l ∧ c2 = .slice gF nF cF ∧ c3 = .slice gT nT cT
theorem drew_block {w : World} {k : Nat} {o : Option Obj} (h : w.heap[k]? = o) : w.drew.heap[k]? = o := h
theorem slice_Crs' {w : World} {B : Nat} {v : Value} {C : List Cr} (h : Crs w B v C) : ∃ a cap, v = .slice a C.length cap := by
  obtain ⟨a, cap, rfl, -, -⟩ := h
  exact ⟨a, cap, rfl⟩
theorem of_cells {v : Value} {C : List Cr} {loops : Int} {w : World} (h : Crs w w.heap.size v C) :
    Calls Try.prog 65 #[.agg #[v, .int .i64 loops]] w fun e w' => ∃ c0 c1 c2 c3, e = .returned (.tuple #[.agg #[c0, c1, c2, c3], .bool (mayD C loops)]) ∧ Below w.heap.size w w' ∧ DrawIs w v loops C c0 c1 c2 c3 := by
  refine (of_any v C loops w h).mono fun e w' hq => ?_
  obtain ⟨d, rfl, hb, hd⟩ := hq
  cases hm : mayD C loops with
  | false =>
    refine ⟨.slice none 0 0, .int .i64 0, .slice none 0 0, .slice none 0 0, by rw [hd.no hm]; rfl, hb, ⟨fun _ => ⟨rfl, rfl, rfl, rfl⟩, fun h => (by rw [hm] at h; cases h)⟩⟩
  | true =>
    obtain ⟨gF, cF, gT, cT, rfl, -, -⟩ := hd.yes hm
    obtain ⟨a, cap, rfl⟩ := slice_Crs' h
    exact ⟨_, _, _, _, rfl, hb, ⟨fun h => (by rw [hm] at h; cases h), fun _ => ⟨a, cap, gF, cF, gT, cT, rfl, rfl, rfl, rfl, rfl⟩⟩⟩

set_option maxHeartbeats 4000000 in
set_option maxRecDepth 100000 in
theorem both_any (v1 v2 : Value) (C D : List Cr) (l1 l2 : Int) (w : World) (h1 : Crs w w.heap.size v1 C) (h2 : Crs w w.heap.size v2 D) :
    Calls Try.prog 70 #[.agg #[v1, .int .i64 l1], .agg #[v2, .int .i64 l2]] w fun e w' => ∃ c0 c1 c2 c3 d0 d1 d2 d3, e = .returned (.tuple #[.agg #[c0, c1, c2, c3], .agg #[d0, d1, d2, d3], .bool (mayD C l1 && mayD D l2)]) ∧ Below w.heap.size w w' ∧ Shaped c0 c1 c2 c3 ∧ Shaped d0 d1 d2 d3 ∧ (mayD C l1 = true → mayD D l2 = true → DrawIs w v1 l1 C c0 c1 c2 c3 ∧ DrawIs w v2 l2 D d0 d1 d2 d3) := by
  have HC : Hid (Crs w w.heap.size v1 C) := h1
  have HD : Hid (Crs w w.heap.size v2 D) := h2
  obtain ⟨a, cap, rfl⟩ := slice_Crs' h1
  obtain ⟨a', cap', rfl⟩ := slice_Crs' h2
  clear h1 h2
  obtain ⟨w0, hw0⟩ : ∃ w0, w0 = (((w.alloc (.cells #[.slice a C.length cap, .int .i64 l1] 24)).alloc (.cells #[.slice a' D.length cap', .int .i64 l2] 24)).alloc (.cells #[.slice none 0 0, .int .i64 0, .slice none 0 0, .slice none 0 0] 103)).alloc (.cells #[.slice none 0 0, .int .i64 0, .slice none 0 0, .slice none 0 0] 103) := ⟨_, rfl⟩
  have HW0 : Hid (w0 = (((w.alloc (.cells #[.slice a C.length cap, .int .i64 l1] 24)).alloc (.cells #[.slice a' D.length cap', .int .i64 l2] 24)).alloc (.cells #[.slice none 0 0, .int .i64 0, .slice none 0 0, .slice none 0 0] 103)).alloc (.cells #[.slice none 0 0, .int .i64 0, .slice none 0 0, .slice none 0 0] 103)) := hw0
  have hs0 : w0.heap.size = w.heap.size + 4 := by rw [hw0]; simp
  have HB0 : Hid (Below w.heap.size w w0) := (by rw [hw0]; exact (below3 _ _ _ _).alloc (by simp; omega) _ : Below w.heap.size w w0)
  have HT1 : Hid (w0.heap[w.heap.size + 1]? = some (.cells #[.slice a' D.length cap', .int .i64 l2] 24 (0, 0))) := (by rw [hw0]; exact alloc_old (alloc_old (alloc_at (by simp))) : w0.heap[w.heap.size + 1]? = some (.cells #[.slice a' D.length cap', .int .i64 l2] 24 (0, 0)))
  have HT2 : Hid (w0.heap[w.heap.size + 1 + 1]? = some (.cells #[.slice none 0 0, .int .i64 0, .slice none 0 0, .slice none 0 0] 103 (0, 0))) := (by rw [hw0]; exact alloc_old (alloc_at (by simp)) : w0.heap[w.heap.size + 1 + 1]? = some (.cells #[.slice none 0 0, .int .i64 0, .slice none 0 0, .slice none 0 0] 103 (0, 0)))
  have HT3 : Hid (w0.heap[w.heap.size + 1 + 1 + 1]? = some (.cells #[.slice none 0 0, .int .i64 0, .slice none 0 0, .slice none 0 0] 103 (0, 0))) := (by rw [hw0]; exact alloc_at (by simp) : w0.heap[w.heap.size + 1 + 1 + 1]? = some (.cells #[.slice none 0 0, .int .i64 0, .slice none 0 0, .slice none 0 0] 103 (0, 0)))
  clear hw0
  go_enter Try.func70, Try.ntmps70
  go_wp2_with (go_at_call 65; rw [← HW0.out]; refine (of_cells (HC.out.up HB0.out)).mono ?_; rintro e9 w1 ⟨c0, c1, c2, c3, rfl, hb1, hd1⟩; refine Hid.out ?_)
  refine Lib.hid ?_
  have HD1 : Hid (mayD C l1 = true → ∃ a cap gF cF gT cT, Value.slice a C.length cap = .slice a C.length cap ∧ True) := fun _ => ⟨none, 0, 0, 0, 0, 0, rfl, trivial⟩
  have HB1 : Hid (Below w0.heap.size w0 w1) := hb1
  have hs1 := hb1.size
  have HDI1 : Hid (DrawIs w0 (.slice a C.length cap) l1 C c0 c1 c2 c3) := hd1
  have g2 := (hb1.block _ (by omega)).trans HT2.out
  have HG2 : Hid (w1.heap[w.heap.size + 1 + 1]? = some (.cells #[.slice none 0 0, .int .i64 0, .slice none 0 0, .slice none 0 0] 103 (0, 0))) := g2
  have HG3 : Hid (w1.heap[w.heap.size + 1 + 1 + 1]? = some (.cells #[.slice none 0 0, .int .i64 0, .slice none 0 0, .slice none 0 0] 103 (0, 0))) := (hb1.block _ (by omega)).trans HT3.out
  have HG1 : Hid (w1.heap[w.heap.size + 1]? = some (.cells #[.slice a' D.length cap', .int .i64 l2] 24 (0, 0))) := (hb1.block _ (by omega)).trans HT1.out
  have m0 : w1.cell? ⟨w.heap.size + 1 + 1, 0, none⟩ = some (.slice none 0 0) := block_cell g2 rfl
  have m1 : w1.cell? ⟨w.heap.size + 1 + 1, 1, none⟩ = some (.int .i64 0) := block_cell g2 rfl
  have m2 : w1.cell? ⟨w.heap.size + 1 + 1, 2, none⟩ = some (.slice none 0 0) := block_cell g2 rfl
  have m3 : w1.cell? ⟨w.heap.size + 1 + 1, 3, none⟩ = some (.slice none 0 0) := block_cell g2 rfl
  have n0 : w1.frozen? ⟨w.heap.size + 1 + 1, 0, none⟩ = false := block_frozen g2
  have n1 : w1.frozen? ⟨w.heap.size + 1 + 1, 1, none⟩ = false := block_frozen g2
  have n2 : w1.frozen? ⟨w.heap.size + 1 + 1, 2, none⟩ = false := block_frozen g2
  have n3 : w1.frozen? ⟨w.heap.size + 1 + 1, 3, none⟩ = false := block_frozen g2
  have hl1 : w.heap.size + 1 + 1 < w1.heap.size := by omega
  clear hb1 hd1 g2 HD1
  cases hm : mayD C l1 with
  | false =>
    obtain ⟨rfl, rfl, rfl, rfl⟩ := HDI1.out.no hm
    go_wp2
    obtain ⟨W, hW⟩ : ∃ W, W = st4 w1 (w.heap.size + 1 + 1) (.slice none 0 0) (.int .i64 0) (.slice none 0 0) (.slice none 0 0) := ⟨_, rfl⟩
    have hv2 : W.heap[w.heap.size + 1 + 1]? = some (.cells #[(.slice none 0 0), (.int .i64 0), (.slice none 0 0), (.slice none 0 0)] 103 (0, 0)) := by rw [hW]; exact st4_block HG2.out
    have HX3 : Hid (W.heap[w.heap.size + 1 + 1 + 1]? = some (.cells #[.slice none 0 0, .int .i64 0, .slice none 0 0, .slice none 0 0] 103 (0, 0))) := (by rw [hW]; exact ((st4_grown w1 (w.heap.size + 1 + 1) _ _ _ _).block _ (by omega) (fun e => by have := Option.some.inj e; omega)).trans HG3.out : W.heap[w.heap.size + 1 + 1 + 1]? = some (.cells #[.slice none 0 0, .int .i64 0, .slice none 0 0, .slice none 0 0] 103 (0, 0)))
    have HX1 : Hid (W.heap[w.heap.size + 1]? = some (.cells #[.slice a' D.length cap', .int .i64 l2] 24 (0, 0))) := (by rw [hW]; exact ((st4_grown w1 (w.heap.size + 1 + 1) _ _ _ _).block _ (by omega) (fun e => by have := Option.some.inj e; omega)).trans HG1.out : W.heap[w.heap.size + 1]? = some (.cells #[.slice a' D.length cap', .int .i64 l2] 24 (0, 0)))
    have HBW : Hid (Below w.heap.size w W) := (by rw [hW]; exact (HB0.out.trans (HB1.out.mono (by omega))).grown (st4_grown w1 (w.heap.size + 1 + 1) _ _ _ _) (by omega) (fun q hq => by have := Option.some.inj hq; omega) : Below w.heap.size w W)
    have hsW : w1.heap.size ≤ W.heap.size := by rw [hW]; exact (st4_grown w1 (w.heap.size + 1 + 1) _ _ _ _).size
    unfold st4 at hW
    rw [← hW]
    clear hW m0 m1 m2 m3 n0 n1 n2 n3
    have hv3 := HX3.out
    have HV2 : Hid (W.heap[w.heap.size + 1 + 1]? = some (.cells #[(.slice none 0 0), (.int .i64 0), (.slice none 0 0), (.slice none 0 0)] 103 (0, 0))) := hv2
    have HV3 : Hid (W.heap[w.heap.size + 1 + 1 + 1]? = some (.cells #[(.slice none 0 0), (.int .i64 0), (.slice none 0 0), (.slice none 0 0)] 103 (0, 0))) := hv3
    have k0 : W.cell? ⟨w.heap.size + 1 + 1, 0, none⟩ = some (.slice none 0 0) := block_cell hv2 rfl
    have k1 : W.cell? ⟨w.heap.size + 1 + 1, 1, none⟩ = some (.int .i64 0) := block_cell hv2 rfl
    have k2 : W.cell? ⟨w.heap.size + 1 + 1, 2, none⟩ = some (.slice none 0 0) := block_cell hv2 rfl
    have k3 : W.cell? ⟨w.heap.size + 1 + 1, 3, none⟩ = some (.slice none 0 0) := block_cell hv2 rfl
    have j0 : W.cell? ⟨w.heap.size + 1 + 1 + 1, 0, none⟩ = some (.slice none 0 0) := block_cell hv3 rfl
    have j1 : W.cell? ⟨w.heap.size + 1 + 1 + 1, 1, none⟩ = some (.int .i64 0) := block_cell hv3 rfl
    have j2 : W.cell? ⟨w.heap.size + 1 + 1 + 1, 2, none⟩ = some (.slice none 0 0) := block_cell hv3 rfl
    have j3 : W.cell? ⟨w.heap.size + 1 + 1 + 1, 3, none⟩ = some (.slice none 0 0) := block_cell hv3 rfl
    have y0 : W.frozen? ⟨w.heap.size + 1 + 1, 0, none⟩ = false := block_frozen hv2
    have y1 : W.frozen? ⟨w.heap.size + 1 + 1, 1, none⟩ = false := block_frozen hv2
    have y2 : W.frozen? ⟨w.heap.size + 1 + 1, 2, none⟩ = false := block_frozen hv2
    have y3 : W.frozen? ⟨w.heap.size + 1 + 1, 3, none⟩ = false := block_frozen hv2
    have z0 : W.frozen? ⟨w.heap.size + 1 + 1 + 1, 0, none⟩ = false := block_frozen hv3
    have z1 : W.frozen? ⟨w.heap.size + 1 + 1 + 1, 1, none⟩ = false := block_frozen hv3
    have z2 : W.frozen? ⟨w.heap.size + 1 + 1 + 1, 2, none⟩ = false := block_frozen hv3
    have z3 : W.frozen? ⟨w.heap.size + 1 + 1 + 1, 3, none⟩ = false := block_frozen hv3
    have hlw : w.heap.size + 1 + 1 + 1 < W.heap.size := (Array.getElem?_eq_some_iff.1 hv3).1
    have hlv : w.heap.size + 1 + 1 < W.heap.size := by omega
    clear hv2 hv3
    go_region
    all_goals go_wp2
    all_goals
      have hX3 := st4_block (a := (.slice none 0 0)) (b := (.int .i64 0)) (c := (.slice none 0 0)) (d := (.slice none 0 0)) (((st4_grown W (w.heap.size + 1 + 1) (.slice none 0 0) (.int .i64 0) (.slice none 0 0) (.slice none 0 0)).block (w.heap.size + 1 + 1 + 1) (by omega) (fun e => by have := Option.some.inj e; omega)).trans HV3.out)
      have hX2 := ((st4_grown (st4 W (w.heap.size + 1 + 1) (.slice none 0 0) (.int .i64 0) (.slice none 0 0) (.slice none 0 0)) (w.heap.size + 1 + 1 + 1) (.slice none 0 0) (.int .i64 0) (.slice none 0 0) (.slice none 0 0)).block (w.heap.size + 1 + 1) (by have h9 := (st4_grown W (w.heap.size + 1 + 1) (.slice none 0 0) (.int .i64 0) (.slice none 0 0) (.slice none 0 0)).size; omega) (fun e => by have := Option.some.inj e; omega)).trans (st4_block (a := (.slice none 0 0)) (b := (.int .i64 0)) (c := (.slice none 0 0)) (d := (.slice none 0 0)) HV2.out)
      have hz1 := (st4_grown W (w.heap.size + 1 + 1) (.slice none 0 0) (.int .i64 0) (.slice none 0 0) (.slice none 0 0)).size
      have hz2 := HBW.out.size
      have HBF : Hid (Below w.heap.size w (st4 (st4 W (w.heap.size + 1 + 1) (.slice none 0 0) (.int .i64 0) (.slice none 0 0) (.slice none 0 0)) (w.heap.size + 1 + 1 + 1) (.slice none 0 0) (.int .i64 0) (.slice none 0 0) (.slice none 0 0)).drew) := (((HBW.out).grown (st4_grown W (w.heap.size + 1 + 1) (.slice none 0 0) (.int .i64 0) (.slice none 0 0) (.slice none 0 0)) HBW.out.size (fun q hq => by have := Option.some.inj hq; omega)).grown (st4_grown (st4 W (w.heap.size + 1 + 1) (.slice none 0 0) (.int .i64 0) (.slice none 0 0) (.slice none 0 0)) (w.heap.size + 1 + 1 + 1) (.slice none 0 0) (.int .i64 0) (.slice none 0 0) (.slice none 0 0)) (by omega) (fun q hq => by have := Option.some.inj hq; omega)).drew
      have hY2 : (st4 (st4 W (w.heap.size + 1 + 1) (.slice none 0 0) (.int .i64 0) (.slice none 0 0) (.slice none 0 0)) (w.heap.size + 1 + 1 + 1) (.slice none 0 0) (.int .i64 0) (.slice none 0 0) (.slice none 0 0)).drew.heap[w.heap.size + 1 + 1]? = some (.cells #[(.slice none 0 0), (.int .i64 0), (.slice none 0 0), (.slice none 0 0)] 103 (0, 0)) := drew_block hX2
      have hY3 : (st4 (st4 W (w.heap.size + 1 + 1) (.slice none 0 0) (.int .i64 0) (.slice none 0 0) (.slice none 0 0)) (w.heap.size + 1 + 1 + 1) (.slice none 0 0) (.int .i64 0) (.slice none 0 0) (.slice none 0 0)).drew.heap[w.heap.size + 1 + 1 + 1]? = some (.cells #[(.slice none 0 0), (.int .i64 0), (.slice none 0 0), (.slice none 0 0)] 103 (0, 0)) := drew_block hX3
      clear hX2 hX3
      unfold st4 at hY2 hY3
      have u0 := block_cell (i := 0) (v := (.slice none 0 0)) hY2 rfl
      have u1 := block_cell (i := 1) (v := (.int .i64 0)) hY2 rfl
      have u2 := block_cell (i := 2) (v := (.slice none 0 0)) hY2 rfl
      have u3 := block_cell (i := 3) (v := (.slice none 0 0)) hY2 rfl
      have v0 := block_cell (i := 0) (v := (.slice none 0 0)) hY3 rfl
      have v1 := block_cell (i := 1) (v := (.int .i64 0)) hY3 rfl
      have v2 := block_cell (i := 2) (v := (.slice none 0 0)) hY3 rfl
      have v3 := block_cell (i := 3) (v := (.slice none 0 0)) hY3 rfl
      exact bodyPost_ret (v := .tuple #[.agg #[(.slice none 0 0), (.int .i64 0), (.slice none 0 0), (.slice none 0 0)], .agg #[(.slice none 0 0), (.int .i64 0), (.slice none 0 0), (.slice none 0 0)], .bool false]) (by simp [results, Try.results70, go_sem, u0, u1, u2, u3, v0, v1, v2, v3]) rfl ⟨(.slice none 0 0), (.int .i64 0), (.slice none 0 0), (.slice none 0 0), (.slice none 0 0), (.int .i64 0), (.slice none 0 0), (.slice none 0 0), (by rw [hm]; rfl), HBF.out, ⟨_, _, _, _, _, _, _, _, _, _, rfl, rfl, rfl, rfl⟩, ⟨_, _, _, _, _, _, _, _, _, _, rfl, rfl, rfl, rfl⟩, fun h => (by rw [hm] at h; cases h)⟩
  | true =>
    obtain ⟨a8, cap8, gF, cF, gT, cT, ev8, rfl, rfl, rfl, rfl⟩ := HDI1.out.yes hm
    go_upto_if 12 with (fail)
    obtain ⟨W, hW⟩ : ∃ W, W = st4 w1 (w.heap.size + 1 + 1) ((.slice a C.length cap)) ((.int .i64 l1)) ((.slice (some ⟨gF, 0, none⟩) (2 * C.length + 1) cF)) ((.slice (some ⟨gT, 0, none⟩) (2 * C.length + 1) cT)) := ⟨_, rfl⟩
    have hv2 : W.heap[w.heap.size + 1 + 1]? = some (.cells #[((.slice a C.length cap)), ((.int .i64 l1)), ((.slice (some ⟨gF, 0, none⟩) (2 * C.length + 1) cF)), ((.slice (some ⟨gT, 0, none⟩) (2 * C.length + 1) cT))] 103 (0, 0)) := by rw [hW]; exact st4_block HG2.out
    have HX3 : Hid (W.heap[w.heap.size + 1 + 1 + 1]? = some (.cells #[.slice none 0 0, .int .i64 0, .slice none 0 0, .slice none 0 0] 103 (0, 0))) := (by rw [hW]; exact ((st4_grown w1 (w.heap.size + 1 + 1) _ _ _ _).block _ (by omega) (fun e => by have := Option.some.inj e; omega)).trans HG3.out : W.heap[w.heap.size + 1 + 1 + 1]? = some (.cells #[.slice none 0 0, .int .i64 0, .slice none 0 0, .slice none 0 0] 103 (0, 0)))
    have HX1 : Hid (W.heap[w.heap.size + 1]? = some (.cells #[.slice a' D.length cap', .int .i64 l2] 24 (0, 0))) := (by rw [hW]; exact ((st4_grown w1 (w.heap.size + 1 + 1) _ _ _ _).block _ (by omega) (fun e => by have := Option.some.inj e; omega)).trans HG1.out : W.heap[w.heap.size + 1]? = some (.cells #[.slice a' D.length cap', .int .i64 l2] 24 (0, 0)))
    have HBW : Hid (Below w.heap.size w W) := (by rw [hW]; exact (HB0.out.trans (HB1.out.mono (by omega))).grown (st4_grown w1 (w.heap.size + 1 + 1) _ _ _ _) (by omega) (fun q hq => by have := Option.some.inj hq; omega) : Below w.heap.size w W)
    have hsW : w1.heap.size ≤ W.heap.size := by rw [hW]; exact (st4_grown w1 (w.heap.size + 1 + 1) _ _ _ _).size
    unfold st4 at hW
    rw [← hW]
    clear hW m0 m1 m2 m3 n0 n1 n2 n3
    have HV2 : Hid (W.heap[w.heap.size + 1 + 1]? = some (.cells #[(.slice a C.length cap), (.int .i64 l1), (.slice (some ⟨gF, 0, none⟩) (2 * C.length + 1) cF), (.slice (some ⟨gT, 0, none⟩) (2 * C.length + 1) cT)] 103 (0, 0))) := hv2
    have e0 : W.cell? ⟨w.heap.size + 1, 0, none⟩ = some (.slice a' D.length cap') := block_cell HX1.out rfl
    have e1 : W.cell? ⟨w.heap.size + 1, 1, none⟩ = some (.int .i64 l2) := block_cell HX1.out rfl
    have hle : w.heap.size + 1 < W.heap.size := by omega
    clear hv2
    go_wp2_with (go_at_call 65; refine (of_cells (HD.out.up HBW.out)).mono ?_; rintro e9 w2 ⟨q0, q1, q2, q3, rfl, hb2, hd2⟩; refine Hid.out ?_)
    refine Lib.hid ?_
    have HB2 : Hid (Below W.heap.size W w2) := hb2
    have hs2 := hb2.size
    have HDI2 : Hid (DrawIs W (.slice a' D.length cap') l2 D q0 q1 q2 q3) := hd2
    have g3 := (hb2.block _ (by omega)).trans HX3.out
    have HG3' : Hid (w2.heap[w.heap.size + 1 + 1 + 1]? = some (.cells #[.slice none 0 0, .int .i64 0, .slice none 0 0, .slice none 0 0] 103 (0, 0))) := g3
    have HG2' : Hid (w2.heap[w.heap.size + 1 + 1]? = some (.cells #[(.slice a C.length cap), (.int .i64 l1), (.slice (some ⟨gF, 0, none⟩) (2 * C.length + 1) cF), (.slice (some ⟨gT, 0, none⟩) (2 * C.length + 1) cT)] 103 (0, 0))) := (hb2.block _ (by omega)).trans HV2.out
    have m0 : w2.cell? ⟨w.heap.size + 1 + 1 + 1, 0, none⟩ = some (.slice none 0 0) := block_cell g3 rfl
    have m1 : w2.cell? ⟨w.heap.size + 1 + 1 + 1, 1, none⟩ = some (.int .i64 0) := block_cell g3 rfl
    have m2 : w2.cell? ⟨w.heap.size + 1 + 1 + 1, 2, none⟩ = some (.slice none 0 0) := block_cell g3 rfl
    have m3 : w2.cell? ⟨w.heap.size + 1 + 1 + 1, 3, none⟩ = some (.slice none 0 0) := block_cell g3 rfl
    have n0 : w2.frozen? ⟨w.heap.size + 1 + 1 + 1, 0, none⟩ = false := block_frozen g3
    have n1 : w2.frozen? ⟨w.heap.size + 1 + 1 + 1, 1, none⟩ = false := block_frozen g3
    have n2 : w2.frozen? ⟨w.heap.size + 1 + 1 + 1, 2, none⟩ = false := block_frozen g3
    have n3 : w2.frozen? ⟨w.heap.size + 1 + 1 + 1, 3, none⟩ = false := block_frozen g3
    have hl2 : w.heap.size + 1 + 1 + 1 < w2.heap.size := by omega
    have HBV : Hid (Below w.heap.size w w2) := HBW.out.trans (HB2.out.mono (by omega))
    have HM2 : Hid (mayD D l2 = (true && mayD D l2)) := (by simp : mayD D l2 = (true && mayD D l2))
    clear hb2 hd2 g3 e0 e1 HV2 HBW HX1 HX3

    have HDY : Hid (DrawIs w0 (.slice a C.length cap) l1 C (.slice a C.length cap) (.int .i64 l1) (.slice (some ⟨gF, 0, none⟩) (2 * C.length + 1) cF) (.slice (some ⟨gT, 0, none⟩) (2 * C.length + 1) cT)) := HDI1.out
    cases hm2 : mayD D l2 with
    | false =>
      obtain ⟨rfl, rfl, rfl, rfl⟩ := HDI2.out.no hm2
      go_wp2
      obtain ⟨W, hW⟩ : ∃ W, W = st4 w2 (w.heap.size + 1 + 1 + 1) (.slice none 0 0) (.int .i64 0) (.slice none 0 0) (.slice none 0 0) := ⟨_, rfl⟩
      have hv3 : W.heap[w.heap.size + 1 + 1 + 1]? = some (.cells #[(.slice none 0 0), (.int .i64 0), (.slice none 0 0), (.slice none 0 0)] 103 (0, 0)) := by rw [hW]; exact st4_block HG3'.out
      have hv2 : W.heap[w.heap.size + 1 + 1]? = some (.cells #[(.slice a C.length cap), (.int .i64 l1), (.slice (some ⟨gF, 0, none⟩) (2 * C.length + 1) cF), (.slice (some ⟨gT, 0, none⟩) (2 * C.length + 1) cT)] 103 (0, 0)) := by rw [hW]; exact ((st4_grown w2 (w.heap.size + 1 + 1 + 1) _ _ _ _).block _ (by omega) (fun e => by have := Option.some.inj e; omega)).trans HG2'.out
      have HBW : Hid (Below w.heap.size w W) := (by rw [hW]; exact HBV.out.grown (st4_grown w2 (w.heap.size + 1 + 1 + 1) _ _ _ _) (by omega) (fun q hq => by have := Option.some.inj hq; omega) : Below w.heap.size w W)
      unfold st4 at hW
      rw [← hW]
      clear hW m0 m1 m2 m3 n0 n1 n2 n3
      have HV2 : Hid (W.heap[w.heap.size + 1 + 1]? = some (.cells #[(.slice a C.length cap), (.int .i64 l1), (.slice (some ⟨gF, 0, none⟩) (2 * C.length + 1) cF), (.slice (some ⟨gT, 0, none⟩) (2 * C.length + 1) cT)] 103 (0, 0))) := hv2
      have HV3 : Hid (W.heap[w.heap.size + 1 + 1 + 1]? = some (.cells #[(.slice none 0 0), (.int .i64 0), (.slice none 0 0), (.slice none 0 0)] 103 (0, 0))) := hv3
      have k0 : W.cell? ⟨w.heap.size + 1 + 1, 0, none⟩ = some (.slice a C.length cap) := block_cell hv2 rfl
      have k1 : W.cell? ⟨w.heap.size + 1 + 1, 1, none⟩ = some (.int .i64 l1) := block_cell hv2 rfl
      have k2 : W.cell? ⟨w.heap.size + 1 + 1, 2, none⟩ = some (.slice (some ⟨gF, 0, none⟩) (2 * C.length + 1) cF) := block_cell hv2 rfl
      have k3 : W.cell? ⟨w.heap.size + 1 + 1, 3, none⟩ = some (.slice (some ⟨gT, 0, none⟩) (2 * C.length + 1) cT) := block_cell hv2 rfl
      have j0 : W.cell? ⟨w.heap.size + 1 + 1 + 1, 0, none⟩ = some (.slice none 0 0) := block_cell hv3 rfl
      have j1 : W.cell? ⟨w.heap.size + 1 + 1 + 1, 1, none⟩ = some (.int .i64 0) := block_cell hv3 rfl
      have j2 : W.cell? ⟨w.heap.size + 1 + 1 + 1, 2, none⟩ = some (.slice none 0 0) := block_cell hv3 rfl
      have j3 : W.cell? ⟨w.heap.size + 1 + 1 + 1, 3, none⟩ = some (.slice none 0 0) := block_cell hv3 rfl
      have y0 : W.frozen? ⟨w.heap.size + 1 + 1, 0, none⟩ = false := block_frozen hv2
      have y1 : W.frozen? ⟨w.heap.size + 1 + 1, 1, none⟩ = false := block_frozen hv2
      have y2 : W.frozen? ⟨w.heap.size + 1 + 1, 2, none⟩ = false := block_frozen hv2
      have y3 : W.frozen? ⟨w.heap.size + 1 + 1, 3, none⟩ = false := block_frozen hv2
      have z0 : W.frozen? ⟨w.heap.size + 1 + 1 + 1, 0, none⟩ = false := block_frozen hv3
      have z1 : W.frozen? ⟨w.heap.size + 1 + 1 + 1, 1, none⟩ = false := block_frozen hv3
      have z2 : W.frozen? ⟨w.heap.size + 1 + 1 + 1, 2, none⟩ = false := block_frozen hv3
      have z3 : W.frozen? ⟨w.heap.size + 1 + 1 + 1, 3, none⟩ = false := block_frozen hv3
      have hlw : w.heap.size + 1 + 1 + 1 < W.heap.size := (Array.getElem?_eq_some_iff.1 hv3).1
      have hlv : w.heap.size + 1 + 1 < W.heap.size := by omega
      clear hv2 hv3
      go_region
      all_goals go_wp2
      all_goals
        have hX3 := st4_block (a := (.slice none 0 0)) (b := (.int .i64 0)) (c := (.slice none 0 0)) (d := (.slice none 0 0)) (((st4_grown W (w.heap.size + 1 + 1) (.slice a C.length cap) (.int .i64 l1) (.slice (some ⟨gF, 0, none⟩) (2 * C.length + 1) cF) (.slice (some ⟨gT, 0, none⟩) (2 * C.length + 1) cT)).block (w.heap.size + 1 + 1 + 1) (by omega) (fun e => by have := Option.some.inj e; omega)).trans HV3.out)
        have hX2 := ((st4_grown (st4 W (w.heap.size + 1 + 1) (.slice a C.length cap) (.int .i64 l1) (.slice (some ⟨gF, 0, none⟩) (2 * C.length + 1) cF) (.slice (some ⟨gT, 0, none⟩) (2 * C.length + 1) cT)) (w.heap.size + 1 + 1 + 1) (.slice none 0 0) (.int .i64 0) (.slice none 0 0) (.slice none 0 0)).block (w.heap.size + 1 + 1) (by have h9 := (st4_grown W (w.heap.size + 1 + 1) (.slice a C.length cap) (.int .i64 l1) (.slice (some ⟨gF, 0, none⟩) (2 * C.length + 1) cF) (.slice (some ⟨gT, 0, none⟩) (2 * C.length + 1) cT)).size; omega) (fun e => by have := Option.some.inj e; omega)).trans (st4_block (a := (.slice a C.length cap)) (b := (.int .i64 l1)) (c := (.slice (some ⟨gF, 0, none⟩) (2 * C.length + 1) cF)) (d := (.slice (some ⟨gT, 0, none⟩) (2 * C.length + 1) cT)) HV2.out)
        have hz1 := (st4_grown W (w.heap.size + 1 + 1) (.slice a C.length cap) (.int .i64 l1) (.slice (some ⟨gF, 0, none⟩) (2 * C.length + 1) cF) (.slice (some ⟨gT, 0, none⟩) (2 * C.length + 1) cT)).size
        have hz2 := HBW.out.size
        have HBF : Hid (Below w.heap.size w (st4 (st4 W (w.heap.size + 1 + 1) (.slice a C.length cap) (.int .i64 l1) (.slice (some ⟨gF, 0, none⟩) (2 * C.length + 1) cF) (.slice (some ⟨gT, 0, none⟩) (2 * C.length + 1) cT)) (w.heap.size + 1 + 1 + 1) (.slice none 0 0) (.int .i64 0) (.slice none 0 0) (.slice none 0 0)).drew) := (((HBW.out).grown (st4_grown W (w.heap.size + 1 + 1) (.slice a C.length cap) (.int .i64 l1) (.slice (some ⟨gF, 0, none⟩) (2 * C.length + 1) cF) (.slice (some ⟨gT, 0, none⟩) (2 * C.length + 1) cT)) HBW.out.size (fun q hq => by have := Option.some.inj hq; omega)).grown (st4_grown (st4 W (w.heap.size + 1 + 1) (.slice a C.length cap) (.int .i64 l1) (.slice (some ⟨gF, 0, none⟩) (2 * C.length + 1) cF) (.slice (some ⟨gT, 0, none⟩) (2 * C.length + 1) cT)) (w.heap.size + 1 + 1 + 1) (.slice none 0 0) (.int .i64 0) (.slice none 0 0) (.slice none 0 0)) (by omega) (fun q hq => by have := Option.some.inj hq; omega)).drew
        have hY2 : (st4 (st4 W (w.heap.size + 1 + 1) (.slice a C.length cap) (.int .i64 l1) (.slice (some ⟨gF, 0, none⟩) (2 * C.length + 1) cF) (.slice (some ⟨gT, 0, none⟩) (2 * C.length + 1) cT)) (w.heap.size + 1 + 1 + 1) (.slice none 0 0) (.int .i64 0) (.slice none 0 0) (.slice none 0 0)).drew.heap[w.heap.size + 1 + 1]? = some (.cells #[(.slice a C.length cap), (.int .i64 l1), (.slice (some ⟨gF, 0, none⟩) (2 * C.length + 1) cF), (.slice (some ⟨gT, 0, none⟩) (2 * C.length + 1) cT)] 103 (0, 0)) := drew_block hX2
        have hY3 : (st4 (st4 W (w.heap.size + 1 + 1) (.slice a C.length cap) (.int .i64 l1) (.slice (some ⟨gF, 0, none⟩) (2 * C.length + 1) cF) (.slice (some ⟨gT, 0, none⟩) (2 * C.length + 1) cT)) (w.heap.size + 1 + 1 + 1) (.slice none 0 0) (.int .i64 0) (.slice none 0 0) (.slice none 0 0)).drew.heap[w.heap.size + 1 + 1 + 1]? = some (.cells #[(.slice none 0 0), (.int .i64 0), (.slice none 0 0), (.slice none 0 0)] 103 (0, 0)) := drew_block hX3
        clear hX2 hX3
        unfold st4 at hY2 hY3
        have u0 := block_cell (i := 0) (v := (.slice a C.length cap)) hY2 rfl
        have u1 := block_cell (i := 1) (v := (.int .i64 l1)) hY2 rfl
        have u2 := block_cell (i := 2) (v := (.slice (some ⟨gF, 0, none⟩) (2 * C.length + 1) cF)) hY2 rfl
        have u3 := block_cell (i := 3) (v := (.slice (some ⟨gT, 0, none⟩) (2 * C.length + 1) cT)) hY2 rfl
        have v0 := block_cell (i := 0) (v := (.slice none 0 0)) hY3 rfl
        have v1 := block_cell (i := 1) (v := (.int .i64 0)) hY3 rfl
        have v2 := block_cell (i := 2) (v := (.slice none 0 0)) hY3 rfl
        have v3 := block_cell (i := 3) (v := (.slice none 0 0)) hY3 rfl
        exact bodyPost_ret (v := .tuple #[.agg #[(.slice a C.length cap), (.int .i64 l1), (.slice (some ⟨gF, 0, none⟩) (2 * C.length + 1) cF), (.slice (some ⟨gT, 0, none⟩) (2 * C.length + 1) cT)], .agg #[(.slice none 0 0), (.int .i64 0), (.slice none 0 0), (.slice none 0 0)], .bool false]) (by simp [results, Try.results70, go_sem, u0, u1, u2, u3, v0, v1, v2, v3]) rfl ⟨(.slice a C.length cap), (.int .i64 l1), (.slice (some ⟨gF, 0, none⟩) (2 * C.length + 1) cF), (.slice (some ⟨gT, 0, none⟩) (2 * C.length + 1) cT), (.slice none 0 0), (.int .i64 0), (.slice none 0 0), (.slice none 0 0), (by rw [hm, hm2]; rfl), HBF.out, ⟨_, _, _, _, _, _, _, _, _, _, rfl, rfl, rfl, rfl⟩, ⟨_, _, _, _, _, _, _, _, _, _, rfl, rfl, rfl, rfl⟩, fun _ h => (by rw [hm2] at h; cases h)⟩
    | true =>
      obtain ⟨a9, cap9, gF', cF', gT', cT', ev9, rfl, rfl, rfl, rfl⟩ := HDI2.out.yes hm2
      go_wp2
      obtain ⟨W, hW⟩ : ∃ W, W = st4 w2 (w.heap.size + 1 + 1 + 1) (.slice a' D.length cap') (.int .i64 l2) (.slice (some ⟨gF', 0, none⟩) (2 * D.length + 1) cF') (.slice (some ⟨gT', 0, none⟩) (2 * D.length + 1) cT') := ⟨_, rfl⟩
      have hv3 : W.heap[w.heap.size + 1 + 1 + 1]? = some (.cells #[(.slice a' D.length cap'), (.int .i64 l2), (.slice (some ⟨gF', 0, none⟩) (2 * D.length + 1) cF'), (.slice (some ⟨gT', 0, none⟩) (2 * D.length + 1) cT')] 103 (0, 0)) := by rw [hW]; exact st4_block HG3'.out
      have hv2 : W.heap[w.heap.size + 1 + 1]? = some (.cells #[(.slice a C.length cap), (.int .i64 l1), (.slice (some ⟨gF, 0, none⟩) (2 * C.length + 1) cF), (.slice (some ⟨gT, 0, none⟩) (2 * C.length + 1) cT)] 103 (0, 0)) := by rw [hW]; exact ((st4_grown w2 (w.heap.size + 1 + 1 + 1) _ _ _ _).block _ (by omega) (fun e => by have := Option.some.inj e; omega)).trans HG2'.out
      have HBW : Hid (Below w.heap.size w W) := (by rw [hW]; exact HBV.out.grown (st4_grown w2 (w.heap.size + 1 + 1 + 1) _ _ _ _) (by omega) (fun q hq => by have := Option.some.inj hq; omega) : Below w.heap.size w W)
      unfold st4 at hW
      rw [← hW]
      clear hW m0 m1 m2 m3 n0 n1 n2 n3
      have HV2 : Hid (W.heap[w.heap.size + 1 + 1]? = some (.cells #[(.slice a C.length cap), (.int .i64 l1), (.slice (some ⟨gF, 0, none⟩) (2 * C.length + 1) cF), (.slice (some ⟨gT, 0, none⟩) (2 * C.length + 1) cT)] 103 (0, 0))) := hv2
      have HV3 : Hid (W.heap[w.heap.size + 1 + 1 + 1]? = some (.cells #[(.slice a' D.length cap'), (.int .i64 l2), (.slice (some ⟨gF', 0, none⟩) (2 * D.length + 1) cF'), (.slice (some ⟨gT', 0, none⟩) (2 * D.length + 1) cT')] 103 (0, 0))) := hv3
      have k0 : W.cell? ⟨w.heap.size + 1 + 1, 0, none⟩ = some (.slice a C.length cap) := block_cell hv2 rfl
      have k1 : W.cell? ⟨w.heap.size + 1 + 1, 1, none⟩ = some (.int .i64 l1) := block_cell hv2 rfl
      have k2 : W.cell? ⟨w.heap.size + 1 + 1, 2, none⟩ = some (.slice (some ⟨gF, 0, none⟩) (2 * C.length + 1) cF) := block_cell hv2 rfl
      have k3 : W.cell? ⟨w.heap.size + 1 + 1, 3, none⟩ = some (.slice (some ⟨gT, 0, none⟩) (2 * C.length + 1) cT) := block_cell hv2 rfl
      have j0 : W.cell? ⟨w.heap.size + 1 + 1 + 1, 0, none⟩ = some (.slice a' D.length cap') := block_cell hv3 rfl
      have j1 : W.cell? ⟨w.heap.size + 1 + 1 + 1, 1, none⟩ = some (.int .i64 l2) := block_cell hv3 rfl
      have j2 : W.cell? ⟨w.heap.size + 1 + 1 + 1, 2, none⟩ = some (.slice (some ⟨gF', 0, none⟩) (2 * D.length + 1) cF') := block_cell hv3 rfl
      have j3 : W.cell? ⟨w.heap.size + 1 + 1 + 1, 3, none⟩ = some (.slice (some ⟨gT', 0, none⟩) (2 * D.length + 1) cT') := block_cell hv3 rfl
      have y0 : W.frozen? ⟨w.heap.size + 1 + 1, 0, none⟩ = false := block_frozen hv2
      have y1 : W.frozen? ⟨w.heap.size + 1 + 1, 1, none⟩ = false := block_frozen hv2
      have y2 : W.frozen? ⟨w.heap.size + 1 + 1, 2, none⟩ = false := block_frozen hv2
      have y3 : W.frozen? ⟨w.heap.size + 1 + 1, 3, none⟩ = false := block_frozen hv2
      have z0 : W.frozen? ⟨w.heap.size + 1 + 1 + 1, 0, none⟩ = false := block_frozen hv3
      have z1 : W.frozen? ⟨w.heap.size + 1 + 1 + 1, 1, none⟩ = false := block_frozen hv3
      have z2 : W.frozen? ⟨w.heap.size + 1 + 1 + 1, 2, none⟩ = false := block_frozen hv3
      have z3 : W.frozen? ⟨w.heap.size + 1 + 1 + 1, 3, none⟩ = false := block_frozen hv3
      have hlw : w.heap.size + 1 + 1 + 1 < W.heap.size := (Array.getElem?_eq_some_iff.1 hv3).1
      have hlv : w.heap.size + 1 + 1 < W.heap.size := by omega
      clear hv2 hv3
      go_region
      all_goals go_wp2
      all_goals
        have hX3 := st4_block (a := (.slice a' D.length cap')) (b := (.int .i64 l2)) (c := (.slice (some ⟨gF', 0, none⟩) (2 * D.length + 1) cF')) (d := (.slice (some ⟨gT', 0, none⟩) (2 * D.length + 1) cT')) (((st4_grown W (w.heap.size + 1 + 1) (.slice a C.length cap) (.int .i64 l1) (.slice (some ⟨gF, 0, none⟩) (2 * C.length + 1) cF) (.slice (some ⟨gT, 0, none⟩) (2 * C.length + 1) cT)).block (w.heap.size + 1 + 1 + 1) (by omega) (fun e => by have := Option.some.inj e; omega)).trans HV3.out)
        have hX2 := ((st4_grown (st4 W (w.heap.size + 1 + 1) (.slice a C.length cap) (.int .i64 l1) (.slice (some ⟨gF, 0, none⟩) (2 * C.length + 1) cF) (.slice (some ⟨gT, 0, none⟩) (2 * C.length + 1) cT)) (w.heap.size + 1 + 1 + 1) (.slice a' D.length cap') (.int .i64 l2) (.slice (some ⟨gF', 0, none⟩) (2 * D.length + 1) cF') (.slice (some ⟨gT', 0, none⟩) (2 * D.length + 1) cT')).block (w.heap.size + 1 + 1) (by have h9 := (st4_grown W (w.heap.size + 1 + 1) (.slice a C.length cap) (.int .i64 l1) (.slice (some ⟨gF, 0, none⟩) (2 * C.length + 1) cF) (.slice (some ⟨gT, 0, none⟩) (2 * C.length + 1) cT)).size; omega) (fun e => by have := Option.some.inj e; omega)).trans (st4_block (a := (.slice a C.length cap)) (b := (.int .i64 l1)) (c := (.slice (some ⟨gF, 0, none⟩) (2 * C.length + 1) cF)) (d := (.slice (some ⟨gT, 0, none⟩) (2 * C.length + 1) cT)) HV2.out)
        have hz1 := (st4_grown W (w.heap.size + 1 + 1) (.slice a C.length cap) (.int .i64 l1) (.slice (some ⟨gF, 0, none⟩) (2 * C.length + 1) cF) (.slice (some ⟨gT, 0, none⟩) (2 * C.length + 1) cT)).size
        have hz2 := HBW.out.size
        have HBF : Hid (Below w.heap.size w (st4 (st4 W (w.heap.size + 1 + 1) (.slice a C.length cap) (.int .i64 l1) (.slice (some ⟨gF, 0, none⟩) (2 * C.length + 1) cF) (.slice (some ⟨gT, 0, none⟩) (2 * C.length + 1) cT)) (w.heap.size + 1 + 1 + 1) (.slice a' D.length cap') (.int .i64 l2) (.slice (some ⟨gF', 0, none⟩) (2 * D.length + 1) cF') (.slice (some ⟨gT', 0, none⟩) (2 * D.length + 1) cT')).drew) := (((HBW.out).grown (st4_grown W (w.heap.size + 1 + 1) (.slice a C.length cap) (.int .i64 l1) (.slice (some ⟨gF, 0, none⟩) (2 * C.length + 1) cF) (.slice (some ⟨gT, 0, none⟩) (2 * C.length + 1) cT)) HBW.out.size (fun q hq => by have := Option.some.inj hq; omega)).grown (st4_grown (st4 W (w.heap.size + 1 + 1) (.slice a C.length cap) (.int .i64 l1) (.slice (some ⟨gF, 0, none⟩) (2 * C.length + 1) cF) (.slice (some ⟨gT, 0, none⟩) (2 * C.length + 1) cT)) (w.heap.size + 1 + 1 + 1) (.slice a' D.length cap') (.int .i64 l2) (.slice (some ⟨gF', 0, none⟩) (2 * D.length + 1) cF') (.slice (some ⟨gT', 0, none⟩) (2 * D.length + 1) cT')) (by omega) (fun q hq => by have := Option.some.inj hq; omega)).drew
        have hY2 : (st4 (st4 W (w.heap.size + 1 + 1) (.slice a C.length cap) (.int .i64 l1) (.slice (some ⟨gF, 0, none⟩) (2 * C.length + 1) cF) (.slice (some ⟨gT, 0, none⟩) (2 * C.length + 1) cT)) (w.heap.size + 1 + 1 + 1) (.slice a' D.length cap') (.int .i64 l2) (.slice (some ⟨gF', 0, none⟩) (2 * D.length + 1) cF') (.slice (some ⟨gT', 0, none⟩) (2 * D.length + 1) cT')).drew.heap[w.heap.size + 1 + 1]? = some (.cells #[(.slice a C.length cap), (.int .i64 l1), (.slice (some ⟨gF, 0, none⟩) (2 * C.length + 1) cF), (.slice (some ⟨gT, 0, none⟩) (2 * C.length + 1) cT)] 103 (0, 0)) := drew_block hX2
        have hY3 : (st4 (st4 W (w.heap.size + 1 + 1) (.slice a C.length cap) (.int .i64 l1) (.slice (some ⟨gF, 0, none⟩) (2 * C.length + 1) cF) (.slice (some ⟨gT, 0, none⟩) (2 * C.length + 1) cT)) (w.heap.size + 1 + 1 + 1) (.slice a' D.length cap') (.int .i64 l2) (.slice (some ⟨gF', 0, none⟩) (2 * D.length + 1) cF') (.slice (some ⟨gT', 0, none⟩) (2 * D.length + 1) cT')).drew.heap[w.heap.size + 1 + 1 + 1]? = some (.cells #[(.slice a' D.length cap'), (.int .i64 l2), (.slice (some ⟨gF', 0, none⟩) (2 * D.length + 1) cF'), (.slice (some ⟨gT', 0, none⟩) (2 * D.length + 1) cT')] 103 (0, 0)) := drew_block hX3
        clear hX2 hX3
        unfold st4 at hY2 hY3
        have u0 := block_cell (i := 0) (v := (.slice a C.length cap)) hY2 rfl
        have u1 := block_cell (i := 1) (v := (.int .i64 l1)) hY2 rfl
        have u2 := block_cell (i := 2) (v := (.slice (some ⟨gF, 0, none⟩) (2 * C.length + 1) cF)) hY2 rfl
        have u3 := block_cell (i := 3) (v := (.slice (some ⟨gT, 0, none⟩) (2 * C.length + 1) cT)) hY2 rfl
        have v0 := block_cell (i := 0) (v := (.slice a' D.length cap')) hY3 rfl
        have v1 := block_cell (i := 1) (v := (.int .i64 l2)) hY3 rfl
        have v2 := block_cell (i := 2) (v := (.slice (some ⟨gF', 0, none⟩) (2 * D.length + 1) cF')) hY3 rfl
        have v3 := block_cell (i := 3) (v := (.slice (some ⟨gT', 0, none⟩) (2 * D.length + 1) cT')) hY3 rfl
        exact bodyPost_ret (v := .tuple #[.agg #[(.slice a C.length cap), (.int .i64 l1), (.slice (some ⟨gF, 0, none⟩) (2 * C.length + 1) cF), (.slice (some ⟨gT, 0, none⟩) (2 * C.length + 1) cT)], .agg #[(.slice a' D.length cap'), (.int .i64 l2), (.slice (some ⟨gF', 0, none⟩) (2 * D.length + 1) cF'), (.slice (some ⟨gT', 0, none⟩) (2 * D.length + 1) cT')], .bool true]) (by simp [results, Try.results70, go_sem, u0, u1, u2, u3, v0, v1, v2, v3]) rfl ⟨(.slice a C.length cap), (.int .i64 l1), (.slice (some ⟨gF, 0, none⟩) (2 * C.length + 1) cF), (.slice (some ⟨gT, 0, none⟩) (2 * C.length + 1) cT), (.slice a' D.length cap'), (.int .i64 l2), (.slice (some ⟨gF', 0, none⟩) (2 * D.length + 1) cF'), (.slice (some ⟨gT', 0, none⟩) (2 * D.length + 1) cT'), (by rw [hm, hm2]; rfl), HBF.out, ⟨_, _, _, _, _, _, _, _, _, _, rfl, rfl, rfl, rfl⟩, ⟨_, _, _, _, _, _, _, _, _, _, rfl, rfl, rfl, rfl⟩, fun _ _ => ⟨⟨HDY.out.no, HDY.out.yes⟩, ⟨HDI2.out.no, HDI2.out.yes⟩⟩⟩
end Go.Proofs.Ytbikalghmlihlaa
