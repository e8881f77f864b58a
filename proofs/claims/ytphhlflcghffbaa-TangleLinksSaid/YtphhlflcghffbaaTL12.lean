/- The walk of tangle.passed.told. -/
import Derived.Test.YtphhlflcghffbaaTL11
import Derived.Test.YtphhlflcghffbaaK1P
namespace Go.Proofs.Ytphhlflcghffbaa
open Go.RowKit Go.Maps

set_option maxHeartbeats 8000000 in
set_option maxRecDepth 100000 in
theorem told_any (a0 a1 a2 a3 : Int) (be ab : Nat) (w : World) (hbe : be < 4) (hab : ab < 4) :
    Calls Try.prog 142 #[.agg #[.int .i64 a0, .int .i64 a1, .int .i64 a2, .int .i64 a3, .int .i64 (be : Nat), .int .i64 (ab : Nat)]] w fun e w' => ∃ x : Cr, x = turn ⟨a0, a1, a2, a3, decide ((ab + 1) % 4 = be)⟩ be ∧ e = .returned (.agg #[.int .i64 x.a, .int .i64 x.b, .int .i64 x.c, .int .i64 x.d, .bool x.plus]) ∧ Below w.heap.size w w' := by
  obtain ⟨Y, hY⟩ : ∃ Y, Y = ((w.alloc (.cells #[.int .i64 a0, .int .i64 a1, .int .i64 a2, .int .i64 a3, .int .i64 (be : Nat), .int .i64 (ab : Nat)] 190)).alloc (.cells #[.int .i64 0, .int .i64 0, .int .i64 0, .int .i64 0, .bool false] 105)).alloc (.cells #[.int .i64 a0, .int .i64 a1, .int .i64 a2, .int .i64 a3, .bool false] 105) := ⟨_, rfl⟩
  have HY : Hid (Y = ((w.alloc (.cells #[.int .i64 a0, .int .i64 a1, .int .i64 a2, .int .i64 a3, .int .i64 (be : Nat), .int .i64 (ab : Nat)] 190)).alloc (.cells #[.int .i64 0, .int .i64 0, .int .i64 0, .int .i64 0, .bool false] 105)).alloc (.cells #[.int .i64 a0, .int .i64 a1, .int .i64 a2, .int .i64 a3, .bool false] 105)) := hY
  have hsY : Y.heap.size = w.heap.size + 3 := by rw [hY]; simp
  have HBY : Hid (Below w.heap.size w Y) := (by rw [hY]; exact (((Below.refl _ _).alloc (Nat.le_refl _) _).alloc (by simp) _).alloc (by simp; omega) _ : Below w.heap.size w Y)
  have t0 : Y.heap[w.heap.size]? = some (.cells #[.int .i64 a0, .int .i64 a1, .int .i64 a2, .int .i64 a3, .int .i64 (be : Nat), .int .i64 (ab : Nat)] 190 (0, 0)) := by
    rw [hY, box_low _ _ (by simp; omega), box_low _ _ (by simp)]; exact box_at _ _
  have t1 : Y.heap[w.heap.size + 1]? = some (.cells #[.int .i64 0, .int .i64 0, .int .i64 0, .int .i64 0, .bool false] 105 (0, 0)) := by
    rw [hY, box_low _ _ (by simp)]
    have := box_at (w.alloc (.cells #[.int .i64 a0, .int .i64 a1, .int .i64 a2, .int .i64 a3, .int .i64 (be : Nat), .int .i64 (ab : Nat)] 190)) (.cells #[.int .i64 0, .int .i64 0, .int .i64 0, .int .i64 0, .bool false] 105)
    simpa using this
  have t2 : Y.heap[w.heap.size + 1 + 1]? = some (.cells #[.int .i64 a0, .int .i64 a1, .int .i64 a2, .int .i64 a3, .bool false] 105 (0, 0)) := by
    have := box_at ((w.alloc (.cells #[.int .i64 a0, .int .i64 a1, .int .i64 a2, .int .i64 a3, .int .i64 (be : Nat), .int .i64 (ab : Nat)] 190)).alloc (.cells #[.int .i64 0, .int .i64 0, .int .i64 0, .int .i64 0, .bool false] 105)) (.cells #[.int .i64 a0, .int .i64 a1, .int .i64 a2, .int .i64 a3, .bool false] 105)
    rw [hY]
    simpa using this
  have p4 : Y.cell? ⟨w.heap.size, 4, none⟩ = some (.int .i64 (be : Nat)) := block_cell t0 rfl
  have p5 : Y.cell? ⟨w.heap.size, 5, none⟩ = some (.int .i64 (ab : Nat)) := block_cell t0 rfl
  have q4 : Y.cell? ⟨w.heap.size + 1 + 1, 4, none⟩ = some (.bool false) := block_cell t2 rfl
  have z4 : Y.frozen? ⟨w.heap.size + 1 + 1, 4, none⟩ = false := froz t2
  have er : ((ab : Int) + 1).tmod 4 = (((ab + 1) % 4 : Nat) : Int) := rfl
  obtain ⟨r, hr⟩ : ∃ r, (ab + 1) % 4 = r := ⟨_, rfl⟩
  rw [hr] at er ⊢
  have hr4 : r < 4 := by omega
  have HPL : Hid (((r : Int) == (be : Int)) = decide (r = be)) := (by
    by_cases e : r = be
    · rw [decide_eq_true e, e]; simp
    · rw [decide_eq_false e]; simp; omega : ((r : Int) == (be : Int)) = decide (r = be))
  obtain ⟨V, hV⟩ : ∃ V, V = Y.setCell ⟨w.heap.size + 1 + 1, 4, none⟩ (.bool ((r : Int) == (be : Int))) := ⟨_, rfl⟩
  have HV : Hid (V = Y.setCell ⟨w.heap.size + 1 + 1, 4, none⟩ (.bool ((r : Int) == (be : Int)))) := hV
  have hgV : Y.grownBy V (some (w.heap.size + 1 + 1)) := by rw [hV]; exact set_grown _ _ _ _
  have v2 : V.heap[w.heap.size + 1 + 1]? = some (.cells #[.int .i64 a0, .int .i64 a1, .int .i64 a2, .int .i64 a3, .bool (decide (r = be))] 105 (0, 0)) := by rw [hV, set_block t2, HPL.out]; rfl
  have v0 : V.heap[w.heap.size]? = some (.cells #[.int .i64 a0, .int .i64 a1, .int .i64 a2, .int .i64 a3, .int .i64 (be : Nat), .int .i64 (ab : Nat)] 190 (0, 0)) := (hgV.block _ (by omega) (fun e => by have : w.heap.size = w.heap.size + 1 + 1 := Option.some.inj e; omega)).trans t0
  have HV1 : Hid (V.heap[w.heap.size + 1]? = some (.cells #[.int .i64 0, .int .i64 0, .int .i64 0, .int .i64 0, .bool false] 105 (0, 0))) := (hgV.block _ (by omega) (fun e => by have : w.heap.size + 1 = w.heap.size + 1 + 1 := Option.some.inj e; omega)).trans t1
  have HBV : Hid (Below w.heap.size w V) := HBY.out.grown hgV (by omega) (fun q hq => by have := Option.some.inj hq; omega)
  generalize decide (r = be) = pl at v2 ⊢
  have c0 : V.cell? ⟨w.heap.size + 1 + 1, 0, none⟩ = some (.int .i64 a0) := block_cell v2 rfl
  have c1 : V.cell? ⟨w.heap.size + 1 + 1, 1, none⟩ = some (.int .i64 a1) := block_cell v2 rfl
  have c2 : V.cell? ⟨w.heap.size + 1 + 1, 2, none⟩ = some (.int .i64 a2) := block_cell v2 rfl
  have c3 : V.cell? ⟨w.heap.size + 1 + 1, 3, none⟩ = some (.int .i64 a3) := block_cell v2 rfl
  have c4 : V.cell? ⟨w.heap.size + 1 + 1, 4, none⟩ = some (.bool pl) := block_cell v2 rfl
  have d4 : V.cell? ⟨w.heap.size, 4, none⟩ = some (.int .i64 (be : Nat)) := block_cell v0 rfl
  have hsV : V.heap.size = w.heap.size + 3 := by rw [hV]; simpa using hsY
  have HTN : Hid (∀ W, Calls Try.prog 109 #[.agg #[.int .i64 a0, .int .i64 a1, .int .i64 a2, .int .i64 a3, .bool pl], .int .i64 (be : Nat)] W fun e w' => e = .returned (.agg #[.int .i64 (turn ⟨a0, a1, a2, a3, pl⟩ be).a, .int .i64 (turn ⟨a0, a1, a2, a3, pl⟩ be).b, .int .i64 (turn ⟨a0, a1, a2, a3, pl⟩ be).c, .int .i64 (turn ⟨a0, a1, a2, a3, pl⟩ be).d, .bool pl]) ∧ Below W.heap.size W w') := fun W => turned_any ⟨a0, a1, a2, a3, pl⟩ be W hbe
  have HTP : Hid ((turn ⟨a0, a1, a2, a3, pl⟩ be).plus = pl) := (rfl : (turn ⟨a0, a1, a2, a3, pl⟩ be).plus = pl)
  generalize turn ⟨a0, a1, a2, a3, pl⟩ be = x at HTN HTP ⊢
  clear hY hV hr t0 t1 t2 v2 v0 hgV
  go_enter Try.func142, Try.ntmps142
  go_upto_region 2 with (fail)
  rw [← HY.out]
  go_upto_region 3 with (fail)
  rw [← HV.out]
  clear p4 p5 q4 z4 hsY
  go_wp2_with (go_at_call 109; refine (HTN.out _).mono ?_; rintro e9 w5 ⟨rfl, hb5⟩; refine Hid.out ?_)
  refine Lib.hid ?_
  have g1 := (hb5.block _ (by omega)).trans HV1.out
  have HB5 : Hid (Below w.heap.size w w5) := HBV.out.trans (hb5.mono HBV.out.size)
  have hs5 := hb5.size
  clear hb5 c0 c1 c2 c3 c4 d4
  have u0 : w5.cell? ⟨w.heap.size + 1, 0, none⟩ = some (.int .i64 0) := block_cell g1 rfl
  have u1 : w5.cell? ⟨w.heap.size + 1, 1, none⟩ = some (.int .i64 0) := block_cell g1 rfl
  have u2 : w5.cell? ⟨w.heap.size + 1, 2, none⟩ = some (.int .i64 0) := block_cell g1 rfl
  have u3 : w5.cell? ⟨w.heap.size + 1, 3, none⟩ = some (.int .i64 0) := block_cell g1 rfl
  have u4 : w5.cell? ⟨w.heap.size + 1, 4, none⟩ = some (.bool false) := block_cell g1 rfl
  have y0 : w5.frozen? ⟨w.heap.size + 1, 0, none⟩ = false := froz g1
  have y1 : w5.frozen? ⟨w.heap.size + 1, 1, none⟩ = false := froz g1
  have y2 : w5.frozen? ⟨w.heap.size + 1, 2, none⟩ = false := froz g1
  have y3 : w5.frozen? ⟨w.heap.size + 1, 3, none⟩ = false := froz g1
  have y4 : w5.frozen? ⟨w.heap.size + 1, 4, none⟩ = false := froz g1
  have HG1 : Hid (w5.heap[w.heap.size + 1]? = some (.cells #[.int .i64 0, .int .i64 0, .int .i64 0, .int .i64 0, .bool false] 105 (0, 0))) := g1
  clear g1
  go_wp2
  obtain ⟨Z, hZ⟩ : ∃ Z, Z = ((((w5.setCell ⟨w.heap.size + 1, 0, none⟩ (.int .i64 x.a)).setCell ⟨w.heap.size + 1, 1, none⟩ (.int .i64 x.b)).setCell ⟨w.heap.size + 1, 2, none⟩ (.int .i64 x.c)).setCell ⟨w.heap.size + 1, 3, none⟩ (.int .i64 x.d)).setCell ⟨w.heap.size + 1, 4, none⟩ (.bool pl) := ⟨_, rfl⟩
  have hZB : Z.heap[w.heap.size + 1]? = some (.cells #[.int .i64 x.a, .int .i64 x.b, .int .i64 x.c, .int .i64 x.d, .bool pl] 105 (0, 0)) := by rw [hZ, set_block (set_block (set_block (set_block (set_block HG1.out))))]; rfl
  have hgZ : w5.grownBy Z (some (w.heap.size + 1)) := by rw [hZ]; exact grown_two (grown_two (grown_two (grown_two (set_grown _ _ _ _) (set_grown _ _ _ _)) (set_grown _ _ _ _)) (set_grown _ _ _ _)) (set_grown _ _ _ _)
  rw [← hZ]
  have x0 : Z.cell? ⟨w.heap.size + 1, 0, none⟩ = some (.int .i64 x.a) := block_cell hZB rfl
  have x1 : Z.cell? ⟨w.heap.size + 1, 1, none⟩ = some (.int .i64 x.b) := block_cell hZB rfl
  have x2 : Z.cell? ⟨w.heap.size + 1, 2, none⟩ = some (.int .i64 x.c) := block_cell hZB rfl
  have x3 : Z.cell? ⟨w.heap.size + 1, 3, none⟩ = some (.int .i64 x.d) := block_cell hZB rfl
  have x4 : Z.cell? ⟨w.heap.size + 1, 4, none⟩ = some (.bool pl) := block_cell hZB rfl
  refine bodyPost_ret (v := .agg #[.int .i64 x.a, .int .i64 x.b, .int .i64 x.c, .int .i64 x.d, .bool pl]) (by simp [results, Try.results142, go_sem, x0, x1, x2, x3, x4]) rfl ⟨x, rfl, by rw [HTP.out], HB5.out.grown hgZ (by omega) (fun q hq => by have := Option.some.inj hq; omega)⟩
end Go.Proofs.Ytphhlflcghffbaa
