/- The walk of tangle.cornersOf. -/
import Derived.Test.YtphhlflcghffbaaTL3
import Derived.Test.YtphhlflcghffbaaG7
namespace Go.Proofs.Ytphhlflcghffbaa
open Go.RowKit Go.Maps

/-- On which side a corner lies (0: north-west, 1: north-east, 2: south-west, 3: south-east). -/
def sdOf (up : Bool) (c : Nat) : Nat := if up = true then (if c = 0 then 0 else if c = 1 then 3 else if c = 2 then 1 else 2) else (if c = 0 then 3 else if c = 1 then 2 else if c = 2 then 0 else 1)
/-- The corner of crossing k. -/
def cor (k : Nat) (up : Bool) (c : Nat) : Nat := 4 * k + 4 + sdOf up c
theorem sdOf_lt (up : Bool) (c : Nat) : sdOf up c < 4 := by
  unfold sdOf
  cases up <;> simp <;> (repeat' split) <;> omega
theorem spV_cor (k : Nat) (up : Bool) (c : Nat) : spV (cor k up c) = .agg #[.int .i64 (k : Nat), .int .i64 (sdOf up c : Nat)] := by
  have h := sdOf_lt up c
  unfold spV cor
  rw [show (4 * k + 4 + sdOf up c) / 4 = k + 1 by omega, show (4 * k + 4 + sdOf up c) % 4 = sdOf up c by omega]
  simp
/-- The first i corners' cells. -/
def cor8 (k : Int) (s0 s1 s2 s3 : Int) (i : Nat) : Array Value := #[.int .i64 (if 0 < i then k else 0), .int .i64 (if 0 < i then s0 else 0), .int .i64 (if 1 < i then k else 0), .int .i64 (if 1 < i then s1 else 0), .int .i64 (if 2 < i then k else 0), .int .i64 (if 2 < i then s2 else 0), .int .i64 (if 3 < i then k else 0), .int .i64 (if 3 < i then s3 else 0)]
/-- What cornersOf answers. -/
def corV (k : Int) (s0 s1 s2 s3 : Int) : Value := .agg #[.int .i64 k, .int .i64 s0, .int .i64 k, .int .i64 s1, .int .i64 k, .int .i64 s2, .int .i64 k, .int .i64 s3]
theorem froz {w : World} {g i : Nat} {cs : Array Value} {t : TypeId} (h : w.heap[g]? = some (.cells cs t (0, 0))) : w.frozen? ⟨g, i, none⟩ = false := by
  unfold World.frozen?
  rw [h]
  simp

set_option maxHeartbeats 4000000 in
set_option maxRecDepth 100000 in
theorem corners_up (k : Nat) (w : World) :
    Calls Try.prog 139 #[.int .i64 (k : Nat), .bool true] w fun r w' => r = .returned (corV k 0 3 1 2) ∧ Below w.heap.size w w' := by
  obtain ⟨Y, hY⟩ : ∃ Y, Y = ((w.alloc (.cells #[.int .i64 0, .int .i64 0, .int .i64 0, .int .i64 0, .int .i64 0, .int .i64 0, .int .i64 0, .int .i64 0] 182)).alloc (.cells #[.int .i64 0, .int .i64 3, .int .i64 1, .int .i64 2] 143)).alloc (.cells #[.int .i64 0, .int .i64 0, .int .i64 0, .int .i64 0, .int .i64 0, .int .i64 0, .int .i64 0, .int .i64 0] 182) := ⟨_, rfl⟩
  have HY : Hid (Y = ((w.alloc (.cells #[.int .i64 0, .int .i64 0, .int .i64 0, .int .i64 0, .int .i64 0, .int .i64 0, .int .i64 0, .int .i64 0] 182)).alloc (.cells #[.int .i64 0, .int .i64 3, .int .i64 1, .int .i64 2] 143)).alloc (.cells #[.int .i64 0, .int .i64 0, .int .i64 0, .int .i64 0, .int .i64 0, .int .i64 0, .int .i64 0, .int .i64 0] 182)) := hY
  have HBY : Hid (Below w.heap.size w Y) := (by rw [hY]; exact (((Below.refl _ _).alloc (Nat.le_refl _) _).alloc (by simp) _).alloc (by simp; omega) _ : Below w.heap.size w Y)
  have hsY : Y.heap.size = w.heap.size + 3 := by rw [hY]; simp
  have HT0 : Hid (Y.heap[w.heap.size]? = some (.cells #[.int .i64 0, .int .i64 0, .int .i64 0, .int .i64 0, .int .i64 0, .int .i64 0, .int .i64 0, .int .i64 0] 182 (0, 0))) := (by
    rw [hY, box_low _ _ (by simp; omega), box_low _ _ (by simp)]; exact box_at _ _ : Y.heap[w.heap.size]? = some (.cells #[.int .i64 0, .int .i64 0, .int .i64 0, .int .i64 0, .int .i64 0, .int .i64 0, .int .i64 0, .int .i64 0] 182 (0, 0)))
  have HT2 : Hid (Y.heap[w.heap.size + 1 + 1]? = some (.cells (cor8 k 0 3 1 2 0) 182 (0, 0))) := (by
    have := box_at ((w.alloc (.cells #[.int .i64 0, .int .i64 0, .int .i64 0, .int .i64 0, .int .i64 0, .int .i64 0, .int .i64 0, .int .i64 0] 182)).alloc (.cells #[.int .i64 0, .int .i64 3, .int .i64 1, .int .i64 2] 143)) (.cells #[.int .i64 0, .int .i64 0, .int .i64 0, .int .i64 0, .int .i64 0, .int .i64 0, .int .i64 0, .int .i64 0] 182)
    rw [hY]
    simpa [cor8] using this : Y.heap[w.heap.size + 1 + 1]? = some (.cells (cor8 k 0 3 1 2 0) 182 (0, 0)))
  have hix0 : ∀ W : World, (Instr.index 143 (.agg #[.int .i64 0, .int .i64 3, .int .i64 1, .int .i64 2]) (.int .i64 0)).run Try.prog W = .ok (.int .i64 0) W := fun W => by kernel_rfl
  have hix1 : ∀ W : World, (Instr.index 143 (.agg #[.int .i64 0, .int .i64 3, .int .i64 1, .int .i64 2]) (.int .i64 1)).run Try.prog W = .ok (.int .i64 3) W := fun W => by kernel_rfl
  have hix2 : ∀ W : World, (Instr.index 143 (.agg #[.int .i64 0, .int .i64 3, .int .i64 1, .int .i64 2]) (.int .i64 2)).run Try.prog W = .ok (.int .i64 1) W := fun W => by kernel_rfl
  have hix3 : ∀ W : World, (Instr.index 143 (.agg #[.int .i64 0, .int .i64 3, .int .i64 1, .int .i64 2]) (.int .i64 3)).run Try.prog W = .ok (.int .i64 2) W := fun W => by kernel_rfl
  clear hY
  go_enter Try.func139, Try.ntmps139
  go_wp2
  rw [← HY.out]
  go_loopw [13] (fun v13 wr => ∃ i : Nat, i ≤ 4 ∧ v13 = .int .i64 (i : Nat) ∧ Hid (wr.heap[w.heap.size + 1 + 1]? = some (.cells (cor8 k 0 3 1 2 i) 182 (0, 0)) ∧ Y.grownBy wr (some (w.heap.size + 1 + 1)))) (fun v13 _ => 4 - (intOf v13).toNat)
  case atStart => exact ⟨0, by omega, rfl, HT2.out, World.grownBy.refl _ _⟩
  case round =>
    rename World => W1
    obtain ⟨i, hi4, rfl, hp⟩ := hrel
    have hb := hp.out.1
    have hsz := (Array.getElem?_eq_some_iff.1 hb).1
    by_cases hil : i < 4
    · have hcase : i = 0 ∨ i = 1 ∨ i = 2 ∨ i = 3 := by omega
      rcases hcase with rfl | rfl | rfl | rfl
      · rw [show ((0 : Nat) : Int) = 0 from rfl]
        have c0 : W1.cell? ⟨w.heap.size + 1 + 1, 0, none⟩ = some (.int .i64 0) := block_cell hb rfl
        have c1 : W1.cell? ⟨w.heap.size + 1 + 1, 1, none⟩ = some (.int .i64 0) := block_cell hb rfl
        have f0 : W1.frozen? ⟨w.heap.size + 1 + 1, 0, none⟩ = false := froz hb
        have f1 : W1.frozen? ⟨w.heap.size + 1 + 1, 1, none⟩ = false := froz hb
        have HNX : Hid (((W1.setCell ⟨w.heap.size + 1 + 1, 0, none⟩ (.int .i64 (k : Nat))).setCell ⟨w.heap.size + 1 + 1, 1, none⟩ (.int .i64 0)).heap[w.heap.size + 1 + 1]? = some (.cells (cor8 k 0 3 1 2 1) 182 (0, 0)) ∧ Y.grownBy ((W1.setCell ⟨w.heap.size + 1 + 1, 0, none⟩ (.int .i64 (k : Nat))).setCell ⟨w.heap.size + 1 + 1, 1, none⟩ (.int .i64 0)) (some (w.heap.size + 1 + 1))) := ⟨by rw [set_block (set_block hb)]; rfl, grown_two hp.out.2 (grown_two (set_grown _ _ _ _) (set_grown _ _ _ _))⟩
        clear hb
        go_wp2
        go_roundw
        case rel => exact ⟨1, by omega, by go_num, HNX.out⟩
        case measure => simp only [intOf]; omega
      · rw [show ((1 : Nat) : Int) = 1 from rfl]
        have c0 : W1.cell? ⟨w.heap.size + 1 + 1, 2, none⟩ = some (.int .i64 0) := block_cell hb rfl
        have c1 : W1.cell? ⟨w.heap.size + 1 + 1, 3, none⟩ = some (.int .i64 0) := block_cell hb rfl
        have f0 : W1.frozen? ⟨w.heap.size + 1 + 1, 2, none⟩ = false := froz hb
        have f1 : W1.frozen? ⟨w.heap.size + 1 + 1, 3, none⟩ = false := froz hb
        have HNX : Hid (((W1.setCell ⟨w.heap.size + 1 + 1, 2, none⟩ (.int .i64 (k : Nat))).setCell ⟨w.heap.size + 1 + 1, 3, none⟩ (.int .i64 3)).heap[w.heap.size + 1 + 1]? = some (.cells (cor8 k 0 3 1 2 2) 182 (0, 0)) ∧ Y.grownBy ((W1.setCell ⟨w.heap.size + 1 + 1, 2, none⟩ (.int .i64 (k : Nat))).setCell ⟨w.heap.size + 1 + 1, 3, none⟩ (.int .i64 3)) (some (w.heap.size + 1 + 1))) := ⟨by rw [set_block (set_block hb)]; rfl, grown_two hp.out.2 (grown_two (set_grown _ _ _ _) (set_grown _ _ _ _))⟩
        clear hb
        go_wp2
        go_roundw
        case rel => exact ⟨2, by omega, by go_num, HNX.out⟩
        case measure => simp only [intOf]; omega
      · rw [show ((2 : Nat) : Int) = 2 from rfl]
        have c0 : W1.cell? ⟨w.heap.size + 1 + 1, 4, none⟩ = some (.int .i64 0) := block_cell hb rfl
        have c1 : W1.cell? ⟨w.heap.size + 1 + 1, 5, none⟩ = some (.int .i64 0) := block_cell hb rfl
        have f0 : W1.frozen? ⟨w.heap.size + 1 + 1, 4, none⟩ = false := froz hb
        have f1 : W1.frozen? ⟨w.heap.size + 1 + 1, 5, none⟩ = false := froz hb
        have HNX : Hid (((W1.setCell ⟨w.heap.size + 1 + 1, 4, none⟩ (.int .i64 (k : Nat))).setCell ⟨w.heap.size + 1 + 1, 5, none⟩ (.int .i64 1)).heap[w.heap.size + 1 + 1]? = some (.cells (cor8 k 0 3 1 2 3) 182 (0, 0)) ∧ Y.grownBy ((W1.setCell ⟨w.heap.size + 1 + 1, 4, none⟩ (.int .i64 (k : Nat))).setCell ⟨w.heap.size + 1 + 1, 5, none⟩ (.int .i64 1)) (some (w.heap.size + 1 + 1))) := ⟨by rw [set_block (set_block hb)]; rfl, grown_two hp.out.2 (grown_two (set_grown _ _ _ _) (set_grown _ _ _ _))⟩
        clear hb
        go_wp2
        go_roundw
        case rel => exact ⟨3, by omega, by go_num, HNX.out⟩
        case measure => simp only [intOf]; omega
      · rw [show ((3 : Nat) : Int) = 3 from rfl]
        have c0 : W1.cell? ⟨w.heap.size + 1 + 1, 6, none⟩ = some (.int .i64 0) := block_cell hb rfl
        have c1 : W1.cell? ⟨w.heap.size + 1 + 1, 7, none⟩ = some (.int .i64 0) := block_cell hb rfl
        have f0 : W1.frozen? ⟨w.heap.size + 1 + 1, 6, none⟩ = false := froz hb
        have f1 : W1.frozen? ⟨w.heap.size + 1 + 1, 7, none⟩ = false := froz hb
        have HNX : Hid (((W1.setCell ⟨w.heap.size + 1 + 1, 6, none⟩ (.int .i64 (k : Nat))).setCell ⟨w.heap.size + 1 + 1, 7, none⟩ (.int .i64 2)).heap[w.heap.size + 1 + 1]? = some (.cells (cor8 k 0 3 1 2 4) 182 (0, 0)) ∧ Y.grownBy ((W1.setCell ⟨w.heap.size + 1 + 1, 6, none⟩ (.int .i64 (k : Nat))).setCell ⟨w.heap.size + 1 + 1, 7, none⟩ (.int .i64 2)) (some (w.heap.size + 1 + 1))) := ⟨by rw [set_block (set_block hb)]; rfl, grown_two hp.out.2 (grown_two (set_grown _ _ _ _) (set_grown _ _ _ _))⟩
        clear hb
        go_wp2
        go_roundw
        case rel => exact ⟨4, by omega, by go_num, HNX.out⟩
        case measure => simp only [intOf]; omega
    · obtain rfl : i = 4 := by omega
      rw [show ((4 : Nat) : Int) = 4 from rfl]
      have hb0 := (hp.out.2.block w.heap.size (by omega) (fun e => by have : w.heap.size = w.heap.size + 1 + 1 := Option.some.inj e; omega)).trans HT0.out
      have d0 : W1.cell? ⟨w.heap.size + 1 + 1, 0, none⟩ = some (.int .i64 (k : Nat)) := block_cell hb rfl
      have g0 : W1.cell? ⟨w.heap.size, 0, none⟩ = some (.int .i64 0) := block_cell hb0 rfl
      have z0 : W1.frozen? ⟨w.heap.size, 0, none⟩ = false := froz hb0
      have d1 : W1.cell? ⟨w.heap.size + 1 + 1, 1, none⟩ = some (.int .i64 0) := block_cell hb rfl
      have g1 : W1.cell? ⟨w.heap.size, 1, none⟩ = some (.int .i64 0) := block_cell hb0 rfl
      have z1 : W1.frozen? ⟨w.heap.size, 1, none⟩ = false := froz hb0
      have d2 : W1.cell? ⟨w.heap.size + 1 + 1, 2, none⟩ = some (.int .i64 (k : Nat)) := block_cell hb rfl
      have g2 : W1.cell? ⟨w.heap.size, 2, none⟩ = some (.int .i64 0) := block_cell hb0 rfl
      have z2 : W1.frozen? ⟨w.heap.size, 2, none⟩ = false := froz hb0
      have d3 : W1.cell? ⟨w.heap.size + 1 + 1, 3, none⟩ = some (.int .i64 3) := block_cell hb rfl
      have g3 : W1.cell? ⟨w.heap.size, 3, none⟩ = some (.int .i64 0) := block_cell hb0 rfl
      have z3 : W1.frozen? ⟨w.heap.size, 3, none⟩ = false := froz hb0
      have d4 : W1.cell? ⟨w.heap.size + 1 + 1, 4, none⟩ = some (.int .i64 (k : Nat)) := block_cell hb rfl
      have g4 : W1.cell? ⟨w.heap.size, 4, none⟩ = some (.int .i64 0) := block_cell hb0 rfl
      have z4 : W1.frozen? ⟨w.heap.size, 4, none⟩ = false := froz hb0
      have d5 : W1.cell? ⟨w.heap.size + 1 + 1, 5, none⟩ = some (.int .i64 1) := block_cell hb rfl
      have g5 : W1.cell? ⟨w.heap.size, 5, none⟩ = some (.int .i64 0) := block_cell hb0 rfl
      have z5 : W1.frozen? ⟨w.heap.size, 5, none⟩ = false := froz hb0
      have d6 : W1.cell? ⟨w.heap.size + 1 + 1, 6, none⟩ = some (.int .i64 (k : Nat)) := block_cell hb rfl
      have g6 : W1.cell? ⟨w.heap.size, 6, none⟩ = some (.int .i64 0) := block_cell hb0 rfl
      have z6 : W1.frozen? ⟨w.heap.size, 6, none⟩ = false := froz hb0
      have d7 : W1.cell? ⟨w.heap.size + 1 + 1, 7, none⟩ = some (.int .i64 2) := block_cell hb rfl
      have g7 : W1.cell? ⟨w.heap.size, 7, none⟩ = some (.int .i64 0) := block_cell hb0 rfl
      have z7 : W1.frozen? ⟨w.heap.size, 7, none⟩ = false := froz hb0
      have hszw : w.heap.size < W1.heap.size := (Array.getElem?_eq_some_iff.1 hb0).1
      obtain ⟨V, hV⟩ : ∃ V, V = ((((((((W1.setCell ⟨w.heap.size, 0, none⟩ (.int .i64 (k : Nat))).setCell ⟨w.heap.size, 1, none⟩ (.int .i64 0)).setCell ⟨w.heap.size, 2, none⟩ (.int .i64 (k : Nat))).setCell ⟨w.heap.size, 3, none⟩ (.int .i64 3)).setCell ⟨w.heap.size, 4, none⟩ (.int .i64 (k : Nat))).setCell ⟨w.heap.size, 5, none⟩ (.int .i64 1)).setCell ⟨w.heap.size, 6, none⟩ (.int .i64 (k : Nat))).setCell ⟨w.heap.size, 7, none⟩ (.int .i64 2)) := ⟨_, rfl⟩
      have HV : Hid (V = ((((((((W1.setCell ⟨w.heap.size, 0, none⟩ (.int .i64 (k : Nat))).setCell ⟨w.heap.size, 1, none⟩ (.int .i64 0)).setCell ⟨w.heap.size, 2, none⟩ (.int .i64 (k : Nat))).setCell ⟨w.heap.size, 3, none⟩ (.int .i64 3)).setCell ⟨w.heap.size, 4, none⟩ (.int .i64 (k : Nat))).setCell ⟨w.heap.size, 5, none⟩ (.int .i64 1)).setCell ⟨w.heap.size, 6, none⟩ (.int .i64 (k : Nat))).setCell ⟨w.heap.size, 7, none⟩ (.int .i64 2))) := hV
      have HVB : Hid (V.heap[w.heap.size]? = some (.cells #[.int .i64 (k : Nat), .int .i64 0, .int .i64 (k : Nat), .int .i64 3, .int .i64 (k : Nat), .int .i64 1, .int .i64 (k : Nat), .int .i64 2] 182 (0, 0))) := (by rw [hV, (set_block (set_block (set_block (set_block (set_block (set_block (set_block (set_block hb0))))))))]; rfl : V.heap[w.heap.size]? = some (.cells #[.int .i64 (k : Nat), .int .i64 0, .int .i64 (k : Nat), .int .i64 3, .int .i64 (k : Nat), .int .i64 1, .int .i64 (k : Nat), .int .i64 2] 182 (0, 0)))
      have HVG : Hid (W1.grownBy V (some w.heap.size)) := (by rw [hV]; exact grown_two (grown_two (grown_two (grown_two (grown_two (grown_two (grown_two (grown_two (World.grownBy.refl _ _) (set_grown _ _ _ _)) (set_grown _ _ _ _)) (set_grown _ _ _ _)) (set_grown _ _ _ _)) (set_grown _ _ _ _)) (set_grown _ _ _ _)) (set_grown _ _ _ _)) (set_grown _ _ _ _) : W1.grownBy V (some w.heap.size))
      have HBW : Hid (Below w.heap.size w V) := (HBY.out.grown hp.out.2 HBY.out.size (fun q hq => by have := Option.some.inj hq; omega)).grown HVG.out (by omega) (fun q hq => by have := Option.some.inj hq; omega)
      clear hb hb0 hV
      go_wp2
      rw [← HV.out]
      have y0 : V.cell? ⟨w.heap.size, 0, none⟩ = some (.int .i64 (k : Nat)) := block_cell HVB.out rfl
      have y1 : V.cell? ⟨w.heap.size, 1, none⟩ = some (.int .i64 0) := block_cell HVB.out rfl
      have y2 : V.cell? ⟨w.heap.size, 2, none⟩ = some (.int .i64 (k : Nat)) := block_cell HVB.out rfl
      have y3 : V.cell? ⟨w.heap.size, 3, none⟩ = some (.int .i64 3) := block_cell HVB.out rfl
      have y4 : V.cell? ⟨w.heap.size, 4, none⟩ = some (.int .i64 (k : Nat)) := block_cell HVB.out rfl
      have y5 : V.cell? ⟨w.heap.size, 5, none⟩ = some (.int .i64 1) := block_cell HVB.out rfl
      have y6 : V.cell? ⟨w.heap.size, 6, none⟩ = some (.int .i64 (k : Nat)) := block_cell HVB.out rfl
      have y7 : V.cell? ⟨w.heap.size, 7, none⟩ = some (.int .i64 2) := block_cell HVB.out rfl
      exact bodyPost_ret (v := corV k 0 3 1 2) (by simp [results, Try.results139, go_sem, corV, y0, y1, y2, y3, y4, y5, y6, y7]) rfl ⟨rfl, HBW.out⟩

set_option maxHeartbeats 4000000 in
set_option maxRecDepth 100000 in
theorem corners_down (k : Nat) (w : World) :
    Calls Try.prog 139 #[.int .i64 (k : Nat), .bool false] w fun r w' => r = .returned (corV k 3 2 0 1) ∧ Below w.heap.size w w' := by
  obtain ⟨Y, hY⟩ : ∃ Y, Y = ((w.alloc (.cells #[.int .i64 0, .int .i64 0, .int .i64 0, .int .i64 0, .int .i64 0, .int .i64 0, .int .i64 0, .int .i64 0] 182)).alloc (.cells #[.int .i64 3, .int .i64 2, .int .i64 0, .int .i64 1] 143)).alloc (.cells #[.int .i64 0, .int .i64 0, .int .i64 0, .int .i64 0, .int .i64 0, .int .i64 0, .int .i64 0, .int .i64 0] 182) := ⟨_, rfl⟩
  have HY : Hid (Y = ((w.alloc (.cells #[.int .i64 0, .int .i64 0, .int .i64 0, .int .i64 0, .int .i64 0, .int .i64 0, .int .i64 0, .int .i64 0] 182)).alloc (.cells #[.int .i64 3, .int .i64 2, .int .i64 0, .int .i64 1] 143)).alloc (.cells #[.int .i64 0, .int .i64 0, .int .i64 0, .int .i64 0, .int .i64 0, .int .i64 0, .int .i64 0, .int .i64 0] 182)) := hY
  have HBY : Hid (Below w.heap.size w Y) := (by rw [hY]; exact (((Below.refl _ _).alloc (Nat.le_refl _) _).alloc (by simp) _).alloc (by simp; omega) _ : Below w.heap.size w Y)
  have hsY : Y.heap.size = w.heap.size + 3 := by rw [hY]; simp
  have HT0 : Hid (Y.heap[w.heap.size]? = some (.cells #[.int .i64 0, .int .i64 0, .int .i64 0, .int .i64 0, .int .i64 0, .int .i64 0, .int .i64 0, .int .i64 0] 182 (0, 0))) := (by
    rw [hY, box_low _ _ (by simp; omega), box_low _ _ (by simp)]; exact box_at _ _ : Y.heap[w.heap.size]? = some (.cells #[.int .i64 0, .int .i64 0, .int .i64 0, .int .i64 0, .int .i64 0, .int .i64 0, .int .i64 0, .int .i64 0] 182 (0, 0)))
  have HT2 : Hid (Y.heap[w.heap.size + 1 + 1]? = some (.cells (cor8 k 3 2 0 1 0) 182 (0, 0))) := (by
    have := box_at ((w.alloc (.cells #[.int .i64 0, .int .i64 0, .int .i64 0, .int .i64 0, .int .i64 0, .int .i64 0, .int .i64 0, .int .i64 0] 182)).alloc (.cells #[.int .i64 3, .int .i64 2, .int .i64 0, .int .i64 1] 143)) (.cells #[.int .i64 0, .int .i64 0, .int .i64 0, .int .i64 0, .int .i64 0, .int .i64 0, .int .i64 0, .int .i64 0] 182)
    rw [hY]
    simpa [cor8] using this : Y.heap[w.heap.size + 1 + 1]? = some (.cells (cor8 k 3 2 0 1 0) 182 (0, 0)))
  have hix0 : ∀ W : World, (Instr.index 143 (.agg #[.int .i64 3, .int .i64 2, .int .i64 0, .int .i64 1]) (.int .i64 0)).run Try.prog W = .ok (.int .i64 3) W := fun W => by kernel_rfl
  have hix1 : ∀ W : World, (Instr.index 143 (.agg #[.int .i64 3, .int .i64 2, .int .i64 0, .int .i64 1]) (.int .i64 1)).run Try.prog W = .ok (.int .i64 2) W := fun W => by kernel_rfl
  have hix2 : ∀ W : World, (Instr.index 143 (.agg #[.int .i64 3, .int .i64 2, .int .i64 0, .int .i64 1]) (.int .i64 2)).run Try.prog W = .ok (.int .i64 0) W := fun W => by kernel_rfl
  have hix3 : ∀ W : World, (Instr.index 143 (.agg #[.int .i64 3, .int .i64 2, .int .i64 0, .int .i64 1]) (.int .i64 3)).run Try.prog W = .ok (.int .i64 1) W := fun W => by kernel_rfl
  clear hY
  go_enter Try.func139, Try.ntmps139
  go_wp2
  rw [← HY.out]
  go_loopw [13] (fun v13 wr => ∃ i : Nat, i ≤ 4 ∧ v13 = .int .i64 (i : Nat) ∧ Hid (wr.heap[w.heap.size + 1 + 1]? = some (.cells (cor8 k 3 2 0 1 i) 182 (0, 0)) ∧ Y.grownBy wr (some (w.heap.size + 1 + 1)))) (fun v13 _ => 4 - (intOf v13).toNat)
  case atStart => exact ⟨0, by omega, rfl, HT2.out, World.grownBy.refl _ _⟩
  case round =>
    rename World => W1
    obtain ⟨i, hi4, rfl, hp⟩ := hrel
    have hb := hp.out.1
    have hsz := (Array.getElem?_eq_some_iff.1 hb).1
    by_cases hil : i < 4
    · have hcase : i = 0 ∨ i = 1 ∨ i = 2 ∨ i = 3 := by omega
      rcases hcase with rfl | rfl | rfl | rfl
      · rw [show ((0 : Nat) : Int) = 0 from rfl]
        have c0 : W1.cell? ⟨w.heap.size + 1 + 1, 0, none⟩ = some (.int .i64 0) := block_cell hb rfl
        have c1 : W1.cell? ⟨w.heap.size + 1 + 1, 1, none⟩ = some (.int .i64 0) := block_cell hb rfl
        have f0 : W1.frozen? ⟨w.heap.size + 1 + 1, 0, none⟩ = false := froz hb
        have f1 : W1.frozen? ⟨w.heap.size + 1 + 1, 1, none⟩ = false := froz hb
        have HNX : Hid (((W1.setCell ⟨w.heap.size + 1 + 1, 0, none⟩ (.int .i64 (k : Nat))).setCell ⟨w.heap.size + 1 + 1, 1, none⟩ (.int .i64 3)).heap[w.heap.size + 1 + 1]? = some (.cells (cor8 k 3 2 0 1 1) 182 (0, 0)) ∧ Y.grownBy ((W1.setCell ⟨w.heap.size + 1 + 1, 0, none⟩ (.int .i64 (k : Nat))).setCell ⟨w.heap.size + 1 + 1, 1, none⟩ (.int .i64 3)) (some (w.heap.size + 1 + 1))) := ⟨by rw [set_block (set_block hb)]; rfl, grown_two hp.out.2 (grown_two (set_grown _ _ _ _) (set_grown _ _ _ _))⟩
        clear hb
        go_wp2
        go_roundw
        case rel => exact ⟨1, by omega, by go_num, HNX.out⟩
        case measure => simp only [intOf]; omega
      · rw [show ((1 : Nat) : Int) = 1 from rfl]
        have c0 : W1.cell? ⟨w.heap.size + 1 + 1, 2, none⟩ = some (.int .i64 0) := block_cell hb rfl
        have c1 : W1.cell? ⟨w.heap.size + 1 + 1, 3, none⟩ = some (.int .i64 0) := block_cell hb rfl
        have f0 : W1.frozen? ⟨w.heap.size + 1 + 1, 2, none⟩ = false := froz hb
        have f1 : W1.frozen? ⟨w.heap.size + 1 + 1, 3, none⟩ = false := froz hb
        have HNX : Hid (((W1.setCell ⟨w.heap.size + 1 + 1, 2, none⟩ (.int .i64 (k : Nat))).setCell ⟨w.heap.size + 1 + 1, 3, none⟩ (.int .i64 2)).heap[w.heap.size + 1 + 1]? = some (.cells (cor8 k 3 2 0 1 2) 182 (0, 0)) ∧ Y.grownBy ((W1.setCell ⟨w.heap.size + 1 + 1, 2, none⟩ (.int .i64 (k : Nat))).setCell ⟨w.heap.size + 1 + 1, 3, none⟩ (.int .i64 2)) (some (w.heap.size + 1 + 1))) := ⟨by rw [set_block (set_block hb)]; rfl, grown_two hp.out.2 (grown_two (set_grown _ _ _ _) (set_grown _ _ _ _))⟩
        clear hb
        go_wp2
        go_roundw
        case rel => exact ⟨2, by omega, by go_num, HNX.out⟩
        case measure => simp only [intOf]; omega
      · rw [show ((2 : Nat) : Int) = 2 from rfl]
        have c0 : W1.cell? ⟨w.heap.size + 1 + 1, 4, none⟩ = some (.int .i64 0) := block_cell hb rfl
        have c1 : W1.cell? ⟨w.heap.size + 1 + 1, 5, none⟩ = some (.int .i64 0) := block_cell hb rfl
        have f0 : W1.frozen? ⟨w.heap.size + 1 + 1, 4, none⟩ = false := froz hb
        have f1 : W1.frozen? ⟨w.heap.size + 1 + 1, 5, none⟩ = false := froz hb
        have HNX : Hid (((W1.setCell ⟨w.heap.size + 1 + 1, 4, none⟩ (.int .i64 (k : Nat))).setCell ⟨w.heap.size + 1 + 1, 5, none⟩ (.int .i64 0)).heap[w.heap.size + 1 + 1]? = some (.cells (cor8 k 3 2 0 1 3) 182 (0, 0)) ∧ Y.grownBy ((W1.setCell ⟨w.heap.size + 1 + 1, 4, none⟩ (.int .i64 (k : Nat))).setCell ⟨w.heap.size + 1 + 1, 5, none⟩ (.int .i64 0)) (some (w.heap.size + 1 + 1))) := ⟨by rw [set_block (set_block hb)]; rfl, grown_two hp.out.2 (grown_two (set_grown _ _ _ _) (set_grown _ _ _ _))⟩
        clear hb
        go_wp2
        go_roundw
        case rel => exact ⟨3, by omega, by go_num, HNX.out⟩
        case measure => simp only [intOf]; omega
      · rw [show ((3 : Nat) : Int) = 3 from rfl]
        have c0 : W1.cell? ⟨w.heap.size + 1 + 1, 6, none⟩ = some (.int .i64 0) := block_cell hb rfl
        have c1 : W1.cell? ⟨w.heap.size + 1 + 1, 7, none⟩ = some (.int .i64 0) := block_cell hb rfl
        have f0 : W1.frozen? ⟨w.heap.size + 1 + 1, 6, none⟩ = false := froz hb
        have f1 : W1.frozen? ⟨w.heap.size + 1 + 1, 7, none⟩ = false := froz hb
        have HNX : Hid (((W1.setCell ⟨w.heap.size + 1 + 1, 6, none⟩ (.int .i64 (k : Nat))).setCell ⟨w.heap.size + 1 + 1, 7, none⟩ (.int .i64 1)).heap[w.heap.size + 1 + 1]? = some (.cells (cor8 k 3 2 0 1 4) 182 (0, 0)) ∧ Y.grownBy ((W1.setCell ⟨w.heap.size + 1 + 1, 6, none⟩ (.int .i64 (k : Nat))).setCell ⟨w.heap.size + 1 + 1, 7, none⟩ (.int .i64 1)) (some (w.heap.size + 1 + 1))) := ⟨by rw [set_block (set_block hb)]; rfl, grown_two hp.out.2 (grown_two (set_grown _ _ _ _) (set_grown _ _ _ _))⟩
        clear hb
        go_wp2
        go_roundw
        case rel => exact ⟨4, by omega, by go_num, HNX.out⟩
        case measure => simp only [intOf]; omega
    · obtain rfl : i = 4 := by omega
      rw [show ((4 : Nat) : Int) = 4 from rfl]
      have hb0 := (hp.out.2.block w.heap.size (by omega) (fun e => by have : w.heap.size = w.heap.size + 1 + 1 := Option.some.inj e; omega)).trans HT0.out
      have d0 : W1.cell? ⟨w.heap.size + 1 + 1, 0, none⟩ = some (.int .i64 (k : Nat)) := block_cell hb rfl
      have g0 : W1.cell? ⟨w.heap.size, 0, none⟩ = some (.int .i64 0) := block_cell hb0 rfl
      have z0 : W1.frozen? ⟨w.heap.size, 0, none⟩ = false := froz hb0
      have d1 : W1.cell? ⟨w.heap.size + 1 + 1, 1, none⟩ = some (.int .i64 3) := block_cell hb rfl
      have g1 : W1.cell? ⟨w.heap.size, 1, none⟩ = some (.int .i64 0) := block_cell hb0 rfl
      have z1 : W1.frozen? ⟨w.heap.size, 1, none⟩ = false := froz hb0
      have d2 : W1.cell? ⟨w.heap.size + 1 + 1, 2, none⟩ = some (.int .i64 (k : Nat)) := block_cell hb rfl
      have g2 : W1.cell? ⟨w.heap.size, 2, none⟩ = some (.int .i64 0) := block_cell hb0 rfl
      have z2 : W1.frozen? ⟨w.heap.size, 2, none⟩ = false := froz hb0
      have d3 : W1.cell? ⟨w.heap.size + 1 + 1, 3, none⟩ = some (.int .i64 2) := block_cell hb rfl
      have g3 : W1.cell? ⟨w.heap.size, 3, none⟩ = some (.int .i64 0) := block_cell hb0 rfl
      have z3 : W1.frozen? ⟨w.heap.size, 3, none⟩ = false := froz hb0
      have d4 : W1.cell? ⟨w.heap.size + 1 + 1, 4, none⟩ = some (.int .i64 (k : Nat)) := block_cell hb rfl
      have g4 : W1.cell? ⟨w.heap.size, 4, none⟩ = some (.int .i64 0) := block_cell hb0 rfl
      have z4 : W1.frozen? ⟨w.heap.size, 4, none⟩ = false := froz hb0
      have d5 : W1.cell? ⟨w.heap.size + 1 + 1, 5, none⟩ = some (.int .i64 0) := block_cell hb rfl
      have g5 : W1.cell? ⟨w.heap.size, 5, none⟩ = some (.int .i64 0) := block_cell hb0 rfl
      have z5 : W1.frozen? ⟨w.heap.size, 5, none⟩ = false := froz hb0
      have d6 : W1.cell? ⟨w.heap.size + 1 + 1, 6, none⟩ = some (.int .i64 (k : Nat)) := block_cell hb rfl
      have g6 : W1.cell? ⟨w.heap.size, 6, none⟩ = some (.int .i64 0) := block_cell hb0 rfl
      have z6 : W1.frozen? ⟨w.heap.size, 6, none⟩ = false := froz hb0
      have d7 : W1.cell? ⟨w.heap.size + 1 + 1, 7, none⟩ = some (.int .i64 1) := block_cell hb rfl
      have g7 : W1.cell? ⟨w.heap.size, 7, none⟩ = some (.int .i64 0) := block_cell hb0 rfl
      have z7 : W1.frozen? ⟨w.heap.size, 7, none⟩ = false := froz hb0
      have hszw : w.heap.size < W1.heap.size := (Array.getElem?_eq_some_iff.1 hb0).1
      obtain ⟨V, hV⟩ : ∃ V, V = ((((((((W1.setCell ⟨w.heap.size, 0, none⟩ (.int .i64 (k : Nat))).setCell ⟨w.heap.size, 1, none⟩ (.int .i64 3)).setCell ⟨w.heap.size, 2, none⟩ (.int .i64 (k : Nat))).setCell ⟨w.heap.size, 3, none⟩ (.int .i64 2)).setCell ⟨w.heap.size, 4, none⟩ (.int .i64 (k : Nat))).setCell ⟨w.heap.size, 5, none⟩ (.int .i64 0)).setCell ⟨w.heap.size, 6, none⟩ (.int .i64 (k : Nat))).setCell ⟨w.heap.size, 7, none⟩ (.int .i64 1)) := ⟨_, rfl⟩
      have HV : Hid (V = ((((((((W1.setCell ⟨w.heap.size, 0, none⟩ (.int .i64 (k : Nat))).setCell ⟨w.heap.size, 1, none⟩ (.int .i64 3)).setCell ⟨w.heap.size, 2, none⟩ (.int .i64 (k : Nat))).setCell ⟨w.heap.size, 3, none⟩ (.int .i64 2)).setCell ⟨w.heap.size, 4, none⟩ (.int .i64 (k : Nat))).setCell ⟨w.heap.size, 5, none⟩ (.int .i64 0)).setCell ⟨w.heap.size, 6, none⟩ (.int .i64 (k : Nat))).setCell ⟨w.heap.size, 7, none⟩ (.int .i64 1))) := hV
      have HVB : Hid (V.heap[w.heap.size]? = some (.cells #[.int .i64 (k : Nat), .int .i64 3, .int .i64 (k : Nat), .int .i64 2, .int .i64 (k : Nat), .int .i64 0, .int .i64 (k : Nat), .int .i64 1] 182 (0, 0))) := (by rw [hV, (set_block (set_block (set_block (set_block (set_block (set_block (set_block (set_block hb0))))))))]; rfl : V.heap[w.heap.size]? = some (.cells #[.int .i64 (k : Nat), .int .i64 3, .int .i64 (k : Nat), .int .i64 2, .int .i64 (k : Nat), .int .i64 0, .int .i64 (k : Nat), .int .i64 1] 182 (0, 0)))
      have HVG : Hid (W1.grownBy V (some w.heap.size)) := (by rw [hV]; exact grown_two (grown_two (grown_two (grown_two (grown_two (grown_two (grown_two (grown_two (World.grownBy.refl _ _) (set_grown _ _ _ _)) (set_grown _ _ _ _)) (set_grown _ _ _ _)) (set_grown _ _ _ _)) (set_grown _ _ _ _)) (set_grown _ _ _ _)) (set_grown _ _ _ _)) (set_grown _ _ _ _) : W1.grownBy V (some w.heap.size))
      have HBW : Hid (Below w.heap.size w V) := (HBY.out.grown hp.out.2 HBY.out.size (fun q hq => by have := Option.some.inj hq; omega)).grown HVG.out (by omega) (fun q hq => by have := Option.some.inj hq; omega)
      clear hb hb0 hV
      go_wp2
      rw [← HV.out]
      have y0 : V.cell? ⟨w.heap.size, 0, none⟩ = some (.int .i64 (k : Nat)) := block_cell HVB.out rfl
      have y1 : V.cell? ⟨w.heap.size, 1, none⟩ = some (.int .i64 3) := block_cell HVB.out rfl
      have y2 : V.cell? ⟨w.heap.size, 2, none⟩ = some (.int .i64 (k : Nat)) := block_cell HVB.out rfl
      have y3 : V.cell? ⟨w.heap.size, 3, none⟩ = some (.int .i64 2) := block_cell HVB.out rfl
      have y4 : V.cell? ⟨w.heap.size, 4, none⟩ = some (.int .i64 (k : Nat)) := block_cell HVB.out rfl
      have y5 : V.cell? ⟨w.heap.size, 5, none⟩ = some (.int .i64 0) := block_cell HVB.out rfl
      have y6 : V.cell? ⟨w.heap.size, 6, none⟩ = some (.int .i64 (k : Nat)) := block_cell HVB.out rfl
      have y7 : V.cell? ⟨w.heap.size, 7, none⟩ = some (.int .i64 1) := block_cell HVB.out rfl
      exact bodyPost_ret (v := corV k 3 2 0 1) (by simp [results, Try.results139, go_sem, corV, y0, y1, y2, y3, y4, y5, y6, y7]) rfl ⟨rfl, HBW.out⟩
end Go.Proofs.Ytphhlflcghffbaa
