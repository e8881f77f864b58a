/- Several texts of the proof, one behind the other. -/
import Derived.Test.YtnlcknlodjjdbaaDoorTL11P
import Derived.Test.YtnlcknlodjjdbaaDoorF1P
/- The walk of tangle.passed.told. -/
namespace Go.Proofs.YtnlcknlodjjdbaaDoor
open Go.RowKit Go.Maps

set_option maxHeartbeats 8000000 in
set_option maxRecDepth 100000 in
theorem told_any (a0 a1 a2 a3 : Int) (be ab : Nat) (w : World) (hbe : be < 4) (hab : ab < 4) :
    Calls Tryd.prog 30 #[.agg #[.int .i64 a0, .int .i64 a1, .int .i64 a2, .int .i64 a3, .int .i64 (be : Nat), .int .i64 (ab : Nat)]] w fun e w' => ∃ x : Cr, x = turn ⟨a0, a1, a2, a3, decide ((ab + 1) % 4 = be)⟩ be ∧ e = .returned (.agg #[.int .i64 x.a, .int .i64 x.b, .int .i64 x.c, .int .i64 x.d, .bool x.plus]) ∧ Below w.heap.size w w' := by
  obtain ⟨Y, hY⟩ : ∃ Y, Y = ((w.alloc (.cells #[.int .i64 a0, .int .i64 a1, .int .i64 a2, .int .i64 a3, .int .i64 (be : Nat), .int .i64 (ab : Nat)] 77)).alloc (.cells #[.int .i64 0, .int .i64 0, .int .i64 0, .int .i64 0, .bool false] 79)).alloc (.cells #[.int .i64 a0, .int .i64 a1, .int .i64 a2, .int .i64 a3, .bool false] 79) := ⟨_, rfl⟩
  have HY : Hid (Y = ((w.alloc (.cells #[.int .i64 a0, .int .i64 a1, .int .i64 a2, .int .i64 a3, .int .i64 (be : Nat), .int .i64 (ab : Nat)] 77)).alloc (.cells #[.int .i64 0, .int .i64 0, .int .i64 0, .int .i64 0, .bool false] 79)).alloc (.cells #[.int .i64 a0, .int .i64 a1, .int .i64 a2, .int .i64 a3, .bool false] 79)) := hY
  have hsY : Y.heap.size = w.heap.size + 3 := by rw [hY]; simp
  have HBY : Hid (Below w.heap.size w Y) := (by rw [hY]; exact (((Below.refl _ _).alloc (Nat.le_refl _) _).alloc (by simp) _).alloc (by simp; omega) _ : Below w.heap.size w Y)
  have t0 : Y.heap[w.heap.size]? = some (.cells #[.int .i64 a0, .int .i64 a1, .int .i64 a2, .int .i64 a3, .int .i64 (be : Nat), .int .i64 (ab : Nat)] 77 (0, 0)) := by
    rw [hY, box_low _ _ (by simp; omega), box_low _ _ (by simp)]; exact box_at _ _
  have t1 : Y.heap[w.heap.size + 1]? = some (.cells #[.int .i64 0, .int .i64 0, .int .i64 0, .int .i64 0, .bool false] 79 (0, 0)) := by
    rw [hY, box_low _ _ (by simp)]
    have := box_at (w.alloc (.cells #[.int .i64 a0, .int .i64 a1, .int .i64 a2, .int .i64 a3, .int .i64 (be : Nat), .int .i64 (ab : Nat)] 77)) (.cells #[.int .i64 0, .int .i64 0, .int .i64 0, .int .i64 0, .bool false] 79)
    simpa using this
  have t2 : Y.heap[w.heap.size + 1 + 1]? = some (.cells #[.int .i64 a0, .int .i64 a1, .int .i64 a2, .int .i64 a3, .bool false] 79 (0, 0)) := by
    have := box_at ((w.alloc (.cells #[.int .i64 a0, .int .i64 a1, .int .i64 a2, .int .i64 a3, .int .i64 (be : Nat), .int .i64 (ab : Nat)] 77)).alloc (.cells #[.int .i64 0, .int .i64 0, .int .i64 0, .int .i64 0, .bool false] 79)) (.cells #[.int .i64 a0, .int .i64 a1, .int .i64 a2, .int .i64 a3, .bool false] 79)
    rw [hY]
    simpa using this
  have p4 : Y.cell? ⟨w.heap.size, 4, none⟩ = some (.int .i64 (be : Nat)) := block_cell t0 rfl
  have p5 : Y.cell? ⟨w.heap.size, 5, none⟩ = some (.int .i64 (ab : Nat)) := block_cell t0 rfl
  have q4 : Y.cell? ⟨w.heap.size + 1 + 1, 4, none⟩ = some (.bool false) := block_cell t2 rfl
  have z4 : Y.frozen? ⟨w.heap.size + 1 + 1, 4, none⟩ = false := froz t2
  have er : ((ab : Int) + 1).tmod 4 = (((ab + 1) % 4 : Nat) : Int) := rfl
  obtain ⟨r, hr⟩ : ∃ r, (ab + 1) % 4 = r := ⟨_, rfl⟩
  rw [hr] at er ⊢
  have hr4 : r < 4 := by omega
  have HPL : Hid (((r : Int) == (be : Int)) = decide (r = be)) := (by
    by_cases e : r = be
    · rw [decide_eq_true e, e]; simp
    · rw [decide_eq_false e]; simp; omega : ((r : Int) == (be : Int)) = decide (r = be))
  obtain ⟨V, hV⟩ : ∃ V, V = Y.setCell ⟨w.heap.size + 1 + 1, 4, none⟩ (.bool ((r : Int) == (be : Int))) := ⟨_, rfl⟩
  have HV : Hid (V = Y.setCell ⟨w.heap.size + 1 + 1, 4, none⟩ (.bool ((r : Int) == (be : Int)))) := hV
  have hgV : Y.grownBy V (some (w.heap.size + 1 + 1)) := by rw [hV]; exact set_grown _ _ _ _
  have v2 : V.heap[w.heap.size + 1 + 1]? = some (.cells #[.int .i64 a0, .int .i64 a1, .int .i64 a2, .int .i64 a3, .bool (decide (r = be))] 79 (0, 0)) := by rw [hV, set_block t2, HPL.out]; rfl
  have v0 : V.heap[w.heap.size]? = some (.cells #[.int .i64 a0, .int .i64 a1, .int .i64 a2, .int .i64 a3, .int .i64 (be : Nat), .int .i64 (ab : Nat)] 77 (0, 0)) := (hgV.block _ (by omega) (fun e => by have : w.heap.size = w.heap.size + 1 + 1 := Option.some.inj e; omega)).trans t0
  have HV1 : Hid (V.heap[w.heap.size + 1]? = some (.cells #[.int .i64 0, .int .i64 0, .int .i64 0, .int .i64 0, .bool false] 79 (0, 0))) := (hgV.block _ (by omega) (fun e => by have : w.heap.size + 1 = w.heap.size + 1 + 1 := Option.some.inj e; omega)).trans t1
  have HBV : Hid (Below w.heap.size w V) := HBY.out.grown hgV (by omega) (fun q hq => by have := Option.some.inj hq; omega)
  generalize decide (r = be) = pl at v2 ⊢
  have c0 : V.cell? ⟨w.heap.size + 1 + 1, 0, none⟩ = some (.int .i64 a0) := block_cell v2 rfl
  have c1 : V.cell? ⟨w.heap.size + 1 + 1, 1, none⟩ = some (.int .i64 a1) := block_cell v2 rfl
  have c2 : V.cell? ⟨w.heap.size + 1 + 1, 2, none⟩ = some (.int .i64 a2) := block_cell v2 rfl
  have c3 : V.cell? ⟨w.heap.size + 1 + 1, 3, none⟩ = some (.int .i64 a3) := block_cell v2 rfl
  have c4 : V.cell? ⟨w.heap.size + 1 + 1, 4, none⟩ = some (.bool pl) := block_cell v2 rfl
  have d4 : V.cell? ⟨w.heap.size, 4, none⟩ = some (.int .i64 (be : Nat)) := block_cell v0 rfl
  have hsV : V.heap.size = w.heap.size + 3 := by rw [hV]; simpa using hsY
  have HTN : Hid (∀ W, Calls Tryd.prog 44 #[.agg #[.int .i64 a0, .int .i64 a1, .int .i64 a2, .int .i64 a3, .bool pl], .int .i64 (be : Nat)] W fun e w' => e = .returned (.agg #[.int .i64 (turn ⟨a0, a1, a2, a3, pl⟩ be).a, .int .i64 (turn ⟨a0, a1, a2, a3, pl⟩ be).b, .int .i64 (turn ⟨a0, a1, a2, a3, pl⟩ be).c, .int .i64 (turn ⟨a0, a1, a2, a3, pl⟩ be).d, .bool pl]) ∧ Below W.heap.size W w') := fun W => turned_any ⟨a0, a1, a2, a3, pl⟩ be W hbe
  have HTP : Hid ((turn ⟨a0, a1, a2, a3, pl⟩ be).plus = pl) := (rfl : (turn ⟨a0, a1, a2, a3, pl⟩ be).plus = pl)
  generalize turn ⟨a0, a1, a2, a3, pl⟩ be = x at HTN HTP ⊢
  clear hY hV hr t0 t1 t2 v2 v0 hgV
  go_enter Tryd.func30, Tryd.ntmps30
  go_upto_region 2 with (fail)
  rw [← HY.out]
  go_upto_region 3 with (fail)
  rw [← HV.out]
  clear p4 p5 q4 z4 hsY
  go_wp2_with (go_at_call 44; refine (HTN.out _).mono ?_; rintro e9 w5 ⟨rfl, hb5⟩; refine Hid.out ?_)
  refine Lib.hid ?_
  have g1 := (hb5.block _ (by omega)).trans HV1.out
  have HB5 : Hid (Below w.heap.size w w5) := HBV.out.trans (hb5.mono HBV.out.size)
  have hs5 := hb5.size
  clear hb5 c0 c1 c2 c3 c4 d4
  have u0 : w5.cell? ⟨w.heap.size + 1, 0, none⟩ = some (.int .i64 0) := block_cell g1 rfl
  have u1 : w5.cell? ⟨w.heap.size + 1, 1, none⟩ = some (.int .i64 0) := block_cell g1 rfl
  have u2 : w5.cell? ⟨w.heap.size + 1, 2, none⟩ = some (.int .i64 0) := block_cell g1 rfl
  have u3 : w5.cell? ⟨w.heap.size + 1, 3, none⟩ = some (.int .i64 0) := block_cell g1 rfl
  have u4 : w5.cell? ⟨w.heap.size + 1, 4, none⟩ = some (.bool false) := block_cell g1 rfl
  have y0 : w5.frozen? ⟨w.heap.size + 1, 0, none⟩ = false := froz g1
  have y1 : w5.frozen? ⟨w.heap.size + 1, 1, none⟩ = false := froz g1
  have y2 : w5.frozen? ⟨w.heap.size + 1, 2, none⟩ = false := froz g1
  have y3 : w5.frozen? ⟨w.heap.size + 1, 3, none⟩ = false := froz g1
  have y4 : w5.frozen? ⟨w.heap.size + 1, 4, none⟩ = false := froz g1
  have HG1 : Hid (w5.heap[w.heap.size + 1]? = some (.cells #[.int .i64 0, .int .i64 0, .int .i64 0, .int .i64 0, .bool false] 79 (0, 0))) := g1
  clear g1
  go_wp2
  obtain ⟨Z, hZ⟩ : ∃ Z, Z = ((((w5.setCell ⟨w.heap.size + 1, 0, none⟩ (.int .i64 x.a)).setCell ⟨w.heap.size + 1, 1, none⟩ (.int .i64 x.b)).setCell ⟨w.heap.size + 1, 2, none⟩ (.int .i64 x.c)).setCell ⟨w.heap.size + 1, 3, none⟩ (.int .i64 x.d)).setCell ⟨w.heap.size + 1, 4, none⟩ (.bool pl) := ⟨_, rfl⟩
  have hZB : Z.heap[w.heap.size + 1]? = some (.cells #[.int .i64 x.a, .int .i64 x.b, .int .i64 x.c, .int .i64 x.d, .bool pl] 79 (0, 0)) := by rw [hZ, set_block (set_block (set_block (set_block (set_block HG1.out))))]; rfl
  have hgZ : w5.grownBy Z (some (w.heap.size + 1)) := by rw [hZ]; exact grown_two (grown_two (grown_two (grown_two (set_grown _ _ _ _) (set_grown _ _ _ _)) (set_grown _ _ _ _)) (set_grown _ _ _ _)) (set_grown _ _ _ _)
  rw [← hZ]
  have x0 : Z.cell? ⟨w.heap.size + 1, 0, none⟩ = some (.int .i64 x.a) := block_cell hZB rfl
  have x1 : Z.cell? ⟨w.heap.size + 1, 1, none⟩ = some (.int .i64 x.b) := block_cell hZB rfl
  have x2 : Z.cell? ⟨w.heap.size + 1, 2, none⟩ = some (.int .i64 x.c) := block_cell hZB rfl
  have x3 : Z.cell? ⟨w.heap.size + 1, 3, none⟩ = some (.int .i64 x.d) := block_cell hZB rfl
  have x4 : Z.cell? ⟨w.heap.size + 1, 4, none⟩ = some (.bool pl) := block_cell hZB rfl
  refine bodyPost_ret (v := .agg #[.int .i64 x.a, .int .i64 x.b, .int .i64 x.c, .int .i64 x.d, .bool pl]) (by simp [results, Tryd.results30, go_sem, x0, x1, x2, x3, x4]) rfl ⟨x, rfl, by rw [HTP.out], HB5.out.grown hgZ (by omega) (fun q hq => by have := Option.some.inj hq; omega)⟩
end Go.Proofs.YtnlcknlodjjdbaaDoor
/- The walk of tangle.walked. -/
namespace Go.Proofs.YtnlcknlodjjdbaaDoor
open Go.RowKit Go.Maps

theorem infoPassed : (Tryd.prog.info? 77).map (fun i => (i.zero, i.size, i.bytes)) = some (some (.agg #[.int .i64 0, .int .i64 0, .int .i64 0, .int .i64 0, .int .i64 0, .int .i64 0]), 6, 48) := by kernel_rfl
theorem cellF_nil (U : Nat → Nat) (j : Nat) : cellF U [] j = 0 := by
  unfold cellF FL dBt
  simp
theorem made_passed (n : Nat) (U : Nat → Nat) : (madeCells (Value.agg #[.int .i64 0, .int .i64 0, .int .i64 0, .int .i64 0, .int .i64 0, .int .i64 0]).cells (n * 6)).toList = intsV (mapI (6 * n) (cellF U [])) := by
  rw [mapI_zero _ _ (fun j _ => cellF_nil U j)]
  apply List.ext_getElem?
  intro j
  by_cases hj : j < n * 6
  · have h6 : j % 6 = 0 ∨ j % 6 = 1 ∨ j % 6 = 2 ∨ j % 6 = 3 ∨ j % 6 = 4 ∨ j % 6 = 5 := by omega
    have e1 : (intsV (List.replicate (6 * n) 0))[j]? = some (.int .i64 0) := by
      have : j < 6 * n := by omega
      simp [intsV, this]
    rw [e1]
    simp only [madeCells, Value.cells]
    rcases h6 with h | h | h | h | h | h <;> simp [hj, h]
  · rw [List.getElem?_eq_none (by simp [madeCells]; omega), List.getElem?_eq_none (by simp [intsV]; omega)]
theorem made_crossesT (n : Nat) : (madeCells (Value.agg #[.int .i64 0, .int .i64 0, .int .i64 0, .int .i64 0, .bool false]).cells (n * 5)).toList = crossCells (List.replicate n Cr.none) := by
  apply List.ext_getElem?
  intro j
  by_cases hj : j < n * 5
  · have hi : j / 5 < (List.replicate n Cr.none).length := by simp; omega
    have g := cells_get (List.replicate n Cr.none) (j / 5) hi
    have hz : (List.replicate n Cr.none).getD (j / 5) Cr.none = Cr.none := by rw [List.getD_eq_getElem?_getD, List.getElem?_replicate]; split <;> rfl
    rw [hz] at g
    have h5 : j % 5 = 0 ∨ j % 5 = 1 ∨ j % 5 = 2 ∨ j % 5 = 3 ∨ j % 5 = 4 := by omega
    simp only [madeCells, Value.cells]
    rcases h5 with h | h | h | h | h
    · rw [show j = j / 5 * 5 by omega, g.1, ← show j = j / 5 * 5 by omega]; simp [hj, h, Cr.none]
    · rw [show j = j / 5 * 5 + 1 by omega, g.2.1, ← show j = j / 5 * 5 + 1 by omega]; simp [hj, h, Cr.none]
    · rw [show j = j / 5 * 5 + 2 by omega, g.2.2.1, ← show j = j / 5 * 5 + 2 by omega]; simp [hj, h, Cr.none]
    · rw [show j = j / 5 * 5 + 3 by omega, g.2.2.2.1, ← show j = j / 5 * 5 + 3 by omega]; simp [hj, h, Cr.none]
    · rw [show j = j / 5 * 5 + 4 by omega, g.2.2.2.2, ← show j = j / 5 * 5 + 4 by omega]; simp [hj, h, Cr.none]
  · rw [List.getElem?_eq_none (by simp [madeCells]; omega), List.getElem?_eq_none (by rw [cells_length]; simp; omega)]
/-- A crossing of the link. -/
def lkX (U : Nat → Nat) (L : List Nat) (c : Nat) : Cr := turn ⟨FL U L (4 * c + 4), FL U L (4 * c + 5), FL U L (4 * c + 6), FL U L (4 * c + 7), decide (((dBt L c 1).toNat + 1) % 4 = (dBt L c 0).toNat)⟩ (dBt L c 0).toNat
/-- The link's crossings. -/
def lkC (n : Nat) (U : Nat → Nat) : List Cr := (List.range n).map (lkX U (goC n U n))
/-- The first k of them, nothing behind. -/
def lkTo (n : Nat) (U : Nat → Nat) (k : Nat) : List Cr := (List.range n).map fun c => if c < k then lkX U (goC n U n) c else Cr.none
theorem lkTo_len (n : Nat) (U : Nat → Nat) (k : Nat) : (lkTo n U k).length = n := by simp [lkTo]
theorem lkTo_zero (n : Nat) (U : Nat → Nat) : List.replicate n Cr.none = lkTo n U 0 := by
  apply List.ext_getElem?
  intro j
  by_cases hj : j < n
  · simp [lkTo, hj]
  · rw [List.getElem?_eq_none (by simp; omega), List.getElem?_eq_none (by rw [lkTo_len]; omega)]
theorem lkTo_next (n : Nat) (U : Nat → Nat) (k : Nat) : (lkTo n U k).set k (lkX U (goC n U n) k) = lkTo n U (k + 1) := by
  apply List.ext_getElem?
  intro j
  by_cases hj : j < n
  · rw [List.getElem?_set, lkTo_len]
    by_cases e : k = j
    · subst e; simp [lkTo, hj]
    · rw [if_neg e]
      simp only [lkTo, List.getElem?_map, List.getElem?_range hj, Option.map_some]
      by_cases h1 : j < k
      · rw [if_pos h1, if_pos (by omega)]
      · rw [if_neg h1, if_neg (by omega)]
  · rw [List.getElem?_eq_none (by simp [lkTo_len]; omega), List.getElem?_eq_none (by rw [lkTo_len]; omega)]
theorem lkTo_all (n : Nat) (U : Nat → Nat) : lkTo n U n = lkC n U := by
  unfold lkTo lkC
  exact List.map_congr_left fun c hc => by rw [if_pos (List.mem_range.1 hc)]
theorem dB_nat (L : List Nat) (c k : Nat) (hk : k < 2) : dBt L c k = ((dBt L c k).toNat : Int) ∧ (dBt L c k).toNat < 4 := by
  unfold dBt
  split
  · omega
  · split <;> omega
theorem cellF_at (U : Nat → Nat) (L : List Nat) (c r : Nat) (hr : r < 4) : cellF U L (c * 6 + r) = FL U L (4 * c + 4 + r) := by
  unfold cellF
  rw [show (c * 6 + r) % 6 = r by omega, show (c * 6 + r) / 6 = c by omega, if_pos hr]
theorem cellF_d (U : Nat → Nat) (L : List Nat) (c k : Nat) (hk : k < 2) : cellF U L (c * 6 + 4 + k) = dBt L c k := by
  unfold cellF
  rw [show (c * 6 + 4 + k) % 6 = 4 + k by omega, show (c * 6 + 4 + k) / 6 = c by omega, if_neg (by omega), show 4 + k - 4 = k by omega]

set_option maxHeartbeats 16000000 in
set_option maxRecDepth 100000 in
theorem walked_any (b m n : Nat) (U : Nat → Nat) (w : World) (hU : Ties n U) (hn : n ≤ 16) (hM : MapT w b m (Sp n) U) :
    Calls Tryd.prog 16 #[.map (some b), .int .i64 (n : Nat)] w fun e w' => ∃ g, e = .returned (.slice (some ⟨g, 0, none⟩) n n) ∧ w.heap.size ≤ g ∧ w'.ownsRow g 79 5 (.slice (some ⟨g, 0, none⟩) n n) n (crossCells (lkC n U)) ∧ Below w.heap.size w w' := by
  have HU : Hid (Ties n U) := hU
  have HM0 : Hid (MapT w b m (Sp n) U) := hM
  obtain ⟨i6, hk, hx0, hx1, hx2⟩ := info_parts infoPassed
  obtain ⟨i5, hj, hy0, hy1, hy2⟩ := info_parts infoCross
  have hbw := hM.lt
  have HRS : Hid (∀ k, k ≤ n → Rest n U (goC n U k)) := fun k hk => (goC_rest hU k hk).1
  clear hU hM
  go_enter Tryd.func16, Tryd.ntmps16
  go_wp2_with (first | (at_make; refine wpList_make_full _ rfl _ _ 71 rfl w.heap.size 77 i6 (.agg #[.int .i64 0, .int .i64 0, .int .i64 0, .int .i64 0, .int .i64 0, .int .i64 0]) 6 Tryd.underlying71 hk hx0 hx1 .i64 .i64 _ _ n rfl rfl rfl rfl (by rw [hx2]; omega) (by unfold maxLen; omega) (by simp) ?_; intro w1 hrow hg1; refine Hid.out ?_))
  refine Lib.hid ?_
  rw [made_passed n U] at hrow
  have HR1 : Hid (w1.ownsRow w.heap.size 77 6 (.slice (some ⟨w.heap.size, 0, none⟩) n n) n (intsV (mapI (6 * n) (cellF U [])))) := hrow
  have HG1 : Hid (w.grownBy w1 none) := hg1
  clear hrow hg1
  go_upto_region 2 with (fail)
  obtain ⟨Y, hY⟩ : ∃ Y, Y = w1.alloc (.cells #[.map (some b), .slice (some ⟨w.heap.size, 0, none⟩) n n, .int .i64 0] 73) := ⟨_, rfl⟩
  rw [← hY]
  have hgY : w1.grownBy Y none := by rw [hY]; exact World.grownBy_alloc _ _ _
  have HS0 : Hid (WlkSt w1.heap.size w.heap.size b w.heap.size m n U ((goC n U 0).length : Nat) (mapI (6 * n) (cellF U (goC n U 0))) Y) := ⟨(by rw [hY]; exact box_at _ _), own_any HR1.out hgY, (HM0.out.kept HG1.out (by simp)).kept hgY (by simp)⟩
  have HB0 : Hid (Below w.heap.size w Y ∧ w.heap.size ≤ Y.heap.size) := ⟨((Below.refl w.heap.size w).grown HG1.out (Nat.le_refl _) (fun q hq => by cases hq)).grown hgY HG1.out.size (fun q hq => by cases hq), Nat.le_trans HG1.out.size hgY.size⟩
  have hgW : w.heap.size ≤ w1.heap.size := HG1.out.size
  generalize w1.heap.size = gW at HS0 hgW ⊢
  clear hY hgY HR1 HG1 HM0
  have d1 : Y.cell? ⟨gW, 1, none⟩ = some (.slice (some ⟨w.heap.size, 0, none⟩) n n) := block_cell HS0.out.box rfl
  have l1 := (Array.getElem?_eq_some_iff.1 HS0.out.box).1
  go_wp2
  go_loopw [17] (fun v17 wr => ∃ k : Nat, k ≤ n ∧ v17 = .int .i64 (k : Nat) ∧ Hid (WlkSt gW w.heap.size b w.heap.size m n U ((goC n U k).length : Nat) (mapI (6 * n) (cellF U (goC n U k))) wr) ∧ Hid (Below w.heap.size w wr ∧ w.heap.size ≤ wr.heap.size)) (fun v17 _ => n - (intOf v17).toNat)
  case atStart => exact ⟨0, Nat.zero_le _, rfl, HS0.out, HB0.out⟩
  case round =>
    clear HS0 HB0 d1 l1
    rename World => W1
    obtain ⟨k, hkn, rfl, hst, hbl⟩ := hrel
    by_cases hkl : k < n
    · have HW1 : Hid (Calls Tryd.prog 29 #[.pointer (some ⟨gW, 0, none⟩), .agg #[.int .i64 (k : Nat), .int .i64 0]] W1 fun r w' => r = .returned (.tuple #[]) ∧ WlkSt gW w.heap.size b w.heap.size m n U ((goS n U (goC n U k) (4 * k + 4)).length : Nat) (mapI (6 * n) (cellF U (goS n U (goC n U k) (4 * k + 4)))) w' ∧ Below w.heap.size w w') := (by
        have hsp : Sp n (4 * k + 4) := by unfold Sp; omega
        have h1 := walk_any gW w.heap.size b w.heap.size m n (4 * k + 4) U (goC n U k) w W1 HU.out hn (HRS.out k hkn) hsp hgW (Nat.le_refl _) hst.out hbl.out.1 hbl.out.2
        rw [spV_at hsp, show (4 * k + 4) / 4 - 1 = k by omega, show (4 * k + 4) % 4 = 0 by omega] at h1
        exact h1)
      have HW2 : Hid (∀ W, WlkSt gW w.heap.size b w.heap.size m n U ((goS n U (goC n U k) (4 * k + 4)).length : Nat) (mapI (6 * n) (cellF U (goS n U (goC n U k) (4 * k + 4)))) W → Below w.heap.size w W → w.heap.size ≤ W.heap.size → Calls Tryd.prog 29 #[.pointer (some ⟨gW, 0, none⟩), .agg #[.int .i64 (k : Nat), .int .i64 1]] W fun r w' => r = .returned (.tuple #[]) ∧ WlkSt gW w.heap.size b w.heap.size m n U ((goC n U (k + 1)).length : Nat) (mapI (6 * n) (cellF U (goC n U (k + 1)))) w' ∧ Below w.heap.size w w') := fun W hs hb hbs => by
        have hsp : Sp n (4 * k + 4) := by unfold Sp; omega
        have hsp2 : Sp n (4 * k + 5) := by unfold Sp; omega
        have h1 := walk_any gW w.heap.size b w.heap.size m n (4 * k + 5) U (goS n U (goC n U k) (4 * k + 4)) w W HU.out hn (goS_rest HU.out (HRS.out k hkn) hsp).1 hsp2 hgW (Nat.le_refl _) hs hb hbs
        rw [spV_at hsp2, show (4 * k + 5) / 4 - 1 = k by omega, show (4 * k + 5) % 4 = 1 by omega] at h1
        exact h1
      go_upto_region 6 with (go_at_call 29; refine HW1.out.mono ?_; rintro e9 w3 ⟨rfl, hs3, hb3⟩)
      have HS3 : Hid (WlkSt gW w.heap.size b w.heap.size m n U ((goS n U (goC n U k) (4 * k + 4)).length : Nat) (mapI (6 * n) (cellF U (goS n U (goC n U k) (4 * k + 4)))) w3 ∧ Below w.heap.size w w3 ∧ w.heap.size ≤ w3.heap.size) := ⟨hs3, hb3, hb3.size⟩
      clear hs3 hb3
      go_wp2_with (go_at_call 29; refine (HW2.out _ HS3.out.1 HS3.out.2.1 HS3.out.2.2).mono ?_; rintro e9 w4 ⟨rfl, hs4, hb4⟩; refine Hid.out ?_)
      refine Lib.hid ?_
      have HS4 : Hid (WlkSt gW w.heap.size b w.heap.size m n U ((goC n U (k + 1)).length : Nat) (mapI (6 * n) (cellF U (goC n U (k + 1)))) w4 ∧ Below w.heap.size w w4 ∧ w.heap.size ≤ w4.heap.size) := ⟨hs4, hb4, hb4.size⟩
      clear hs4 hb4
      go_wp2
      go_roundw
      case rel => exact ⟨k + 1, by omega, by go_num, HS4.out.1, HS4.out.2⟩
      case measure => simp only [intOf]; omega
    · obtain rfl : n = k := by omega
      obtain ⟨L, hL⟩ : ∃ L, goC n U n = L := ⟨_, rfl⟩
      have HL : Hid (goC n U n = L) := hL
      rw [hL] at hst
      have HLX : Hid (∀ c, lkX U (goC n U n) c = lkX U L c) := fun c => by rw [hL]
      have HNXT : Hid (∀ k, (lkTo n U k).set k (lkX U L k) = lkTo n U (k + 1)) := fun k => by rw [← hL]; exact lkTo_next n U k
      clear hL HRS hkl hkn
      go_wp2_with (first | (at_make; refine wpList_make_full _ rfl _ _ 30 rfl W1.heap.size 79 i5 (.agg #[.int .i64 0, .int .i64 0, .int .i64 0, .int .i64 0, .bool false]) 5 Tryd.underlying30 hj hy0 hy1 .i64 .i64 _ _ n rfl rfl rfl rfl (by rw [hy2]; omega) (by unfold maxLen; omega) (by simp) ?_; intro w5 hrow hg5; refine Hid.out ?_))
      refine Lib.hid ?_
      rw [made_crossesT n, lkTo_zero n U] at hrow
      have HR5 : Hid (w5.ownsRow W1.heap.size 79 5 (.slice (some ⟨W1.heap.size, 0, none⟩) n n) n (crossCells (lkTo n U 0))) := hrow
      have HS5 : Hid (WlkSt gW w.heap.size b w.heap.size m n U (L.length : Nat) (mapI (6 * n) (cellF U L)) w5) := hst.out.any hg5
      have HB5 : Hid (Below w.heap.size w w5 ∧ w.heap.size ≤ w5.heap.size) := ⟨hbl.out.1.grown hg5 hbl.out.2 (fun q hq => by cases hq), Nat.le_trans hbl.out.2 hg5.size⟩
      have hgl : w.heap.size ≤ W1.heap.size := hbl.out.2
      generalize W1.heap.size = g7 at HR5 hgl ⊢
      clear hrow hg5 hst hbl
      have d1 : w5.cell? ⟨gW, 1, none⟩ = some (.slice (some ⟨w.heap.size, 0, none⟩) n n) := block_cell HS5.out.box rfl
      have l1 := (Array.getElem?_eq_some_iff.1 HS5.out.box).1
      go_wp2
      go_loopw [32] (fun v32 wr => ∃ k : Nat, k ≤ n ∧ v32 = .int .i64 (k : Nat) ∧ Hid (WlkSt gW w.heap.size b w.heap.size m n U (L.length : Nat) (mapI (6 * n) (cellF U L)) wr) ∧ Hid (wr.ownsRow g7 79 5 (.slice (some ⟨g7, 0, none⟩) n n) n (crossCells (lkTo n U k))) ∧ Hid (Below w.heap.size w wr ∧ w.heap.size ≤ wr.heap.size)) (fun v32 _ => n - (intOf v32).toNat)
      case atStart => exact ⟨0, Nat.zero_le _, rfl, HS5.out, HR5.out, HB5.out⟩
      case round =>
        clear HS5 HB5 HR5 d1 l1
        rename World => W2
        obtain ⟨k, hkn, rfl, hst, hrw, hbl⟩ := hrel
        by_cases hkl : k < n
        · obtain ⟨n0, n1⟩ := dB_nat L k 0 (by omega)
          obtain ⟨n2, n3⟩ := dB_nat L k 1 (by omega)
          have e0 := hst.out.rowCell (k * 6) (by omega)
          have e1 := hst.out.rowCell (k * 6 + 1) (by omega)
          have e2 := hst.out.rowCell (k * 6 + 2) (by omega)
          have e3 := hst.out.rowCell (k * 6 + 3) (by omega)
          have e4 := hst.out.rowCell (k * 6 + 4) (by omega)
          have e5 := hst.out.rowCell (k * 6 + 5) (by omega)
          rw [mapI_at _ _ _ (by omega)] at e0 e1 e2 e3 e4 e5
          rw [show cellF U L (k * 6) = FL U L (4 * k + 4) from cellF_at U L k 0 (by omega)] at e0
          rw [show cellF U L (k * 6 + 1) = FL U L (4 * k + 5) from cellF_at U L k 1 (by omega)] at e1
          rw [show cellF U L (k * 6 + 2) = FL U L (4 * k + 6) from cellF_at U L k 2 (by omega)] at e2
          rw [show cellF U L (k * 6 + 3) = FL U L (4 * k + 7) from cellF_at U L k 3 (by omega)] at e3
          rw [show cellF U L (k * 6 + 4) = dBt L k 0 from cellF_d U L k 0 (by omega), n0] at e4
          rw [show cellF U L (k * 6 + 5) = dBt L k 1 from cellF_d U L k 1 (by omega), n2] at e5
          have HX : Hid (lkX U L k = turn ⟨FL U L (4 * k + 4), FL U L (4 * k + 5), FL U L (4 * k + 6), FL U L (4 * k + 7), decide (((dBt L k 1).toNat + 1) % 4 = (dBt L k 0).toNat)⟩ (dBt L k 0).toNat) := (rfl : lkX U L k = turn ⟨FL U L (4 * k + 4), FL U L (4 * k + 5), FL U L (4 * k + 6), FL U L (4 * k + 7), decide (((dBt L k 1).toNat + 1) % 4 = (dBt L k 0).toNat)⟩ (dBt L k 0).toNat)
          have HTD : Hid (∀ W, Calls Tryd.prog 30 #[.agg #[.int .i64 (FL U L (4 * k + 4)), .int .i64 (FL U L (4 * k + 5)), .int .i64 (FL U L (4 * k + 6)), .int .i64 (FL U L (4 * k + 7)), .int .i64 ((dBt L k 0).toNat : Nat), .int .i64 ((dBt L k 1).toNat : Nat)]] W fun e w' => ∃ x : Cr, x = lkX U L k ∧ e = .returned (.agg #[.int .i64 x.a, .int .i64 x.b, .int .i64 x.c, .int .i64 x.d, .bool x.plus]) ∧ Below W.heap.size W w') := fun W => by rw [HX.out]; exact told_any _ _ _ _ _ _ W n1 n3
          generalize FL U L (4 * k + 4) = A0 at e0 HTD
          generalize FL U L (4 * k + 5) = A1 at e1 HTD
          generalize FL U L (4 * k + 6) = A2 at e2 HTD
          generalize FL U L (4 * k + 7) = A3 at e3 HTD
          generalize (dBt L k 0).toNat = be at e4 HTD n1
          generalize (dBt L k 1).toNat = ab at e5 HTD n3
          have l2 := (hst.out.row.lt w.heap.size rfl).2
          have hkI : (k : Int) < (n : Int) := by omega
          clear n0 n2 HX
          go_upto_region 12 with (fail)
          obtain ⟨Z, hZ⟩ : ∃ Z, Z = W2.alloc (.cells #[.int .i64 A0, .int .i64 A1, .int .i64 A2, .int .i64 A3, .int .i64 (be : Nat), .int .i64 (ab : Nat)] 77) := ⟨_, rfl⟩
          rw [← hZ]
          have hgZ : W2.grownBy Z none := by rw [hZ]; exact World.grownBy_alloc _ _ _
          have hbz : Z.heap[W2.heap.size]? = some (.cells #[.int .i64 A0, .int .i64 A1, .int .i64 A2, .int .i64 A3, .int .i64 (be : Nat), .int .i64 (ab : Nat)] 77 (0, 0)) := by rw [hZ]; exact box_at _ _
          have HSZ : Hid (WlkSt gW w.heap.size b w.heap.size m n U (L.length : Nat) (mapI (6 * n) (cellF U L)) Z) := hst.out.any hgZ
          have HRZ : Hid (Z.ownsRow g7 79 5 (.slice (some ⟨g7, 0, none⟩) n n) n (crossCells (lkTo n U k))) := own_any hrw.out hgZ
          have HBZ : Hid (Below w.heap.size w Z ∧ w.heap.size ≤ Z.heap.size) := ⟨hbl.out.1.grown hgZ hbl.out.2 (fun q hq => by cases hq), Nat.le_trans hbl.out.2 hgZ.size⟩
          have lz : W2.heap.size < Z.heap.size := (Array.getElem?_eq_some_iff.1 hbz).1
          generalize W2.heap.size = g9 at hbz lz ⊢
          have z0 : Z.cell? ⟨g9, 0, none⟩ = some (.int .i64 A0) := block_cell hbz rfl
          have z1 : Z.cell? ⟨g9, 1, none⟩ = some (.int .i64 A1) := block_cell hbz rfl
          have z2 : Z.cell? ⟨g9, 2, none⟩ = some (.int .i64 A2) := block_cell hbz rfl
          have z3 : Z.cell? ⟨g9, 3, none⟩ = some (.int .i64 A3) := block_cell hbz rfl
          have z4 : Z.cell? ⟨g9, 4, none⟩ = some (.int .i64 (be : Nat)) := block_cell hbz rfl
          have z5 : Z.cell? ⟨g9, 5, none⟩ = some (.int .i64 (ab : Nat)) := block_cell hbz rfl
          clear hZ hgZ hbz e0 e1 e2 e3 e4 e5 hst hrw hbl l2
          go_wp2_with (go_at_call 30; refine (HTD.out _).mono ?_; rintro e9 w7 ⟨x, hx, rfl, hb7⟩; have HXX : Hid (x = lkX U L k) := hx; clear hx; refine Hid.out ?_)
          refine Lib.hid ?_
          have HS7 : Hid (WlkSt gW w.heap.size b w.heap.size m n U (L.length : Nat) (mapI (6 * n) (cellF U L)) w7) := HSZ.out.any (grown_below hb7 none)
          have hr7 : w7.ownsRow g7 79 5 (.slice (some ⟨g7, 0, none⟩) n n) n (crossCells (lkTo n U k)) := own_any HRZ.out (grown_below hb7 none)
          have HB7 : Hid (Below w.heap.size w w7 ∧ w.heap.size ≤ w7.heap.size) := ⟨HBZ.out.1.grown (grown_below hb7 none) HBZ.out.2 (fun q hq => by cases hq), Nat.le_trans HBZ.out.2 hb7.size⟩
          have hp := put5R (c := k) hr7 (by rw [lkTo_len]; exact hkl) x
          have hnx := HNXT.out k
          rw [← HXX.out] at hnx
          rw [hnx] at hp
          have hcl : (crossCells (lkTo n U k)).length = n * 5 := by rw [cells_length, lkTo_len]
          have HP : Hid ((st5R w7 g7 k x).ownsRow g7 79 5 (.slice (some ⟨g7, 0, none⟩) n n) n (crossCells (lkTo n U (k + 1))) ∧ w7.grownBy (st5R w7 g7 k x) (some g7)) := hp
          obtain ⟨cg0, cg1, cg2, cg3, cg4⟩ := cells_get (lkTo n U k) k (by rw [lkTo_len]; exact hkl)
          have v0 := (hr7.cellAt (k * 5) (by omega)).trans cg0
          have v1 := (hr7.cellAt (k * 5 + 1) (by omega)).trans cg1
          have v2 := (hr7.cellAt (k * 5 + 2) (by omega)).trans cg2
          have v3 := (hr7.cellAt (k * 5 + 3) (by omega)).trans cg3
          have v4 := (hr7.cellAt (k * 5 + 4) (by omega)).trans cg4
          have y0 : w7.frozen? ⟨g7, k * 5, none⟩ = false := hr7.frozenAt _
          have y1 : w7.frozen? ⟨g7, k * 5 + 1, none⟩ = false := hr7.frozenAt _
          have y2 : w7.frozen? ⟨g7, k * 5 + 2, none⟩ = false := hr7.frozenAt _
          have y3 : w7.frozen? ⟨g7, k * 5 + 3, none⟩ = false := hr7.frozenAt _
          have y4 : w7.frozen? ⟨g7, k * 5 + 4, none⟩ = false := hr7.frozenAt _
          have l7 := (hr7.lt g7 rfl).2
          have HNE : Hid (g7 ≠ gW ∧ g7 ≠ w.heap.size ∧ g7 ≠ b) := (by
            obtain ⟨cs, hc7⟩ := row_block hr7
            obtain ⟨cs2, hc8⟩ := row_block HS7.out.row
            obtain ⟨D, ⟨es, clock, hm, -⟩, -⟩ := HS7.out.map
            refine ⟨fun e => ?_, fun e => ?_, fun e => ?_⟩
            · rw [e, HS7.out.box] at hc7
              injection hc7 with hc7
              injection hc7 with _ h2
              exact absurd h2 (by decide)
            · rw [e, hc8] at hc7
              injection hc7 with hc7
              injection hc7 with _ h2
              exact absurd h2 (by decide)
            · rw [e, hm] at hc7
              exact absurd hc7 (by simp) : g7 ≠ gW ∧ g7 ≠ w.heap.size ∧ g7 ≠ b)
          clear hb7 hp hcl hnx cg0 cg1 cg2 cg3 cg4 hr7 z0 z1 z2 z3 z4 z5 lz
          generalize (lkTo n U k).getD k Cr.none = y9 at v0 v1 v2 v3 v4
          go_wp2
          obtain ⟨Q, hQ⟩ : ∃ Q, Q = st5R w7 g7 k x := ⟨_, rfl⟩
          have HFN : Hid (WlkSt gW w.heap.size b w.heap.size m n U (L.length : Nat) (mapI (6 * n) (cellF U L)) Q ∧ Q.ownsRow g7 79 5 (.slice (some ⟨g7, 0, none⟩) n n) n (crossCells (lkTo n U (k + 1))) ∧ Below w.heap.size w Q ∧ w.heap.size ≤ Q.heap.size) := (by
            rw [hQ]
            have hgr := HP.out.2
            refine ⟨⟨(hgr.block _ (Array.getElem?_eq_some_iff.1 HS7.out.box).1 (fun e => HNE.out.1 (Option.some.inj e).symm)).trans HS7.out.box, HS7.out.row.kept hgr (Or.inr (fun e => HNE.out.2.1 (Option.some.inj e).symm)), HS7.out.map.kept hgr (fun e => HNE.out.2.2 (Option.some.inj e).symm)⟩, HP.out.1, below_wk HB7.out.1 HB7.out.2 hgl hgr, Nat.le_trans HB7.out.2 hgr.size⟩)
          unfold st5R at hQ
          rw [← hQ]
          clear hQ v0 v1 v2 v3 v4 y0 y1 y2 y3 y4
          go_roundw
          case rel => exact ⟨k + 1, by omega, by go_num, HFN.out.1, HFN.out.2.1, HFN.out.2.2⟩
          case measure => simp only [intOf]; omega
        · obtain rfl : n = k := by omega
          have HFN : Hid (W2.ownsRow g7 79 5 (.slice (some ⟨g7, 0, none⟩) n n) n (crossCells (lkC n U)) ∧ Below w.heap.size w W2) := ⟨by rw [← lkTo_all]; exact hrw.out, hbl.out.1⟩
          go_wp2
          go_ret
          exact ⟨g7, rfl, hgl, HFN.out⟩
end Go.Proofs.YtnlcknlodjjdbaaDoor
