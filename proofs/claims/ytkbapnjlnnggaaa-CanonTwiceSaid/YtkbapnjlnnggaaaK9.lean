/- The walk of canon.Reverse where there is such a part; the law CanonTurns. -/
import Derived.Test.YtkbapnjlnnggaaaK8
import Derived.Test.YtkbapnjlnnggaaaLGaussTells
namespace Go.Proofs.Ytkbapnjlnnggaaa
open Go.RowKit

set_option maxHeartbeats 4000000 in
set_option maxRecDepth 100000 in
theorem reverse_some (v : Value) (C : List Cr) (loops : Int) (p : Nat) (w : World) (hm : mayD C loops = true) (h : Crs w w.heap.size v C) (hp : p < (walksM C).length) :
    Calls Try.prog 15 #[.agg #[v, .int .i64 loops], .int .i64 (p : Nat)] w fun e w' => ∃ r, e = .returned (.tuple #[.agg #[r, .int .i64 loops], .int .i64 0]) ∧ Crs w' w'.heap.size r (revC ((walksM C).getD p []) C) ∧ Below w.heap.size w w' := by
  obtain ⟨s1, -, -, -⟩ := sizeB_iff (may_size hm)
  have hlL := (walksM_facts hm).1
  have HC : Hid (Crs w w.heap.size v C) := h
  have HM : Hid (mayD C loops = true) := hm
  obtain ⟨a, cap, rfl, hn, -⟩ := h
  have HB1 : Hid (Below w.heap.size w ((w.alloc (.cells #[.slice a C.length cap, .int .i64 loops] 24)).alloc (.cells #[.slice none 0 0, .int .i64 0] 24))) := below2 _ _ _
  have HT1 : Hid (((w.alloc (.cells #[.slice a C.length cap, .int .i64 loops] 24)).alloc (.cells #[.slice none 0 0, .int .i64 0] 24)).heap[w.heap.size + 1]? = some (.cells #[.slice none 0 0, .int .i64 0] 24 (0, 0))) := alloc_at (by simp)
  go_enter Try.func15, Try.ntmps15
  go_wp2_with (go_at_call 35; refine (of_any _ C loops _ (HC.out.up HB1.out)).mono ?_; rw [hm]; rintro e9 w2 ⟨d, rfl, hb2, hd⟩; obtain ⟨gF, cF, gT, cT, rfl, hdr⟩ := hd.dr HM.out hb2 (HC.out.up HB1.out); refine Hid.out ?_)
  refine Lib.hid ?_
  have HDR : Hid (Dr w2 a cap C gF gT) := hdr
  unfold drV
  have HB2 : Hid (Below w.heap.size w w2) := HB1.out.trans (hb2.mono HB1.out.size)
  have HT2 : Hid (w2.heap[w.heap.size + 1]? = some (.cells #[.slice none 0 0, .int .i64 0] 24 (0, 0))) := (hb2.block _ (by simp)).trans HT1.out
  have hs2 : w.heap.size + 2 ≤ w2.heap.size := by have := hb2.size; simpa using this
  clear hb2 hd hdr hm
  obtain ⟨X, hX⟩ : ∃ X, X = w2.alloc (.cells #[.slice a C.length cap, .int .i64 loops, .slice (some ⟨gF, 0, none⟩) (2 * C.length + 1) cF, .slice (some ⟨gT, 0, none⟩) (2 * C.length + 1) cT] 71) := ⟨_, rfl⟩
  have HWX : Hid (X = w2.alloc (.cells #[.slice a C.length cap, .int .i64 loops, .slice (some ⟨gF, 0, none⟩) (2 * C.length + 1) cF, .slice (some ⟨gT, 0, none⟩) (2 * C.length + 1) cT] 71)) := hX
  have HT : Hid (X.heap[w2.heap.size]? = some (.cells #[.slice a C.length cap, .int .i64 loops, .slice (some ⟨gF, 0, none⟩) (2 * C.length + 1) cF, .slice (some ⟨gT, 0, none⟩) (2 * C.length + 1) cT] 71 (0, 0))) := (by rw [hX]; exact alloc_at rfl : X.heap[w2.heap.size]? = some (.cells #[.slice a C.length cap, .int .i64 loops, .slice (some ⟨gF, 0, none⟩) (2 * C.length + 1) cF, .slice (some ⟨gT, 0, none⟩) (2 * C.length + 1) cT] 71 (0, 0)))
  have hsX : X.heap.size = w2.heap.size + 1 := by rw [hX]; simp
  have HBX : Hid (Below w2.heap.size w2 X) := (by rw [hX]; exact (Below.refl _ _).alloc (Nat.le_refl _) _ : Below w2.heap.size w2 X)
  have HDX : Hid (Dr X a cap C gF gT) := HDR.out.on HBX.out
  clear hX
  go_wp2_with (go_at_call 39; rw [← HWX.out]; refine (walks_any a cap C loops gF cF gT cT _ HM.out HDX.out).mono ?_; rintro e9 w3 ⟨r, rfl, hr, hb3⟩; refine Hid.out ?_)
  refine Lib.hid ?_
  have HX3 : Hid (Below X.heap.size X w3) := hb3
  have HW3 : Hid (WksAt w3 r (walksM C)) := hr.wks
  have HC3 : Hid (Crs w3 w3.heap.size (.slice a C.length cap) C) := (HDX.out.on hb3).crs
  have HT3 : Hid (w3.heap[w2.heap.size]? = some (.cells #[.slice a C.length cap, .int .i64 loops, .slice (some ⟨gF, 0, none⟩) (2 * C.length + 1) cF, .slice (some ⟨gT, 0, none⟩) (2 * C.length + 1) cT] 71 (0, 0))) := (hb3.block _ (by omega)).trans HT.out
  have HR3 : Hid (w3.heap[w.heap.size + 1]? = some (.cells #[.slice none 0 0, .int .i64 0] 24 (0, 0))) := (hb3.block _ (by omega)).trans ((HBX.out.block _ (by omega)).trans HT2.out)
  have hs3 : w2.heap.size + 1 ≤ w3.heap.size := by have := hb3.size; omega
  obtain ⟨ys, hyl, ⟨ar, cr, rfl, -⟩, -⟩ := hr.wks
  rw [hyl] at HW3 ⊢
  clear hr hb3 hyl HWX
  have q0 : w3.cell? ⟨w2.heap.size, 0, none⟩ = some (.slice a C.length cap) := block_cell HT3.out rfl
  have q1 : w3.cell? ⟨w2.heap.size, 1, none⟩ = some (.int .i64 loops) := block_cell HT3.out rfl
  have q2 : w3.cell? ⟨w2.heap.size, 2, none⟩ = some (.slice (some ⟨gF, 0, none⟩) (2 * C.length + 1) cF) := block_cell HT3.out rfl
  have q3 : w3.cell? ⟨w2.heap.size, 3, none⟩ = some (.slice (some ⟨gT, 0, none⟩) (2 * C.length + 1) cT) := block_cell HT3.out rfl
  have hl3 : w2.heap.size < w3.heap.size := by omega
  have hd : decide ((p : Int) < 0) = false := by simp
  have HP : Hid (p < (walksM C).length) := hp
  obtain ⟨L, hL⟩ : ∃ L, (walksM C).length = L := ⟨_, rfl⟩
  rw [hL] at hp HW3 hlL ⊢
  have hd2 : decide ((L : Int) ≤ (p : Int)) = false := by simp; omega
  have hd3 : decide (L ≤ p) = false := by simp; omega
  clear hL
  go_wp2_with (go_at_call 40; refine (reversed_some a cap C loops gF cF gT cT _ p _ HM.out HC3.out HW3.out HP.out).mono ?_; rintro e9 w4 ⟨u, rfl, hu, hb4⟩; refine Hid.out ?_)
  refine Lib.hid ?_
  have HU : Hid (w4.ownsRow w3.heap.size 89 5 u (revC ((walksM C).getD p []) C).length (crossCells (revC ((walksM C).getD p []) C))) := hu
  have HB4 : Hid (Below w.heap.size w w4) := ((HB2.out.trans (HBX.out.mono (by omega))).trans (HX3.out.mono (by omega))).trans (hb4.mono (by omega))
  have HR4 : Hid (w4.heap[w.heap.size + 1]? = some (.cells #[.slice none 0 0, .int .i64 0] 24 (0, 0))) := (hb4.block _ (by omega)).trans HR3.out
  have hs4 := hb4.size
  clear hu hb4 q0 q1 q2 q3
  have hrl : (revC ((walksM C).getD p []) C).length = C.length := by simp [revC]
  obtain ⟨a3, c3', ev3⟩ := own_capS HU.out
  rw [hrl] at ev3
  subst ev3
  have r0 : w4.cell? ⟨w.heap.size + 1, 0, none⟩ = some (.slice none 0 0) := block_cell HR4.out rfl
  have r1 : w4.cell? ⟨w.heap.size + 1, 1, none⟩ = some (.int .i64 0) := block_cell HR4.out rfl
  have f0 : w4.frozen? ⟨w.heap.size + 1, 0, none⟩ = false := block_frozen HR4.out
  have f1 : w4.frozen? ⟨w.heap.size + 1, 1, none⟩ = false := block_frozen HR4.out
  have hl : w.heap.size + 1 < w4.heap.size := by omega
  go_wp2
  have hX := set_block (i := 1) (u := .int .i64 loops) (set_block (i := 0) (u := .slice a3 C.length c3') HR4.out)
  have x0 := block_cell (i := 0) (v := .slice a3 C.length c3') hX rfl
  have x1 := block_cell (i := 1) (v := .int .i64 loops) hX rfl
  have hk := HU.out.kept (st2_grown w4 (w.heap.size + 1) 0 (.slice a3 C.length c3') (.int .i64 loops)) (by
    cases hv : (Value.slice a3 C.length c3').ownBlock with
    | none => exact Or.inl rfl
    | some k => exact Or.inr (fun e => by have h1 := (HU.out.lt k hv).1; have h2 := Option.some.inj e; omega))
  exact bodyPost_ret (v := .tuple #[.agg #[.slice a3 C.length c3', .int .i64 loops], .int .i64 0]) (by simp [results, Try.results15, go_sem, x0, x1]) rfl ⟨_, rfl, crs_own hk (by unfold maxLen; rw [hrl]; omega), HB4.out.grown (st2_grown w4 (w.heap.size + 1) 0 (.slice a3 C.length c3') (.int .i64 loops)) (by omega) (fun q hq => by have := Option.some.inj hq; omega)⟩
end Go.Proofs.Ytkbapnjlnnggaaa
