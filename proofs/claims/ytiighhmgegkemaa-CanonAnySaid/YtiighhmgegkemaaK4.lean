/- The walks of ref.MirrorOf and canon.Mirror. -/
import Derived.Test.YtiighhmgegkemaaK1P
namespace Go.Proofs.Ytiighhmgegkemaa
open Go.RowKit

set_option maxHeartbeats 2000000 in
set_option maxRecDepth 100000 in
theorem mirror_no (v : Value) (C : List Cr) (loops : Int) (w : World) (hm : mayD C loops = false) (h : Crs w w.heap.size v C) :
    Calls Try.prog 38 #[.agg #[v, .int .i64 loops]] w fun e w' => e = .returned (.tuple #[.agg #[.slice none 0 0, .int .i64 0], .int .i64 7]) ∧ Below w.heap.size w w' := by
  have HC : Hid (Crs w w.heap.size v C) := h
  obtain ⟨a, cap, rfl, hn, -⟩ := h
  have HB1 : Hid (Below w.heap.size w ((w.alloc (.cells #[.slice a C.length cap, .int .i64 loops] 35)).alloc (.cells #[.slice none 0 0, .int .i64 0] 35))) := below2 _ _ _
  have HT1 : Hid (((w.alloc (.cells #[.slice a C.length cap, .int .i64 loops] 35)).alloc (.cells #[.slice none 0 0, .int .i64 0] 35)).heap[w.heap.size + 1]? = some (.cells #[.slice none 0 0, .int .i64 0] 35 (0, 0))) := alloc_at (by simp)
  go_enter Try.func38, Try.ntmps38
  go_wp2_with (go_at_call 84; refine (of_any _ C loops _ (HC.out.up HB1.out)).mono ?_; rw [hm]; rintro e9 w2 ⟨d, rfl, hb2, hd⟩; rw [hd.no hm]; refine Hid.out ?_)
  refine Lib.hid ?_
  unfold noDrawing
  have HB2 : Hid (Below w.heap.size w w2) := HB1.out.trans (hb2.mono HB1.out.size)
  have HT2 : Hid (w2.heap[w.heap.size + 1]? = some (.cells #[.slice none 0 0, .int .i64 0] 35 (0, 0))) := (hb2.block _ (by simp)).trans HT1.out
  have hs2 : w.heap.size + 2 ≤ w2.heap.size := by have := hb2.size; simpa using this
  clear hb2 hd
  have r0 : w2.cell? ⟨w.heap.size + 1, 0, none⟩ = some (.slice none 0 0) := block_cell HT2.out rfl
  have r1 : w2.cell? ⟨w.heap.size + 1, 1, none⟩ = some (.int .i64 0) := block_cell HT2.out rfl
  have f0 : w2.frozen? ⟨w.heap.size + 1, 0, none⟩ = false := block_frozen HT2.out
  have f1 : w2.frozen? ⟨w.heap.size + 1, 1, none⟩ = false := block_frozen HT2.out
  have hl : w.heap.size + 1 < w2.heap.size := by omega
  go_wp2
  have hX := alloc_old (o := .cells #[.slice none 0 0, .int .i64 0, .slice none 0 0, .slice none 0 0] 117) (set_block (i := 1) (u := .int .i64 0) (set_block (i := 0) (u := .slice none 0 0) HT2.out))
  have x0 := block_cell (i := 0) (v := .slice none 0 0) hX rfl
  have x1 := block_cell (i := 1) (v := .int .i64 0) hX rfl
  refine bodyPost_ret (v := .tuple #[.agg #[.slice none 0 0, .int .i64 0], .int .i64 7]) (by simp [results, Try.results38, go_sem, x0, x1]) rfl ⟨rfl, ?_⟩
  exact (HB2.out.grown (st2_grown w2 (w.heap.size + 1) 0 (.slice none 0 0) (.int .i64 0)) (by omega) (fun q hq => by have := Option.some.inj hq; omega)).alloc (by have := (st2_grown w2 (w.heap.size + 1) 0 (.slice none 0 0) (.int .i64 0)).size; omega) _

set_option maxHeartbeats 4000000 in
set_option maxRecDepth 100000 in
theorem mirror_yes (v : Value) (C : List Cr) (loops : Int) (w : World) (hm : mayD C loops = true) (h : Crs w w.heap.size v C) :
    Calls Try.prog 38 #[.agg #[v, .int .i64 loops]] w fun e w' => ∃ r, e = .returned (.tuple #[.agg #[r, .int .i64 loops], .int .i64 0]) ∧ Crs w' w'.heap.size r (C.map mirX) ∧ Below w.heap.size w w' := by
  obtain ⟨s1, -, -, -⟩ := sizeB_iff (may_size hm)
  have HC : Hid (Crs w w.heap.size v C) := h
  have HM : Hid (mayD C loops = true) := hm
  obtain ⟨a, cap, rfl, hn, -⟩ := h
  have HB1 : Hid (Below w.heap.size w ((w.alloc (.cells #[.slice a C.length cap, .int .i64 loops] 35)).alloc (.cells #[.slice none 0 0, .int .i64 0] 35))) := below2 _ _ _
  have HT1 : Hid (((w.alloc (.cells #[.slice a C.length cap, .int .i64 loops] 35)).alloc (.cells #[.slice none 0 0, .int .i64 0] 35)).heap[w.heap.size + 1]? = some (.cells #[.slice none 0 0, .int .i64 0] 35 (0, 0))) := alloc_at (by simp)
  go_enter Try.func38, Try.ntmps38
  go_wp2_with (go_at_call 84; refine (of_any _ C loops _ (HC.out.up HB1.out)).mono ?_; rw [hm]; rintro e9 w2 ⟨d, rfl, hb2, hd⟩; obtain ⟨gF, cF, gT, cT, rfl, hdr⟩ := hd.dr HM.out hb2 (HC.out.up HB1.out); refine Hid.out ?_)
  refine Lib.hid ?_
  have HDR : Hid (Dr w2 a cap C gF gT) := hdr
  unfold drV
  have HB2 : Hid (Below w.heap.size w w2) := HB1.out.trans (hb2.mono HB1.out.size)
  have HT2 : Hid (w2.heap[w.heap.size + 1]? = some (.cells #[.slice none 0 0, .int .i64 0] 35 (0, 0))) := (hb2.block _ (by simp)).trans HT1.out
  have hs2 : w.heap.size + 2 ≤ w2.heap.size := by have := hb2.size; simpa using this
  have HBA : Hid (Below w2.heap.size w2 (w2.alloc (.cells #[.slice a C.length cap, .int .i64 loops, .slice (some ⟨gF, 0, none⟩) (2 * C.length + 1) cF, .slice (some ⟨gT, 0, none⟩) (2 * C.length + 1) cT] 117))) := (Below.refl _ _).alloc (Nat.le_refl _) _
  clear hb2 hd hdr hm
  go_wp2_with (go_at_call 100; refine (mirrored_any a cap C loops gF cF gT cT _ s1 (HDR.out.crs.up HBA.out)).mono ?_; rintro e9 w3 ⟨r, rfl, hr, hb3⟩; refine Hid.out ?_)
  refine Lib.hid ?_
  have HR : Hid (w3.ownsRow (w.heap.size + 2) 61 5 r (C.map mirX).length (crossCells (C.map mirX))) := own_low hr (by simp; omega)
  have HB3 : Hid (Below w.heap.size w w3) := (HB2.out.trans (HBA.out.mono HB2.out.size)).trans (hb3.mono (by simp; omega))
  have HT3 : Hid (w3.heap[w.heap.size + 1]? = some (.cells #[.slice none 0 0, .int .i64 0] 35 (0, 0))) := (hb3.block _ (by simp; omega)).trans (alloc_old HT2.out)
  have hs3 : w.heap.size + 2 ≤ w3.heap.size := by have := hb3.size; simp at this; omega
  clear hr hb3
  obtain ⟨a3, c3', ev3⟩ := own_capS HR.out
  rw [List.length_map] at ev3
  subst ev3
  have r0 : w3.cell? ⟨w.heap.size + 1, 0, none⟩ = some (.slice none 0 0) := block_cell HT3.out rfl
  have r1 : w3.cell? ⟨w.heap.size + 1, 1, none⟩ = some (.int .i64 0) := block_cell HT3.out rfl
  have f0 : w3.frozen? ⟨w.heap.size + 1, 0, none⟩ = false := block_frozen HT3.out
  have f1 : w3.frozen? ⟨w.heap.size + 1, 1, none⟩ = false := block_frozen HT3.out
  have hl : w.heap.size + 1 < w3.heap.size := by omega
  go_wp2
  have hX := set_block (i := 1) (u := .int .i64 loops) (set_block (i := 0) (u := .slice a3 C.length c3') HT3.out)
  have x0 := block_cell (i := 0) (v := .slice a3 C.length c3') hX rfl
  have x1 := block_cell (i := 1) (v := .int .i64 loops) hX rfl
  have hk := HR.out.kept (st2_grown w3 (w.heap.size + 1) 0 (.slice a3 C.length c3') (.int .i64 loops)) (by
    cases hv : (Value.slice a3 C.length c3').ownBlock with
    | none => exact Or.inl rfl
    | some k => exact Or.inr (fun e => by have h1 := (HR.out.lt k hv).1; have h2 := Option.some.inj e; omega))
  exact bodyPost_ret (v := .tuple #[.agg #[.slice a3 C.length c3', .int .i64 loops], .int .i64 0]) (by simp [results, Try.results38, go_sem, x0, x1]) rfl ⟨_, rfl, crs_own hk (by unfold maxLen; simp; omega), HB3.out.grown (st2_grown w3 (w.heap.size + 1) 0 (.slice a3 C.length c3') (.int .i64 loops)) (by omega) (fun q hq => by have := Option.some.inj hq; omega)⟩
end Go.Proofs.Ytiighhmgegkemaa
