/- Several texts of the proof, one behind the other. -/
import Derived.Test.YtkbapnjlnnggaaaK5
import Derived.Test.YtkbapnjlnnggaaaW4
import Derived.Test.YtkbapnjlnnggaaaW5P
/- The walk of ref.ReverseOf. -/
namespace Go.Proofs.Ytkbapnjlnnggaaa
open Go.RowKit

theorem below_set {B : Nat} {W w : World} (h : Below B W w) {s : Nat} (hs : B ≤ s) (i : Nat) (u : Value) : Below B W (w.setCell ⟨s, i, none⟩ u) := by
  refine ⟨h.os, h.tape, h.output, ?_, fun k hk => ?_⟩
  · have := h.size
    simpa using this
  · exact (heap_setCell_other w ⟨s, i, none⟩ k u (fun e => by simp only at e; omega)).trans (h.block k hk)

end Go.Proofs.Ytkbapnjlnnggaaa
/- The walks of ref.ReverseOf where there is no such part, and of canon.Reverse where the diagram may not be or has no such part. -/
namespace Go.Proofs.Ytkbapnjlnnggaaa
open Go.RowKit

/-- There is no such part. -/
def NoPart (C : List Cr) (part : Int) : Prop := part < 0 ∨ ((walksM C).length : Int) ≤ part

set_option maxHeartbeats 2000000 in
set_option maxRecDepth 100000 in
theorem reverse_no (v : Value) (C : List Cr) (loops : Int) (part : Int) (w : World) (hm : mayD C loops = false) (h : Crs w w.heap.size v C) :
    Calls Try.prog 15 #[.agg #[v, .int .i64 loops], .int .i64 part] w fun e w' => e = .returned (.tuple #[.agg #[.slice none 0 0, .int .i64 0], .int .i64 7]) ∧ Below w.heap.size w w' := by
  have HC : Hid (Crs w w.heap.size v C) := h
  obtain ⟨a, cap, rfl, hn, -⟩ := h
  have HB1 : Hid (Below w.heap.size w ((w.alloc (.cells #[.slice a C.length cap, .int .i64 loops] 24)).alloc (.cells #[.slice none 0 0, .int .i64 0] 24))) := below2 _ _ _
  have HT1 : Hid (((w.alloc (.cells #[.slice a C.length cap, .int .i64 loops] 24)).alloc (.cells #[.slice none 0 0, .int .i64 0] 24)).heap[w.heap.size + 1]? = some (.cells #[.slice none 0 0, .int .i64 0] 24 (0, 0))) := alloc_at (by simp)
  go_enter Try.func15, Try.ntmps15
  go_wp2_with (go_at_call 35; refine (of_any _ C loops _ (HC.out.up HB1.out)).mono ?_; rw [hm]; rintro e9 w2 ⟨d, rfl, hb2, hd⟩; rw [hd.no hm]; refine Hid.out ?_)
  refine Lib.hid ?_
  unfold noDrawing
  have HB2 : Hid (Below w.heap.size w w2) := HB1.out.trans (hb2.mono HB1.out.size)
  have HT2 : Hid (w2.heap[w.heap.size + 1]? = some (.cells #[.slice none 0 0, .int .i64 0] 24 (0, 0))) := (hb2.block _ (by simp)).trans HT1.out
  have hs2 : w.heap.size + 2 ≤ w2.heap.size := by have := hb2.size; simpa using this
  clear hb2 hd
  have r0 : w2.cell? ⟨w.heap.size + 1, 0, none⟩ = some (.slice none 0 0) := block_cell HT2.out rfl
  have r1 : w2.cell? ⟨w.heap.size + 1, 1, none⟩ = some (.int .i64 0) := block_cell HT2.out rfl
  have f0 : w2.frozen? ⟨w.heap.size + 1, 0, none⟩ = false := block_frozen HT2.out
  have f1 : w2.frozen? ⟨w.heap.size + 1, 1, none⟩ = false := block_frozen HT2.out
  have hl : w.heap.size + 1 < w2.heap.size := by omega
  go_wp2
  have hX := alloc_old (o := .cells #[.slice none 0 0, .int .i64 0, .slice none 0 0, .slice none 0 0] 71) (set_block (i := 1) (u := .int .i64 0) (set_block (i := 0) (u := .slice none 0 0) HT2.out))
  have x0 := block_cell (i := 0) (v := .slice none 0 0) hX rfl
  have x1 := block_cell (i := 1) (v := .int .i64 0) hX rfl
  refine bodyPost_ret (v := .tuple #[.agg #[.slice none 0 0, .int .i64 0], .int .i64 7]) (by simp [results, Try.results15, go_sem, x0, x1]) rfl ⟨rfl, ?_⟩
  exact (HB2.out.grown (st2_grown w2 (w.heap.size + 1) 0 (.slice none 0 0) (.int .i64 0)) (by omega) (fun q hq => by have := Option.some.inj hq; omega)).alloc (by have := (st2_grown w2 (w.heap.size + 1) 0 (.slice none 0 0) (.int .i64 0)).size; omega) _

set_option maxHeartbeats 4000000 in
set_option maxRecDepth 100000 in
theorem reverse_none (v : Value) (C : List Cr) (loops : Int) (part : Int) (w : World) (hm : mayD C loops = true) (h : Crs w w.heap.size v C) (hp : NoPart C part) :
    Calls Try.prog 15 #[.agg #[v, .int .i64 loops], .int .i64 part] w fun e w' => e = .returned (.tuple #[.agg #[.slice none 0 0, .int .i64 0], .int .i64 3]) ∧ Below w.heap.size w w' := by
  obtain ⟨s1, -, -, -⟩ := sizeB_iff (may_size hm)
  have hlL := (walksM_facts hm).1
  have HC : Hid (Crs w w.heap.size v C) := h
  have HM : Hid (mayD C loops = true) := hm
  obtain ⟨a, cap, rfl, hn, -⟩ := h
  have HB1 : Hid (Below w.heap.size w ((w.alloc (.cells #[.slice a C.length cap, .int .i64 loops] 24)).alloc (.cells #[.slice none 0 0, .int .i64 0] 24))) := below2 _ _ _
  have HT1 : Hid (((w.alloc (.cells #[.slice a C.length cap, .int .i64 loops] 24)).alloc (.cells #[.slice none 0 0, .int .i64 0] 24)).heap[w.heap.size + 1]? = some (.cells #[.slice none 0 0, .int .i64 0] 24 (0, 0))) := alloc_at (by simp)
  go_enter Try.func15, Try.ntmps15
  go_wp2_with (go_at_call 35; refine (of_any _ C loops _ (HC.out.up HB1.out)).mono ?_; rw [hm]; rintro e9 w2 ⟨d, rfl, hb2, hd⟩; obtain ⟨gF, cF, gT, cT, rfl, hdr⟩ := hd.dr HM.out hb2 (HC.out.up HB1.out); refine Hid.out ?_)
  refine Lib.hid ?_
  have HDR : Hid (Dr w2 a cap C gF gT) := hdr
  unfold drV
  have HB2 : Hid (Below w.heap.size w w2) := HB1.out.trans (hb2.mono HB1.out.size)
  have HT2 : Hid (w2.heap[w.heap.size + 1]? = some (.cells #[.slice none 0 0, .int .i64 0] 24 (0, 0))) := (hb2.block _ (by simp)).trans HT1.out
  have hs2 : w.heap.size + 2 ≤ w2.heap.size := by have := hb2.size; simpa using this
  have HBA : Hid (Below w2.heap.size w2 (w2.alloc (.cells #[.slice a C.length cap, .int .i64 loops, .slice (some ⟨gF, 0, none⟩) (2 * C.length + 1) cF, .slice (some ⟨gT, 0, none⟩) (2 * C.length + 1) cT] 71))) := (Below.refl _ _).alloc (Nat.le_refl _) _
  clear hb2 hd hdr hm
  go_wp2_with (go_at_call 39; refine (walks_any a cap C loops gF cF gT cT _ HM.out (HDR.out.on HBA.out)).mono ?_; rintro e9 w3 ⟨r, rfl, hr, hb3⟩; refine Hid.out ?_)
  refine Lib.hid ?_
  have HB3 : Hid (Below w.heap.size w w3) := (HB2.out.trans (HBA.out.mono HB2.out.size)).trans (hb3.mono (by simp; omega))
  have HT3 : Hid (w3.heap[w.heap.size + 1]? = some (.cells #[.slice none 0 0, .int .i64 0] 24 (0, 0))) := (hb3.block _ (by simp; omega)).trans (alloc_old HT2.out)
  have hs3 : w.heap.size + 2 ≤ w3.heap.size := by have := hb3.size; simp at this; omega
  obtain ⟨ys, hyl, ⟨ar, cr, rfl, -⟩, -⟩ := hr.wks
  rw [hyl]
  clear hr hb3 hyl
  have r0 : w3.cell? ⟨w.heap.size + 1, 0, none⟩ = some (.slice none 0 0) := block_cell HT3.out rfl
  have r1 : w3.cell? ⟨w.heap.size + 1, 1, none⟩ = some (.int .i64 0) := block_cell HT3.out rfl
  have f0 : w3.frozen? ⟨w.heap.size + 1, 0, none⟩ = false := block_frozen HT3.out
  have f1 : w3.frozen? ⟨w.heap.size + 1, 1, none⟩ = false := block_frozen HT3.out
  have hl : w.heap.size + 1 < w3.heap.size := by omega
  unfold NoPart at hp
  generalize (walksM C).length = L at hp hlL ⊢
  have hX := set_block (i := 1) (u := .int .i64 0) (set_block (i := 0) (u := .slice none 0 0) HT3.out)
  have x0 := block_cell (i := 0) (v := .slice none 0 0) hX rfl
  have x1 := block_cell (i := 1) (v := .int .i64 0) hX rfl
  have HX0 : Hid (((w3.setCell ⟨w.heap.size + 1, 0, none⟩ (.slice none 0 0)).setCell ⟨w.heap.size + 1, 1, none⟩ (.int .i64 0)).cell? ⟨w.heap.size + 1, 0, none⟩ = some (.slice none 0 0)) := x0
  have HX1 : Hid (((w3.setCell ⟨w.heap.size + 1, 0, none⟩ (.slice none 0 0)).setCell ⟨w.heap.size + 1, 1, none⟩ (.int .i64 0)).cell? ⟨w.heap.size + 1, 1, none⟩ = some (.int .i64 0)) := x1
  clear hX x0 x1
  have HBF : Hid (Below w.heap.size w (st2 w3 (w.heap.size + 1) 0 (.slice none 0 0) (.int .i64 0))) := HB3.out.grown (st2_grown w3 (w.heap.size + 1) 0 (.slice none 0 0) (.int .i64 0)) (by omega) (fun q hq => by have := Option.some.inj hq; omega)
  by_cases h0 : part < 0
  · have hd : decide (part < 0) = true := by simpa using h0
    go_wp2
    exact bodyPost_ret (v := .tuple #[.agg #[.slice none 0 0, .int .i64 0], .int .i64 3]) (by simp [results, Try.results15, go_sem, HX0.out, HX1.out]) rfl ⟨rfl, HBF.out⟩
  · have hd : decide (part < 0) = false := by simpa using h0
    have hd2 : decide ((L : Int) ≤ part) = true := by simp; omega
    go_wp2
    exact bodyPost_ret (v := .tuple #[.agg #[.slice none 0 0, .int .i64 0], .int .i64 3]) (by simp [results, Try.results15, go_sem, HX0.out, HX1.out]) rfl ⟨rfl, HBF.out⟩
end Go.Proofs.Ytkbapnjlnnggaaa
