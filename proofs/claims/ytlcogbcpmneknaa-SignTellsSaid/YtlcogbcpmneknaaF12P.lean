/- Several texts of the proof, one behind the other. -/
import Derived.Test.YtlcogbcpmneknaaF8P
import Derived.Test.YtlcogbcpmneknaaW3P
import Derived.Test.YtlcogbcpmneknaaW4
/- The walks of code.May, code.Faces and code.Planar. -/
namespace Go.Proofs.Ytlcogbcpmneknaa
open Go.RowKit

theorem DartsOwn.low {w : World} {B B' : Nat} {v : Value} {L : List (List Nat)} (h : DartsOwn w B v L) (hB : B' ≤ B) : DartsOwn w B' v L := by
  obtain ⟨ys, h1, h2, h3⟩ := h
  exact ⟨ys, h1, own_low h2 hB, fun j hj => own_low (h3 j hj) hB⟩
theorem DartsOwn.any {w w' : World} {B : Nat} {v : Value} {L : List (List Nat)} (h : DartsOwn w B v L) (hg : w.grownBy w' none) : DartsOwn w' B v L := by
  obtain ⟨ys, h1, h2, h3⟩ := h
  exact ⟨ys, h1, own_any h2 hg, fun j hj => own_any (h3 j hj) hg⟩

end Go.Proofs.Ytlcogbcpmneknaa
/- The walks of drawing.Flat and of ref.PlanarMay. -/
namespace Go.Proofs.Ytlcogbcpmneknaa
open Go.RowKit

/-- What is wrong with a diagram that shall lie on a sphere. -/
def noN (C : List Cr) (loops : Int) : Int := if mayD C loops = true then (if planarB C = true then 0 else 5) else 7

theorem Drawn.dr2 {w w' : World} {a : Option Addr} {cap : Nat} {loops : Int} {C : List Cr} {D : Value} (h : Drawn w w' w.heap.size (.slice a C.length cap) loops C D) (hm : mayD C loops = true) (hb : Below w.heap.size w w') (hC : Crs w w.heap.size (.slice a C.length cap) C) :
    ∃ gF cF gT cT, D = drV a cap C loops gF cF gT cT ∧ Dr w' a cap C gF gT ∧ w'.ownsRow w.heap.size 90 2 (.slice (some ⟨gF, 0, none⟩) (2 * C.length + 1) cF) (2 * C.length + 1) (flat (ends C false C.length 0)) ∧
    w'.ownsRow w.heap.size 90 2 (.slice (some ⟨gT, 0, none⟩) (2 * C.length + 1) cT) (2 * C.length + 1) (flat (ends C true C.length 0)) := by
  obtain ⟨gF, cF, gT, cT, rfl, h1, h2⟩ := h.yes hm
  exact ⟨gF, cF, gT, cT, rfl, ⟨hC.up hb, (h1.lt gF rfl).2, (h2.lt gT rfl).2, own_terms h1 (ends_length _ _ _ _), own_terms h2 (ends_length _ _ _ _)⟩, h1, h2⟩

set_option maxHeartbeats 2000000 in
set_option maxRecDepth 100000 in
theorem flat_no (v : Value) (C : List Cr) (loops : Int) (w : World) (hm : mayD C loops = false) (h : Crs w w.heap.size v C) :
    Calls Try.prog 40 #[.agg #[v, .int .i64 loops]] w fun e w' => e = .returned (.tuple #[noDrawing, .int .i64 7]) ∧ Below w.heap.size w w' := by
  have HC : Hid (Crs w w.heap.size v C) := h
  obtain ⟨a, cap, rfl, hn, -⟩ := h
  have HB1 : Hid (Below w.heap.size w ((w.alloc (.cells #[.slice a C.length cap, .int .i64 loops] 24)).alloc (.cells #[.slice none 0 0, .int .i64 0, .slice none 0 0, .slice none 0 0] 39))) := below2 _ _ _
  go_enter Try.func40, Try.ntmps40
  go_wp2_with (go_at_call 48; refine (of_any _ C loops _ (HC.out.up HB1.out)).mono ?_; rw [hm]; rintro e9 w2 ⟨d, rfl, hb2, hd⟩; rw [hd.no hm]; refine Hid.out ?_)
  refine Lib.hid ?_
  unfold noDrawing
  have HB2 : Hid (Below w.heap.size w w2) := HB1.out.trans (hb2.mono (by simp; omega))
  have hR : w2.heap[w.heap.size + 1]? = some (.cells #[.slice none 0 0, .int .i64 0, .slice none 0 0, .slice none 0 0] 39 (0, 0)) := (hb2.block _ (by simp)).trans (alloc_at (by simp))
  have hs2 : w.heap.size + 2 ≤ w2.heap.size := by have := hb2.size; simpa using this
  have HR : Hid (w2.heap[w.heap.size + 1]? = some (.cells #[.slice none 0 0, .int .i64 0, .slice none 0 0, .slice none 0 0] 39 (0, 0))) := hR
  have c0 : w2.cell? ⟨w.heap.size + 1, 0, none⟩ = some (.slice none 0 0) := block_cell hR rfl
  have c1 : w2.cell? ⟨w.heap.size + 1, 1, none⟩ = some (.int .i64 0) := block_cell hR rfl
  have c2 : w2.cell? ⟨w.heap.size + 1, 2, none⟩ = some (.slice none 0 0) := block_cell hR rfl
  have c3 : w2.cell? ⟨w.heap.size + 1, 3, none⟩ = some (.slice none 0 0) := block_cell hR rfl
  have f0 : w2.frozen? ⟨w.heap.size + 1, 0, none⟩ = false := block_frozen hR
  have f1 : w2.frozen? ⟨w.heap.size + 1, 1, none⟩ = false := block_frozen hR
  have f2 : w2.frozen? ⟨w.heap.size + 1, 2, none⟩ = false := block_frozen hR
  have f3 : w2.frozen? ⟨w.heap.size + 1, 3, none⟩ = false := block_frozen hR
  have l2 : w.heap.size + 1 < w2.heap.size := by omega
  clear hb2 hd hR
  go_wp2
  have hX := alloc_old (o := .cells #[.slice none 0 0, .int .i64 0, .slice none 0 0, .slice none 0 0] 39) (st4_block (a := .slice none 0 0) (b := .int .i64 0) (c := .slice none 0 0) (d := .slice none 0 0) HR.out)
  have x0 := block_cell (i := 0) (v := .slice none 0 0) hX rfl
  have x1 := block_cell (i := 1) (v := .int .i64 0) hX rfl
  have x2 := block_cell (i := 2) (v := .slice none 0 0) hX rfl
  have x3 := block_cell (i := 3) (v := .slice none 0 0) hX rfl
  unfold st4 at x0 x1 x2 x3
  have hbb := (HB2.out.grown (st4_grown w2 (w.heap.size + 1) (.slice none 0 0) (.int .i64 0) (.slice none 0 0) (.slice none 0 0)) HB2.out.size (fun k hk => by have := Option.some.inj hk; omega)).alloc (Nat.le_trans HB2.out.size (st4_grown w2 (w.heap.size + 1) (.slice none 0 0) (.int .i64 0) (.slice none 0 0) (.slice none 0 0)).size) (.cells #[.slice none 0 0, .int .i64 0, .slice none 0 0, .slice none 0 0] 39)
  exact bodyPost_ret (v := .tuple #[.agg #[.slice none 0 0, .int .i64 0, .slice none 0 0, .slice none 0 0], .int .i64 7]) (by simp [results, Try.results40, go_sem, x0, x1, x2, x3]) rfl ⟨rfl, hbb⟩

set_option maxHeartbeats 4000000 in
set_option maxRecDepth 100000 in
theorem flat_bad (hFR : FaceRingsOk) (v : Value) (C : List Cr) (loops : Int) (w : World) (hm : mayD C loops = true) (hp : planarB C = false) (h : Crs w w.heap.size v C) :
    Calls Try.prog 40 #[.agg #[v, .int .i64 loops]] w fun e w' => e = .returned (.tuple #[noDrawing, .int .i64 5]) ∧ Below w.heap.size w w' := by
  have HC : Hid (Crs w w.heap.size v C) := h
  have HFA : Hid FaceRingsOk := hFR
  have HM : Hid (mayD C loops = true) := hm
  have HP : Hid (planarB C = false) := hp
  obtain ⟨a, cap, rfl, hn, -⟩ := h
  have HB1 : Hid (Below w.heap.size w ((w.alloc (.cells #[.slice a C.length cap, .int .i64 loops] 24)).alloc (.cells #[.slice none 0 0, .int .i64 0, .slice none 0 0, .slice none 0 0] 39))) := below2 _ _ _
  go_enter Try.func40, Try.ntmps40
  go_wp2_with (go_at_call 48; refine (of_any _ C loops _ (HC.out.up HB1.out)).mono ?_; rw [hm]; rintro e9 w2 ⟨d, rfl, hb2, hd⟩; obtain ⟨gF, cF, gT, cT, rfl, hdr⟩ := hd.dr HM.out hb2 (HC.out.up HB1.out); refine Hid.out ?_)
  refine Lib.hid ?_
  have HDR : Hid (Dr w2 a cap C gF gT) := hdr
  unfold drV
  have HB2 : Hid (Below w.heap.size w w2) := HB1.out.trans (hb2.mono (by simp; omega))
  have hR : w2.heap[w.heap.size + 1]? = some (.cells #[.slice none 0 0, .int .i64 0, .slice none 0 0, .slice none 0 0] 39 (0, 0)) := (hb2.block _ (by simp)).trans (alloc_at (by simp))
  have hs2 : w.heap.size + 2 ≤ w2.heap.size := by have := hb2.size; simpa using this
  have HR : Hid (w2.heap[w.heap.size + 1]? = some (.cells #[.slice none 0 0, .int .i64 0, .slice none 0 0, .slice none 0 0] 39 (0, 0))) := hR
  have HBA : Hid (Below w2.heap.size w2 (w2.alloc (.cells #[.slice a C.length cap, .int .i64 loops, .slice (some ⟨gF, 0, none⟩) (2 * C.length + 1) cF, .slice (some ⟨gT, 0, none⟩) (2 * C.length + 1) cT] 39))) := (Below.refl _ _).alloc (Nat.le_refl _) _
  clear hb2 hd hdr hm hR hp
  go_wp2_with (go_at_call 49; refine (onSphere_any HFA.out a cap C loops gF cF gT cT _ HM.out (HDR.out.on HBA.out)).mono ?_; rw [HP.out]; rintro e9 w3 ⟨rfl, hb3⟩; refine Hid.out ?_)
  refine Lib.hid ?_
  have HB23 : Hid (Below w2.heap.size w2 w3) := HBA.out.trans (hb3.mono (by simp))
  have HB3 : Hid (Below w.heap.size w w3) := HB2.out.trans (HB23.out.mono HB2.out.size)
  have hR : w3.heap[w.heap.size + 1]? = some (.cells #[.slice none 0 0, .int .i64 0, .slice none 0 0, .slice none 0 0] 39 (0, 0)) := (HB23.out.block _ (by omega)).trans HR.out
  have hQ : w3.heap[w2.heap.size]? = some (.cells #[.slice a C.length cap, .int .i64 loops, .slice (some ⟨gF, 0, none⟩) (2 * C.length + 1) cF, .slice (some ⟨gT, 0, none⟩) (2 * C.length + 1) cT] 39 (0, 0)) := (hb3.block _ (by simp)).trans (alloc_at rfl)
  have hs3 : w2.heap.size + 1 ≤ w3.heap.size := by have := hb3.size; simpa using this
  have HR3 : Hid (w3.heap[w.heap.size + 1]? = some (.cells #[.slice none 0 0, .int .i64 0, .slice none 0 0, .slice none 0 0] 39 (0, 0))) := hR
  have c0 : w3.cell? ⟨w.heap.size + 1, 0, none⟩ = some (.slice none 0 0) := block_cell hR rfl
  have c1 : w3.cell? ⟨w.heap.size + 1, 1, none⟩ = some (.int .i64 0) := block_cell hR rfl
  have c2 : w3.cell? ⟨w.heap.size + 1, 2, none⟩ = some (.slice none 0 0) := block_cell hR rfl
  have c3 : w3.cell? ⟨w.heap.size + 1, 3, none⟩ = some (.slice none 0 0) := block_cell hR rfl
  have f0 : w3.frozen? ⟨w.heap.size + 1, 0, none⟩ = false := block_frozen hR
  have f1 : w3.frozen? ⟨w.heap.size + 1, 1, none⟩ = false := block_frozen hR
  have f2 : w3.frozen? ⟨w.heap.size + 1, 2, none⟩ = false := block_frozen hR
  have f3 : w3.frozen? ⟨w.heap.size + 1, 3, none⟩ = false := block_frozen hR
  have d0 : w3.cell? ⟨w2.heap.size, 0, none⟩ = some (.slice a C.length cap) := block_cell hQ rfl
  have d1 : w3.cell? ⟨w2.heap.size, 1, none⟩ = some (.int .i64 loops) := block_cell hQ rfl
  have d2 : w3.cell? ⟨w2.heap.size, 2, none⟩ = some (.slice (some ⟨gF, 0, none⟩) (2 * C.length + 1) cF) := block_cell hQ rfl
  have d3 : w3.cell? ⟨w2.heap.size, 3, none⟩ = some (.slice (some ⟨gT, 0, none⟩) (2 * C.length + 1) cT) := block_cell hQ rfl
  have l2 : w.heap.size + 1 < w3.heap.size := by omega
  have l3 : w2.heap.size < w3.heap.size := by omega
  clear hb3 hR hQ
  go_wp2
  have hG := st4_grown w3 (w.heap.size + 1) (.slice none 0 0) (.int .i64 0) (.slice none 0 0) (.slice none 0 0)
  have hX := st4_block (a := .slice none 0 0) (b := .int .i64 0) (c := .slice none 0 0) (d := .slice none 0 0) HR3.out
  have x0 := block_cell (i := 0) (v := .slice none 0 0) hX rfl
  have x1 := block_cell (i := 1) (v := .int .i64 0) hX rfl
  have x2 := block_cell (i := 2) (v := .slice none 0 0) hX rfl
  have x3 := block_cell (i := 3) (v := .slice none 0 0) hX rfl
  have hbb := HB3.out.grown hG HB3.out.size (fun k hk => by have := Option.some.inj hk; omega)
  unfold st4 at x0 x1 x2 x3
  exact bodyPost_ret (v := .tuple #[.agg #[.slice none 0 0, .int .i64 0, .slice none 0 0, .slice none 0 0], .int .i64 5]) (by simp [results, Try.results40, go_sem, x0, x1, x2, x3]) rfl ⟨rfl, hbb⟩

set_option maxHeartbeats 4000000 in
set_option maxRecDepth 100000 in
theorem flat_yesB (hFR : FaceRingsOk) (a : Option Addr) (cap : Nat) (C : List Cr) (loops : Int) (w : World) (hm : mayD C loops = true) (hp : planarB C = true) (h : Crs w w.heap.size (.slice a C.length cap) C) :
    Calls Try.prog 40 #[.agg #[.slice a C.length cap, .int .i64 loops]] w fun e w' => ∃ gF cF gT cT, e = .returned (.tuple #[drV a cap C loops gF cF gT cT, .int .i64 0]) ∧ (Dr w' a cap C gF gT ∧ w.heap.size ≤ gF ∧ w.heap.size ≤ gT) ∧ Below w.heap.size w w' := by
  have HC : Hid (Crs w w.heap.size (.slice a C.length cap) C) := h
  have HFA : Hid FaceRingsOk := hFR
  have HM : Hid (mayD C loops = true) := hm
  have HP : Hid (planarB C = true) := hp
  have HB1 : Hid (Below w.heap.size w ((w.alloc (.cells #[.slice a C.length cap, .int .i64 loops] 24)).alloc (.cells #[.slice none 0 0, .int .i64 0, .slice none 0 0, .slice none 0 0] 39))) := below2 _ _ _
  go_enter Try.func40, Try.ntmps40
  go_wp2_with (go_at_call 48; refine (of_any _ C loops _ (HC.out.up HB1.out)).mono ?_; rw [hm]; rintro e9 w2 ⟨d, rfl, hb2, hd⟩; obtain ⟨gF, cF, gT, cT, rfl, hdr, hF, hT⟩ := hd.dr2 HM.out hb2 (HC.out.up HB1.out); refine Hid.out ?_)
  refine Lib.hid ?_
  have HDR : Hid (Dr w2 a cap C gF gT) := hdr
  have HF : Hid (w2.ownsRow (w.heap.size + 2) 90 2 (.slice (some ⟨gF, 0, none⟩) (2 * C.length + 1) cF) (2 * C.length + 1) (flat (ends C false C.length 0))) := own_low hF (by simp)
  have HT : Hid (w2.ownsRow (w.heap.size + 2) 90 2 (.slice (some ⟨gT, 0, none⟩) (2 * C.length + 1) cT) (2 * C.length + 1) (flat (ends C true C.length 0))) := own_low hT (by simp)
  unfold drV
  have HB2 : Hid (Below w.heap.size w w2) := HB1.out.trans (hb2.mono (by simp; omega))
  have hR : w2.heap[w.heap.size + 1]? = some (.cells #[.slice none 0 0, .int .i64 0, .slice none 0 0, .slice none 0 0] 39 (0, 0)) := (hb2.block _ (by simp)).trans (alloc_at (by simp))
  have hs2 : w.heap.size + 2 ≤ w2.heap.size := by have := hb2.size; simpa using this
  have HR : Hid (w2.heap[w.heap.size + 1]? = some (.cells #[.slice none 0 0, .int .i64 0, .slice none 0 0, .slice none 0 0] 39 (0, 0))) := hR
  have HBA : Hid (Below w2.heap.size w2 (w2.alloc (.cells #[.slice a C.length cap, .int .i64 loops, .slice (some ⟨gF, 0, none⟩) (2 * C.length + 1) cF, .slice (some ⟨gT, 0, none⟩) (2 * C.length + 1) cT] 39))) := (Below.refl _ _).alloc (Nat.le_refl _) _
  clear hb2 hd hdr hm hR hp hF hT
  go_wp2_with (go_at_call 49; refine (onSphere_any HFA.out a cap C loops gF cF gT cT _ HM.out (HDR.out.on HBA.out)).mono ?_; rw [HP.out]; rintro e9 w3 ⟨rfl, hb3⟩; refine Hid.out ?_)
  refine Lib.hid ?_
  have HB23 : Hid (Below w2.heap.size w2 w3) := HBA.out.trans (hb3.mono (by simp))
  have HB3 : Hid (Below w.heap.size w w3) := HB2.out.trans (HB23.out.mono HB2.out.size)
  have hR : w3.heap[w.heap.size + 1]? = some (.cells #[.slice none 0 0, .int .i64 0, .slice none 0 0, .slice none 0 0] 39 (0, 0)) := (HB23.out.block _ (by omega)).trans HR.out
  have hQ : w3.heap[w2.heap.size]? = some (.cells #[.slice a C.length cap, .int .i64 loops, .slice (some ⟨gF, 0, none⟩) (2 * C.length + 1) cF, .slice (some ⟨gT, 0, none⟩) (2 * C.length + 1) cT] 39 (0, 0)) := (hb3.block _ (by simp)).trans (alloc_at rfl)
  have hs3 : w2.heap.size + 1 ≤ w3.heap.size := by have := hb3.size; simpa using this
  have HR3 : Hid (w3.heap[w.heap.size + 1]? = some (.cells #[.slice none 0 0, .int .i64 0, .slice none 0 0, .slice none 0 0] 39 (0, 0))) := hR
  have c0 : w3.cell? ⟨w.heap.size + 1, 0, none⟩ = some (.slice none 0 0) := block_cell hR rfl
  have c1 : w3.cell? ⟨w.heap.size + 1, 1, none⟩ = some (.int .i64 0) := block_cell hR rfl
  have c2 : w3.cell? ⟨w.heap.size + 1, 2, none⟩ = some (.slice none 0 0) := block_cell hR rfl
  have c3 : w3.cell? ⟨w.heap.size + 1, 3, none⟩ = some (.slice none 0 0) := block_cell hR rfl
  have f0 : w3.frozen? ⟨w.heap.size + 1, 0, none⟩ = false := block_frozen hR
  have f1 : w3.frozen? ⟨w.heap.size + 1, 1, none⟩ = false := block_frozen hR
  have f2 : w3.frozen? ⟨w.heap.size + 1, 2, none⟩ = false := block_frozen hR
  have f3 : w3.frozen? ⟨w.heap.size + 1, 3, none⟩ = false := block_frozen hR
  have d0 : w3.cell? ⟨w2.heap.size, 0, none⟩ = some (.slice a C.length cap) := block_cell hQ rfl
  have d1 : w3.cell? ⟨w2.heap.size, 1, none⟩ = some (.int .i64 loops) := block_cell hQ rfl
  have d2 : w3.cell? ⟨w2.heap.size, 2, none⟩ = some (.slice (some ⟨gF, 0, none⟩) (2 * C.length + 1) cF) := block_cell hQ rfl
  have d3 : w3.cell? ⟨w2.heap.size, 3, none⟩ = some (.slice (some ⟨gT, 0, none⟩) (2 * C.length + 1) cT) := block_cell hQ rfl
  have l2 : w.heap.size + 1 < w3.heap.size := by omega
  have l3 : w2.heap.size < w3.heap.size := by omega
  clear hb3 hR hQ
  go_wp2
  have hG := st4_grown w3 (w.heap.size + 1) (.slice a C.length cap) (.int .i64 loops) (.slice (some ⟨gF, 0, none⟩) (2 * C.length + 1) cF) (.slice (some ⟨gT, 0, none⟩) (2 * C.length + 1) cT)
  have hX := st4_block (a := .slice a C.length cap) (b := .int .i64 loops) (c := .slice (some ⟨gF, 0, none⟩) (2 * C.length + 1) cF) (d := .slice (some ⟨gT, 0, none⟩) (2 * C.length + 1) cT) HR3.out
  have x0 := block_cell (i := 0) (v := .slice a C.length cap) hX rfl
  have x1 := block_cell (i := 1) (v := .int .i64 loops) hX rfl
  have x2 := block_cell (i := 2) (v := .slice (some ⟨gF, 0, none⟩) (2 * C.length + 1) cF) hX rfl
  have x3 := block_cell (i := 3) (v := .slice (some ⟨gT, 0, none⟩) (2 * C.length + 1) cT) hX rfl
  have hbb := HB3.out.grown hG HB3.out.size (fun k hk => by have := Option.some.inj hk; omega)
  unfold st4 at x0 x1 x2 x3
  refine bodyPost_ret (v := .tuple #[.agg #[.slice a C.length cap, .int .i64 loops, .slice (some ⟨gF, 0, none⟩) (2 * C.length + 1) cF, .slice (some ⟨gT, 0, none⟩) (2 * C.length + 1) cT], .int .i64 0]) (by simp [results, Try.results40, go_sem, x0, x1, x2, x3]) rfl ⟨gF, cF, gT, cT, rfl, ⟨?_, by have h1 := (HF.out.lt gF rfl).1; omega, by have h1 := (HT.out.lt gT rfl).1; omega⟩, hbb⟩
  have hn := grown_below HB23.out none
  have gF2 := (own_any HF.out hn).kept hG (Or.inr (fun e => by have h1 := (HF.out.lt gF rfl).1; have h2 : gF = w.heap.size + 1 := Option.some.inj e; omega))
  have gT2 := (own_any HT.out hn).kept hG (Or.inr (fun e => by have h1 := (HT.out.lt gT rfl).1; have h2 : gT = w.heap.size + 1 := Option.some.inj e; omega))
  exact ⟨HC.out.up hbb, (gF2.lt gF rfl).2, (gT2.lt gT rfl).2, own_terms gF2 (ends_length _ _ _ _), own_terms gT2 (ends_length _ _ _ _)⟩
set_option maxHeartbeats 4000000 in
set_option maxRecDepth 100000 in
theorem planarMay_any (v : Value) (C : List Cr) (loops : Int) (w : World) (h : Crs w w.heap.size v C) :
    Calls Try.prog 18 #[.agg #[v, .int .i64 loops]] w fun e w' => e = .returned (.int .i64 (noN C loops)) ∧ Below w.heap.size w w' := by
  have HC : Hid (Crs w w.heap.size v C) := h
  obtain ⟨a, cap, rfl, hn, -⟩ := h
  have HB1 : Hid (Below w.heap.size w (w.alloc (.cells #[.slice a C.length cap, .int .i64 loops] 24))) := (Below.refl _ _).alloc (Nat.le_refl _) _
  have HK : Hid (∀ w', Below (w.heap.size + 1) (w.alloc (.cells #[.slice a C.length cap, .int .i64 loops] 24)) w' → w'.cell? ⟨w.heap.size, 0, none⟩ = some (.slice a C.length cap) ∧ w'.cell? ⟨w.heap.size, 1, none⟩ = some (.int .i64 loops)) := fun w' hb => by
    have g := (hb.block w.heap.size (by omega)).trans (alloc_at rfl)
    exact ⟨block_cell g rfl, block_cell g rfl⟩
  cases hm : mayD C loops with
  | false =>
    have hN : noN C loops = 7 := by unfold noN; rw [hm]; rfl
    rw [hN]
    go_enter Try.func18, Try.ntmps18
    go_wp2_with (go_at_call 34; refine (may17_any _ C loops _ (HC.out.up HB1.out)).mono ?_; rw [hm]; rintro e9 w2 ⟨rfl, hb2⟩; have HB2 : Hid (Below w.heap.size w w2) := HB1.out.trans (hb2.mono HB1.out.size); clear hb2)
    go_ret
    exact ⟨rfl, HB2.out⟩
  | true =>
    have HM : Hid (mayD C loops = true) := hm
    cases hp : planarB C with
    | false =>
      have hN : noN C loops = 5 := by unfold noN; rw [hm, hp]; rfl
      rw [hN]
      go_enter Try.func18, Try.ntmps18
      go_wp2_with (first
        | (go_at_call 34; refine (may17_any _ C loops _ (HC.out.up HB1.out)).mono ?_; rw [hm]; rintro e9 w2 ⟨rfl, hb2⟩; have HB2 : Hid (Below w.heap.size w w2) := HB1.out.trans (hb2.mono HB1.out.size); obtain ⟨k0, k1⟩ := HK.out w2 (hb2.mono (by simp)); clear hb2)
        | (go_at_call 35; refine (planarIs_any a cap C loops _ HM.out (HC.out.up HB2.out)).mono ?_; rw [hp]; rintro e9 w3 ⟨rfl, hb3⟩; have HB3 : Hid (Below w.heap.size w w3) := HB2.out.trans (hb3.mono HB2.out.size); clear hb3))
      go_ret
      exact ⟨rfl, HB3.out⟩
    | true =>
      have hN : noN C loops = 0 := by unfold noN; rw [hm, hp]; rfl
      rw [hN]
      go_enter Try.func18, Try.ntmps18
      go_wp2_with (first
        | (go_at_call 34; refine (may17_any _ C loops _ (HC.out.up HB1.out)).mono ?_; rw [hm]; rintro e9 w2 ⟨rfl, hb2⟩; have HB2 : Hid (Below w.heap.size w w2) := HB1.out.trans (hb2.mono HB1.out.size); obtain ⟨k0, k1⟩ := HK.out w2 (hb2.mono (by simp)); clear hb2)
        | (go_at_call 35; refine (planarIs_any a cap C loops _ HM.out (HC.out.up HB2.out)).mono ?_; rw [hp]; rintro e9 w3 ⟨rfl, hb3⟩; have HB3 : Hid (Below w.heap.size w w3) := HB2.out.trans (hb3.mono HB2.out.size); clear hb3))
      go_ret
      exact ⟨rfl, HB3.out⟩
theorem noN_zero {C : List Cr} {loops : Int} (h : noN C loops = 0) : mayD C loops = true ∧ planarB C = true := by
  unfold noN at h
  by_cases hm : mayD C loops = true
  · rw [if_pos hm] at h
    by_cases hp : planarB C = true
    · exact ⟨hm, hp⟩
    · rw [if_neg hp] at h; omega
  · rw [if_neg hm] at h; omega
end Go.Proofs.Ytlcogbcpmneknaa
/- drawing.Single: a drawing on a sphere, of one piece and without loops. -/
namespace Go.Proofs.Ytlcogbcpmneknaa
open Go.RowKit

/-- One piece, and no loops. -/
def oneB (C : List Cr) (loops : Int) : Bool := (decide (0 < C.length) && (List.range C.length).all fun v => decide ((whoM C).getD v 0 = 0)) && decide (loops = 0)
theorem whoM_is {C : List Cr} {loops : Int} (hm : mayD C loops = true) {W : List Nat} (h : Least (arcE C) C.length W) : W = whoM C := h.eq (levR_least (arcE_lt hm) _ (Nat.le_refl _))
theorem one_iff {C : List Cr} {loops : Int} (hm : mayD C loops = true) {P : List Int} {c : Nat} (hP : PcsAll C P c) : c = 1 ↔ (0 < C.length ∧ ∀ v, v < C.length → (whoM C).getD v 0 = 0) := by
  have hW : Least (arcE C) C.length (whoM C) := levR_least (arcE_lt hm) _ (Nat.le_refl _)
  constructor
  · intro h
    subst h
    obtain ⟨v0, h0, -⟩ := hP.used 0 (by omega)
    have hp : 0 < C.length := by omega
    refine ⟨hp, fun v hv => ?_⟩
    have a := hP.vals v hv
    have b := hP.vals 0 hp
    have e : P.getD v 0 = P.getD 0 0 := by omega
    have hc := (hP.same v 0 hv hp).1 e
    have := (hW.2 v hv).2 0 hc
    omega
  · rintro ⟨hp, h⟩
    have b := hP.vals 0 hp
    refine Classical.byContradiction fun hne => ?_
    have hc : 2 ≤ c := by omega
    obtain ⟨u, hu, eu⟩ := hP.used 0 (by omega)
    obtain ⟨v, hv, ev⟩ := hP.used 1 (by omega)
    have e := (hP.same u v hu hv).2 ((hW.same hu hv).1 (by rw [h u hu, h v hv]))
    rw [eu, ev] at e
    omega

set_option maxHeartbeats 4000000 in
set_option maxRecDepth 100000 in
theorem single_no (hFR : FaceRingsOk) (v : Value) (C : List Cr) (loops : Int) (w : World) (hn : noN C loops ≠ 0) (h : Crs w w.heap.size v C) :
    Calls Try.prog 25 #[.agg #[v, .int .i64 loops]] w fun e w' => e = .returned (.tuple #[noDrawing, .int .i64 (noN C loops)]) ∧ Below w.heap.size w w' := by
  have HC : Hid (Crs w w.heap.size v C) := h
  obtain ⟨a, cap, rfl, -, -⟩ := h
  have HF : Hid (∀ W, Crs W W.heap.size (.slice a C.length cap) C → Calls Try.prog 40 #[.agg #[.slice a C.length cap, .int .i64 loops]] W fun e w' => e = .returned (.tuple #[noDrawing, .int .i64 (noN C loops)]) ∧ Below W.heap.size W w') := fun W hW => by
    unfold noN at hn ⊢
    cases hm : mayD C loops with
    | false => exact flat_no _ C loops W hm hW
    | true =>
      cases hp : planarB C with
      | false => exact flat_bad hFR _ C loops W hm hp hW
      | true => rw [hm, hp] at hn; exact absurd rfl hn
  generalize noN C loops = r at hn HF
  have hr0 : (r == 0) = false := beq_eq_false_iff_ne.2 hn
  have HB1 : Hid (Below w.heap.size w ((w.alloc (.cells #[.slice a C.length cap, .int .i64 loops] 24)).alloc (.cells #[.slice none 0 0, .int .i64 0, .slice none 0 0, .slice none 0 0] 39))) := below2 _ _ _
  go_enter Try.func25, Try.ntmps25
  go_wp2_with (go_at_call 40; refine (HF.out _ (HC.out.up HB1.out)).mono ?_; rintro e9 w2 ⟨rfl, hb2⟩; refine Hid.out ?_)
  refine Lib.hid ?_
  unfold noDrawing
  have HB2 : Hid (Below w.heap.size w w2) := HB1.out.trans (hb2.mono (by simp; omega))
  have hR : w2.heap[w.heap.size + 1]? = some (.cells #[.slice none 0 0, .int .i64 0, .slice none 0 0, .slice none 0 0] 39 (0, 0)) := (hb2.block _ (by simp)).trans (alloc_at (by simp))
  have HR : Hid (w2.heap[w.heap.size + 1]? = some (.cells #[.slice none 0 0, .int .i64 0, .slice none 0 0, .slice none 0 0] 39 (0, 0))) := hR
  have hs2 : w.heap.size + 2 ≤ w2.heap.size := by have := hb2.size; simpa using this
  have hA : (w2.alloc (.cells #[.slice none 0 0, .int .i64 0, .slice none 0 0, .slice none 0 0] 39)).heap[w.heap.size + 1]? = some (.cells #[.slice none 0 0, .int .i64 0, .slice none 0 0, .slice none 0 0] 39 (0, 0)) := alloc_old hR
  have HA : Hid ((w2.alloc (.cells #[.slice none 0 0, .int .i64 0, .slice none 0 0, .slice none 0 0] 39)).heap[w.heap.size + 1]? = some (.cells #[.slice none 0 0, .int .i64 0, .slice none 0 0, .slice none 0 0] 39 (0, 0))) := hA
  have HBA : Hid (Below w.heap.size w (w2.alloc (.cells #[.slice none 0 0, .int .i64 0, .slice none 0 0, .slice none 0 0] 39))) := HB2.out.alloc HB2.out.size _
  have c0 : (w2.alloc (.cells #[.slice none 0 0, .int .i64 0, .slice none 0 0, .slice none 0 0] 39)).cell? ⟨w.heap.size + 1, 0, none⟩ = some (.slice none 0 0) := block_cell hA rfl
  have c1 : (w2.alloc (.cells #[.slice none 0 0, .int .i64 0, .slice none 0 0, .slice none 0 0] 39)).cell? ⟨w.heap.size + 1, 1, none⟩ = some (.int .i64 0) := block_cell hA rfl
  have c2 : (w2.alloc (.cells #[.slice none 0 0, .int .i64 0, .slice none 0 0, .slice none 0 0] 39)).cell? ⟨w.heap.size + 1, 2, none⟩ = some (.slice none 0 0) := block_cell hA rfl
  have c3 : (w2.alloc (.cells #[.slice none 0 0, .int .i64 0, .slice none 0 0, .slice none 0 0] 39)).cell? ⟨w.heap.size + 1, 3, none⟩ = some (.slice none 0 0) := block_cell hA rfl
  have f0 : (w2.alloc (.cells #[.slice none 0 0, .int .i64 0, .slice none 0 0, .slice none 0 0] 39)).frozen? ⟨w.heap.size + 1, 0, none⟩ = false := block_frozen hA
  have f1 : (w2.alloc (.cells #[.slice none 0 0, .int .i64 0, .slice none 0 0, .slice none 0 0] 39)).frozen? ⟨w.heap.size + 1, 1, none⟩ = false := block_frozen hA
  have f2 : (w2.alloc (.cells #[.slice none 0 0, .int .i64 0, .slice none 0 0, .slice none 0 0] 39)).frozen? ⟨w.heap.size + 1, 2, none⟩ = false := block_frozen hA
  have f3 : (w2.alloc (.cells #[.slice none 0 0, .int .i64 0, .slice none 0 0, .slice none 0 0] 39)).frozen? ⟨w.heap.size + 1, 3, none⟩ = false := block_frozen hA
  clear hb2 hR hA
  go_wp2
  have hG := st4_grown (w2.alloc (.cells #[.slice none 0 0, .int .i64 0, .slice none 0 0, .slice none 0 0] 39)) (w.heap.size + 1) (.slice none 0 0) (.int .i64 0) (.slice none 0 0) (.slice none 0 0)
  have hX := st4_block (a := .slice none 0 0) (b := .int .i64 0) (c := .slice none 0 0) (d := .slice none 0 0) HA.out
  have x0 := block_cell (i := 0) (v := .slice none 0 0) hX rfl
  have x1 := block_cell (i := 1) (v := .int .i64 0) hX rfl
  have x2 := block_cell (i := 2) (v := .slice none 0 0) hX rfl
  have x3 := block_cell (i := 3) (v := .slice none 0 0) hX rfl
  have hbb := HBA.out.grown hG HBA.out.size (fun k hk => by have := Option.some.inj hk; omega)
  unfold st4 at x0 x1 x2 x3
  exact bodyPost_ret (v := .tuple #[.agg #[.slice none 0 0, .int .i64 0, .slice none 0 0, .slice none 0 0], .int .i64 r]) (by simp [results, Try.results25, go_sem, x0, x1, x2, x3]) rfl ⟨rfl, hbb⟩

/-- What Single answers where the diagram is flat. -/
def SingleOut (C : List Cr) (loops : Int) (ob : Bool) (w : World) (e : Ending) (w' : World) : Prop :=
  (match ob with | true => ∃ a cap gF cF gT cT, e = .returned (.tuple #[drV a cap C loops gF cF gT cT, .int .i64 0]) ∧ Dr w' a cap C gF gT | false => e = .returned (.tuple #[noDrawing, .int .i64 6])) ∧ Below w.heap.size w w'
set_option maxHeartbeats 4000000 in
set_option maxRecDepth 100000 in
theorem single_some (hFR : FaceRingsOk) (v : Value) (C : List Cr) (loops : Int) (w : World) (hn : noN C loops = 0) (h : Crs w w.heap.size v C) :
    Calls Try.prog 25 #[.agg #[v, .int .i64 loops]] w (SingleOut C loops (oneB C loops) w) := by
  have HC : Hid (Crs w w.heap.size v C) := h
  obtain ⟨hm, hp⟩ := noN_zero hn
  have HM : Hid (mayD C loops = true) := hm
  have HP : Hid (planarB C = true) := hp
  have HFA : Hid FaceRingsOk := hFR
  obtain ⟨s1, s2, s3, s4⟩ := sizeB_iff (may_size hm)
  obtain ⟨a, cap, rfl, -, -⟩ := h
  have HO : Hid (∀ P c, PcsAll C P c → oneB C loops = (decide (c = 1) && decide (loops = 0))) := fun P c hP => by
    unfold oneB
    congr 1
    have h1 := one_iff hm hP
    rw [Bool.eq_iff_iff, Bool.and_eq_true, decide_eq_true_eq, decide_eq_true_eq, List.all_eq_true, h1]
    simp only [List.mem_range, decide_eq_true_eq]
  obtain ⟨ob, hob⟩ : ∃ ob, oneB C loops = ob := ⟨_, rfl⟩
  rw [hob] at HO ⊢
  clear hob
  have HB1 : Hid (Below w.heap.size w ((w.alloc (.cells #[.slice a C.length cap, .int .i64 loops] 24)).alloc (.cells #[.slice none 0 0, .int .i64 0, .slice none 0 0, .slice none 0 0] 39))) := below2 _ _ _
  clear hm hp hn hFR
  go_enter Try.func25, Try.ntmps25
  go_wp2_with (go_at_call 40; refine (flat_yesB HFA.out a cap C loops _ HM.out HP.out (HC.out.up HB1.out)).mono ?_; rintro e9 w2 ⟨gF, cF, gT, cT, rfl, ⟨hdr, hgF, hgT⟩, hb2⟩; refine Hid.out ?_)
  refine Lib.hid ?_
  have HDR : Hid (Dr w2 a cap C gF gT) := hdr
  unfold drV
  have HB2 : Hid (Below w.heap.size w w2) := HB1.out.trans (hb2.mono (by simp; omega))
  have HR : Hid (w2.heap[w.heap.size + 1]? = some (.cells #[.slice none 0 0, .int .i64 0, .slice none 0 0, .slice none 0 0] 39 (0, 0))) := (hb2.block _ (by simp)).trans (alloc_at (by simp))
  have hs2 : w.heap.size + 2 ≤ w2.heap.size := by have := hb2.size; simpa using this
  have hgF2 : w.heap.size + 2 ≤ gF := by have := hgF; simp at this; omega
  have HGF : Hid (w.heap.size + 2 ≤ gF) := hgF2
  have hgT2 : w.heap.size + 2 ≤ gT := by have := hgT; simp at this; omega
  have HGT : Hid (w.heap.size + 2 ≤ gT) := hgT2
  have HBA : Hid (Below w2.heap.size w2 (w2.alloc (.cells #[.slice a C.length cap, .int .i64 loops, .slice (some ⟨gF, 0, none⟩) (2 * C.length + 1) cF, .slice (some ⟨gT, 0, none⟩) (2 * C.length + 1) cT] 39))) := (Below.refl _ _).alloc (Nat.le_refl _) _
  clear hb2 hdr hgF hgT hgF2 hgT2
  go_wp2_with (go_at_call 41; refine (pieces_any a cap C loops gF cF gT cT _ HM.out (HDR.out.on HBA.out)).mono ?_; rintro e9 w3 ⟨gP, cP, P, c, rfl, -, hpc, hb3⟩; refine Hid.out ?_)
  refine Lib.hid ?_
  have HOB : Hid (ob = (decide (c = 1) && decide (loops = 0))) := HO.out P c hpc
  have HB3 : Hid (Below w2.heap.size w2 w3) := HBA.out.trans (hb3.mono (by simp))
  have HQ : Hid (w3.heap[w2.heap.size]? = some (.cells #[.slice a C.length cap, .int .i64 loops, .slice (some ⟨gF, 0, none⟩) (2 * C.length + 1) cF, .slice (some ⟨gT, 0, none⟩) (2 * C.length + 1) cT] 39 (0, 0))) := (hb3.block _ (by simp)).trans (alloc_at rfl)
  have hs3 : w2.heap.size + 1 ≤ w3.heap.size := by have := hb3.size; simpa using this
  have HK : Hid (∀ w', Below w3.heap.size w3 w' → w'.cell? ⟨w2.heap.size, 0, none⟩ = some (.slice a C.length cap) ∧ w'.cell? ⟨w2.heap.size, 1, none⟩ = some (.int .i64 loops) ∧ w'.cell? ⟨w2.heap.size, 2, none⟩ = some (.slice (some ⟨gF, 0, none⟩) (2 * C.length + 1) cF) ∧ w'.cell? ⟨w2.heap.size, 3, none⟩ = some (.slice (some ⟨gT, 0, none⟩) (2 * C.length + 1) cT)) := fun w' hb => by
    have g := (hb.block _ (by omega)).trans HQ.out
    exact ⟨block_cell g rfl, block_cell g rfl, block_cell g rfl, block_cell g rfl⟩
  have HDK : Hid (∀ w', Below w3.heap.size w3 w' → Dr w' a cap C gF gT) := fun w' hb => (HDR.out.on HB3.out).on hb
  have HBW : Hid (Below w.heap.size w w3) := HB2.out.trans (HB3.out.mono HB2.out.size)
  have hR : w3.heap[w.heap.size + 1]? = some (.cells #[.slice none 0 0, .int .i64 0, .slice none 0 0, .slice none 0 0] 39 (0, 0)) := (HB3.out.block _ (by omega)).trans HR.out
  have HR3 : Hid (w3.heap[w.heap.size + 1]? = some (.cells #[.slice none 0 0, .int .i64 0, .slice none 0 0, .slice none 0 0] 39 (0, 0))) := hR
  have c0 : w3.cell? ⟨w.heap.size + 1, 0, none⟩ = some (.slice none 0 0) := block_cell hR rfl
  have c1 : w3.cell? ⟨w.heap.size + 1, 1, none⟩ = some (.int .i64 0) := block_cell hR rfl
  have c2 : w3.cell? ⟨w.heap.size + 1, 2, none⟩ = some (.slice none 0 0) := block_cell hR rfl
  have c3 : w3.cell? ⟨w.heap.size + 1, 3, none⟩ = some (.slice none 0 0) := block_cell hR rfl
  have f0 : w3.frozen? ⟨w.heap.size + 1, 0, none⟩ = false := block_frozen hR
  have f1 : w3.frozen? ⟨w.heap.size + 1, 1, none⟩ = false := block_frozen hR
  have f2 : w3.frozen? ⟨w.heap.size + 1, 2, none⟩ = false := block_frozen hR
  have f3 : w3.frozen? ⟨w.heap.size + 1, 3, none⟩ = false := block_frozen hR
  have l2 : w.heap.size + 1 < w3.heap.size := by omega
  have l3 : w2.heap.size < w3.heap.size := by omega
  clear hR
  clear hb3 hpc HO
  obtain ⟨t0, t1, t2, t3⟩ := HK.out w3 (Below.refl _ _)
  by_cases hc1 : c = 1
  · subst hc1
    by_cases hl : loops = 0
    · subst hl
      obtain rfl : ob = true := HOB.out
      go_wp2
      have hG := st4_grown w3 (w.heap.size + 1) (.slice a C.length cap) (.int .i64 0) (.slice (some ⟨gF, 0, none⟩) (2 * C.length + 1) cF) (.slice (some ⟨gT, 0, none⟩) (2 * C.length + 1) cT)
      have hX := st4_block (a := .slice a C.length cap) (b := .int .i64 0) (c := .slice (some ⟨gF, 0, none⟩) (2 * C.length + 1) cF) (d := .slice (some ⟨gT, 0, none⟩) (2 * C.length + 1) cT) HR3.out
      have x0 := block_cell (i := 0) (v := .slice a C.length cap) hX rfl
      have x1 := block_cell (i := 1) (v := .int .i64 0) hX rfl
      have x2 := block_cell (i := 2) (v := .slice (some ⟨gF, 0, none⟩) (2 * C.length + 1) cF) hX rfl
      have x3 := block_cell (i := 3) (v := .slice (some ⟨gT, 0, none⟩) (2 * C.length + 1) cT) hX rfl
      have hbb := HBW.out.grown hG HBW.out.size (fun k hk => by have := Option.some.inj hk; omega)
      unfold st4 at x0 x1 x2 x3
      refine bodyPost_ret (v := .tuple #[.agg #[.slice a C.length cap, .int .i64 0, .slice (some ⟨gF, 0, none⟩) (2 * C.length + 1) cF, .slice (some ⟨gT, 0, none⟩) (2 * C.length + 1) cT], .int .i64 0]) (by simp [results, Try.results25, go_sem, x0, x1, x2, x3]) rfl ⟨⟨a, cap, gF, cF, gT, cT, rfl, ?_⟩, hbb⟩
      have D3 := HDK.out w3 (Below.refl _ _)
      have nF : gF ≠ w.heap.size + 1 := by have := HGF.out; omega
      have nT : gT ≠ w.heap.size + 1 := by have := HGT.out; omega
      exact ⟨HC.out.up hbb, Nat.lt_of_lt_of_le D3.ltF hG.size, Nat.lt_of_lt_of_le D3.ltT hG.size, fun i hi => ⟨st4_cell nF (D3.from_ i hi).1, st4_cell nF (D3.from_ i hi).2⟩, fun i hi => ⟨st4_cell nT (D3.to i hi).1, st4_cell nT (D3.to i hi).2⟩⟩
    · have hl2 : decide (0 < loops) = true := by simp; omega
      obtain rfl : ob = false := by rw [HOB.out, decide_eq_false hl]; simp
      go_wp2
      have hG := st4_grown w3 (w.heap.size + 1) (.slice none 0 0) (.int .i64 0) (.slice none 0 0) (.slice none 0 0)
      have hX := st4_block (a := .slice none 0 0) (b := .int .i64 0) (c := .slice none 0 0) (d := .slice none 0 0) HR3.out
      have x0 := block_cell (i := 0) (v := .slice none 0 0) hX rfl
      have x1 := block_cell (i := 1) (v := .int .i64 0) hX rfl
      have x2 := block_cell (i := 2) (v := .slice none 0 0) hX rfl
      have x3 := block_cell (i := 3) (v := .slice none 0 0) hX rfl
      have hbb := HBW.out.grown hG HBW.out.size (fun k hk => by have := Option.some.inj hk; omega)
      unfold st4 at x0 x1 x2 x3
      exact bodyPost_ret (v := .tuple #[.agg #[.slice none 0 0, .int .i64 0, .slice none 0 0, .slice none 0 0], .int .i64 6]) (by simp [results, Try.results25, go_sem, x0, x1, x2, x3]) rfl ⟨rfl, hbb⟩
  · have hc2 : ((c : Int) == 1) = false := beq_eq_false_iff_ne.2 (by omega)
    obtain rfl : ob = false := by rw [HOB.out, decide_eq_false hc1]; rfl
    go_wp2
    have hG := st4_grown w3 (w.heap.size + 1) (.slice none 0 0) (.int .i64 0) (.slice none 0 0) (.slice none 0 0)
    have hX := st4_block (a := .slice none 0 0) (b := .int .i64 0) (c := .slice none 0 0) (d := .slice none 0 0) HR3.out
    have x0 := block_cell (i := 0) (v := .slice none 0 0) hX rfl
    have x1 := block_cell (i := 1) (v := .int .i64 0) hX rfl
    have x2 := block_cell (i := 2) (v := .slice none 0 0) hX rfl
    have x3 := block_cell (i := 3) (v := .slice none 0 0) hX rfl
    have hbb := HBW.out.grown hG HBW.out.size (fun k hk => by have := Option.some.inj hk; omega)
    unfold st4 at x0 x1 x2 x3
    exact bodyPost_ret (v := .tuple #[.agg #[.slice none 0 0, .int .i64 0, .slice none 0 0, .slice none 0 0], .int .i64 6]) (by simp [results, Try.results25, go_sem, x0, x1, x2, x3]) rfl ⟨rfl, hbb⟩
end Go.Proofs.Ytlcogbcpmneknaa
