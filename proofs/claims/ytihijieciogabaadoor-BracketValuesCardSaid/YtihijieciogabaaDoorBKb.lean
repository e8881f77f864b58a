/- What few says at 12; the walk of bracket.drawn. -/
import Derived.Test.YtihijieciogabaaDoorF12P
namespace Go.Proofs.YtihijieciogabaaDoor
open Go.RowKit

theorem hidS0 {P : Prop} (h : P) : Hid P := h
theorem slB_Crs {w : World} {B : Nat} {v : Value} {C : List Cr} (h : Crs w B v C) : ∃ a c, v = .slice a C.length c := by
  obtain ⟨a, c, e, _⟩ := h
  exact ⟨a, c, e⟩
theorem slB_CrsW {w : World} {B : Nat} {v : Value} {C : List Cr} (h : CrsW w B v C) : ∃ a c, v = .slice a C.length c := by
  rcases h with ⟨rfl, rfl⟩ | ⟨ad, cap, rfl, rfl⟩ | ⟨b, off, cap, rfl, -, -⟩
  · exact ⟨_, _, rfl⟩
  · exact ⟨_, _, rfl⟩
  · exact ⟨_, _, rfl⟩
def fewM (C : List Cr) (loops : Int) : Int := if noN C loops = 0 ∧ 12 < C.length then 2 else noN C loops
set_option maxHeartbeats 4000000 in
set_option maxRecDepth 100000 in
/-- What few says. -/
theorem few12_any (a : Option Addr) (cap : Nat) (C : List Cr) (loops : Int) (w : World) (h : Crs w w.heap.size (.slice a C.length cap) C) :
    Calls Tryd.prog 8 #[.agg #[.slice a C.length cap, .int .i64 loops], .int .i64 12] w fun e w' => e = .returned (.int .i64 (fewM C loops)) ∧ Below w.heap.size w w' := by
  have HC : Hid (Crs w w.heap.size (.slice a C.length cap) C) := h
  obtain ⟨w0, hw0⟩ : ∃ w0, w0 = w.alloc (.cells #[.slice a C.length cap, .int .i64 loops] 24) := ⟨_, rfl⟩
  have HW0 : Hid (w0 = w.alloc (.cells #[.slice a C.length cap, .int .i64 loops] 24)) := hw0
  have HB0 : Hid (Below w.heap.size w w0) := (by rw [hw0]; exact (Below.refl _ _).alloc (Nat.le_refl _) _ : Below w.heap.size w w0)
  have HT0 : Hid (w0.heap[w.heap.size]? = some (.cells #[.slice a C.length cap, .int .i64 loops] 24 (0, 0))) := (by rw [hw0]; exact alloc_at rfl : w0.heap[w.heap.size]? = some (.cells #[.slice a C.length cap, .int .i64 loops] 24 (0, 0)))
  clear hw0 h
  go_enter Tryd.func8, Tryd.ntmps8
  go_wp2_with (go_at_call 20; rw [← HW0.out]; refine (planarMay_any _ C loops _ (HC.out.up HB0.out)).mono ?_; rintro e9 w3 ⟨rfl, hb3⟩; refine Hid.out ?_)
  refine Lib.hid ?_
  have HB3 : Hid (Below w.heap.size w w3) := HB0.out.trans (hb3.mono HB0.out.size)
  have q := (hb3.block _ (Array.getElem?_eq_some_iff.1 HT0.out).1).trans HT0.out
  have t0 : w3.cell? ⟨w.heap.size, 0, none⟩ = some (.slice a C.length cap) := block_cell q rfl
  have t1 : w3.cell? ⟨w.heap.size, 1, none⟩ = some (.int .i64 loops) := block_cell q rfl
  clear hb3 q
  have HFE : Hid (fewM C loops = if noN C loops = 0 ∧ 12 < C.length then 2 else noN C loops) := (rfl : fewM C loops = if noN C loops = 0 ∧ 12 < C.length then 2 else noN C loops)
  generalize noN C loops = r at *
  by_cases hr : r = 0
  · subst hr
    by_cases hz : 12 < C.length
    · have hz1 : decide ((12 : Int) < (C.length : Int)) = true := by simp; omega
      have HE : Hid (fewM C loops = 2) := HFE.out.trans (if_pos ⟨rfl, hz⟩)
      go_wp2
      go_ret
      exact ⟨by rw [HE.out]; rfl, HB3.out⟩
    · have hz1 : decide ((12 : Int) < (C.length : Int)) = false := by simp; omega
      have HE : Hid (fewM C loops = 0) := HFE.out.trans (if_neg (fun q => hz q.2))
      go_wp2
      go_ret
      exact ⟨by rw [HE.out]; rfl, HB3.out⟩
  · have hr0 : (r == 0) = false := beq_eq_false_iff_ne.2 hr
    have HE : Hid (fewM C loops = r) := HFE.out.trans (if_neg (fun q => hr q.1))
    go_wp2
    go_ret
    exact ⟨by rw [HE.out]; rfl, HB3.out⟩

set_option maxHeartbeats 4000000 in
set_option maxRecDepth 100000 in
theorem drawn_no (hFR : FaceRingsOk) (a : Option Addr) (cap : Nat) (C : List Cr) (loops : Int) (w : World) (hn : noN C loops ≠ 0) (h : Crs w w.heap.size (.slice a C.length cap) C) :
    Calls Tryd.prog 14 #[.agg #[.slice a C.length cap, .int .i64 loops]] w fun e w' => (e = .returned (.tuple #[noDrawing, .int .i64 (noN C loops)])) ∧ Below w.heap.size w w' := by
  have HC : Hid (Crs w w.heap.size (.slice a C.length cap) C) := h
  have HF := hidS0 (fun W hW => flat_not hFR a cap C loops W hn hW)
  generalize noN C loops = r at hn HF
  have hr0 : (r == 0) = false := beq_eq_false_iff_ne.2 hn
  have HB1 : Hid (Below w.heap.size w ((w.alloc (.cells #[.slice a C.length cap, .int .i64 loops] 24)).alloc (.cells #[.slice none 0 0, .int .i64 0, .slice none 0 0, .slice none 0 0] 43))) := below2 _ _ _
  go_enter Tryd.func14, Tryd.ntmps14
  go_wp2_with (go_at_call 26; refine (HF.out _ (HC.out.up HB1.out)).mono ?_; rintro e9 w2 ⟨rfl, hb2⟩; refine Hid.out ?_)
  refine Lib.hid ?_
  unfold noDrawing
  have HB2 : Hid (Below w.heap.size w w2) := HB1.out.trans (hb2.mono (by simp; omega))
  have hR : w2.heap[w.heap.size + 1]? = some (.cells #[.slice none 0 0, .int .i64 0, .slice none 0 0, .slice none 0 0] 43 (0, 0)) := (hb2.block _ (by simp)).trans (alloc_at (by simp))
  have hs2 : w.heap.size + 2 ≤ w2.heap.size := by have := hb2.size; simpa using this
  have hA : (w2.alloc (.cells #[.slice none 0 0, .int .i64 0, .slice none 0 0, .slice none 0 0] 43)).heap[w.heap.size + 1]? = some (.cells #[.slice none 0 0, .int .i64 0, .slice none 0 0, .slice none 0 0] 43 (0, 0)) := alloc_old hR
  have HA : Hid ((w2.alloc (.cells #[.slice none 0 0, .int .i64 0, .slice none 0 0, .slice none 0 0] 43)).heap[w.heap.size + 1]? = some (.cells #[.slice none 0 0, .int .i64 0, .slice none 0 0, .slice none 0 0] 43 (0, 0))) := hA
  have HBA : Hid (Below w.heap.size w (w2.alloc (.cells #[.slice none 0 0, .int .i64 0, .slice none 0 0, .slice none 0 0] 43))) := HB2.out.alloc HB2.out.size _
  have c0 : (w2.alloc (.cells #[.slice none 0 0, .int .i64 0, .slice none 0 0, .slice none 0 0] 43)).cell? ⟨w.heap.size + 1, 0, none⟩ = some (.slice none 0 0) := block_cell hA rfl
  have c1 : (w2.alloc (.cells #[.slice none 0 0, .int .i64 0, .slice none 0 0, .slice none 0 0] 43)).cell? ⟨w.heap.size + 1, 1, none⟩ = some (.int .i64 0) := block_cell hA rfl
  have c2 : (w2.alloc (.cells #[.slice none 0 0, .int .i64 0, .slice none 0 0, .slice none 0 0] 43)).cell? ⟨w.heap.size + 1, 2, none⟩ = some (.slice none 0 0) := block_cell hA rfl
  have c3 : (w2.alloc (.cells #[.slice none 0 0, .int .i64 0, .slice none 0 0, .slice none 0 0] 43)).cell? ⟨w.heap.size + 1, 3, none⟩ = some (.slice none 0 0) := block_cell hA rfl
  have f0 : (w2.alloc (.cells #[.slice none 0 0, .int .i64 0, .slice none 0 0, .slice none 0 0] 43)).frozen? ⟨w.heap.size + 1, 0, none⟩ = false := block_frozen hA
  have f1 : (w2.alloc (.cells #[.slice none 0 0, .int .i64 0, .slice none 0 0, .slice none 0 0] 43)).frozen? ⟨w.heap.size + 1, 1, none⟩ = false := block_frozen hA
  have f2 : (w2.alloc (.cells #[.slice none 0 0, .int .i64 0, .slice none 0 0, .slice none 0 0] 43)).frozen? ⟨w.heap.size + 1, 2, none⟩ = false := block_frozen hA
  have f3 : (w2.alloc (.cells #[.slice none 0 0, .int .i64 0, .slice none 0 0, .slice none 0 0] 43)).frozen? ⟨w.heap.size + 1, 3, none⟩ = false := block_frozen hA
  clear hb2 hR hA
  go_wp2
  have hG := st4_grown (w2.alloc (.cells #[.slice none 0 0, .int .i64 0, .slice none 0 0, .slice none 0 0] 43)) (w.heap.size + 1) (.slice none 0 0) (.int .i64 0) (.slice none 0 0) (.slice none 0 0)
  have hX := st4_block (a := .slice none 0 0) (b := .int .i64 0) (c := .slice none 0 0) (d := .slice none 0 0) HA.out
  have x0 := block_cell (i := 0) (v := .slice none 0 0) hX rfl
  have x1 := block_cell (i := 1) (v := .int .i64 0) hX rfl
  have x2 := block_cell (i := 2) (v := .slice none 0 0) hX rfl
  have x3 := block_cell (i := 3) (v := .slice none 0 0) hX rfl
  have hbb := HBA.out.grown hG HBA.out.size (fun k hk => by have := Option.some.inj hk; omega)
  unfold st4 at x0 x1 x2 x3
  exact bodyPost_ret (v := .tuple #[.agg #[.slice none 0 0, .int .i64 0, .slice none 0 0, .slice none 0 0], .int .i64 r]) (by simp [results, Tryd.results14, go_sem, x0, x1, x2, x3]) rfl ⟨rfl, hbb⟩

set_option maxHeartbeats 4000000 in
set_option maxRecDepth 100000 in
theorem drawn_size (hFR : FaceRingsOk) (a : Option Addr) (cap : Nat) (C : List Cr) (loops : Int) (w : World) (hn : noN C loops = 0) (h12 : 12 < C.length) (h : Crs w w.heap.size (.slice a C.length cap) C) :
    Calls Tryd.prog 14 #[.agg #[.slice a C.length cap, .int .i64 loops]] w fun e w' => (e = .returned (.tuple #[noDrawing, .int .i64 2])) ∧ Below w.heap.size w w' := by
  have HC : Hid (Crs w w.heap.size (.slice a C.length cap) C) := h
  obtain ⟨hm, hp⟩ := noN_zero hn
  have HF := hidS0 (fun W hW => flat_yesB hFR a cap C loops W hm hp hW)
  have hz1 : decide ((12 : Int) < (C.length : Int)) = true := by simp; omega
  clear hm hp
  have HB1 : Hid (Below w.heap.size w ((w.alloc (.cells #[.slice a C.length cap, .int .i64 loops] 24)).alloc (.cells #[.slice none 0 0, .int .i64 0, .slice none 0 0, .slice none 0 0] 43))) := below2 _ _ _
  go_enter Tryd.func14, Tryd.ntmps14
  go_wp2_with (go_at_call 26; refine (HF.out _ (HC.out.up HB1.out)).mono ?_; rintro e9 w2 ⟨gF, cF, gT, cT, rfl, -, hb2⟩; refine Hid.out ?_)
  refine Lib.hid ?_
  unfold drV
  have HB2 : Hid (Below w.heap.size w w2) := HB1.out.trans (hb2.mono (by simp; omega))
  have hR : w2.heap[w.heap.size + 1]? = some (.cells #[.slice none 0 0, .int .i64 0, .slice none 0 0, .slice none 0 0] 43 (0, 0)) := (hb2.block _ (by simp)).trans (alloc_at (by simp))
  have hs2 : w.heap.size + 2 ≤ w2.heap.size := by have := hb2.size; simpa using this
  have hA : (w2.alloc (.cells #[.slice a C.length cap, .int .i64 loops, .slice (some ⟨gF, 0, none⟩) (2 * C.length + 1) cF, .slice (some ⟨gT, 0, none⟩) (2 * C.length + 1) cT] 43)).heap[w.heap.size + 1]? = some (.cells #[.slice none 0 0, .int .i64 0, .slice none 0 0, .slice none 0 0] 43 (0, 0)) := alloc_old hR
  have HA : Hid ((w2.alloc (.cells #[.slice a C.length cap, .int .i64 loops, .slice (some ⟨gF, 0, none⟩) (2 * C.length + 1) cF, .slice (some ⟨gT, 0, none⟩) (2 * C.length + 1) cT] 43)).heap[w.heap.size + 1]? = some (.cells #[.slice none 0 0, .int .i64 0, .slice none 0 0, .slice none 0 0] 43 (0, 0))) := hA
  have HBA : Hid (Below w.heap.size w (w2.alloc (.cells #[.slice a C.length cap, .int .i64 loops, .slice (some ⟨gF, 0, none⟩) (2 * C.length + 1) cF, .slice (some ⟨gT, 0, none⟩) (2 * C.length + 1) cT] 43))) := HB2.out.alloc HB2.out.size _
  have c0 : (w2.alloc (.cells #[.slice a C.length cap, .int .i64 loops, .slice (some ⟨gF, 0, none⟩) (2 * C.length + 1) cF, .slice (some ⟨gT, 0, none⟩) (2 * C.length + 1) cT] 43)).cell? ⟨w.heap.size + 1, 0, none⟩ = some (.slice none 0 0) := block_cell hA rfl
  have c1 : (w2.alloc (.cells #[.slice a C.length cap, .int .i64 loops, .slice (some ⟨gF, 0, none⟩) (2 * C.length + 1) cF, .slice (some ⟨gT, 0, none⟩) (2 * C.length + 1) cT] 43)).cell? ⟨w.heap.size + 1, 1, none⟩ = some (.int .i64 0) := block_cell hA rfl
  have c2 : (w2.alloc (.cells #[.slice a C.length cap, .int .i64 loops, .slice (some ⟨gF, 0, none⟩) (2 * C.length + 1) cF, .slice (some ⟨gT, 0, none⟩) (2 * C.length + 1) cT] 43)).cell? ⟨w.heap.size + 1, 2, none⟩ = some (.slice none 0 0) := block_cell hA rfl
  have c3 : (w2.alloc (.cells #[.slice a C.length cap, .int .i64 loops, .slice (some ⟨gF, 0, none⟩) (2 * C.length + 1) cF, .slice (some ⟨gT, 0, none⟩) (2 * C.length + 1) cT] 43)).cell? ⟨w.heap.size + 1, 3, none⟩ = some (.slice none 0 0) := block_cell hA rfl
  have f0 : (w2.alloc (.cells #[.slice a C.length cap, .int .i64 loops, .slice (some ⟨gF, 0, none⟩) (2 * C.length + 1) cF, .slice (some ⟨gT, 0, none⟩) (2 * C.length + 1) cT] 43)).frozen? ⟨w.heap.size + 1, 0, none⟩ = false := block_frozen hA
  have f1 : (w2.alloc (.cells #[.slice a C.length cap, .int .i64 loops, .slice (some ⟨gF, 0, none⟩) (2 * C.length + 1) cF, .slice (some ⟨gT, 0, none⟩) (2 * C.length + 1) cT] 43)).frozen? ⟨w.heap.size + 1, 1, none⟩ = false := block_frozen hA
  have f2 : (w2.alloc (.cells #[.slice a C.length cap, .int .i64 loops, .slice (some ⟨gF, 0, none⟩) (2 * C.length + 1) cF, .slice (some ⟨gT, 0, none⟩) (2 * C.length + 1) cT] 43)).frozen? ⟨w.heap.size + 1, 2, none⟩ = false := block_frozen hA
  have f3 : (w2.alloc (.cells #[.slice a C.length cap, .int .i64 loops, .slice (some ⟨gF, 0, none⟩) (2 * C.length + 1) cF, .slice (some ⟨gT, 0, none⟩) (2 * C.length + 1) cT] 43)).frozen? ⟨w.heap.size + 1, 3, none⟩ = false := block_frozen hA
  have hN : (w2.alloc (.cells #[.slice a C.length cap, .int .i64 loops, .slice (some ⟨gF, 0, none⟩) (2 * C.length + 1) cF, .slice (some ⟨gT, 0, none⟩) (2 * C.length + 1) cT] 43)).heap[w2.heap.size]? = some (.cells #[.slice a C.length cap, .int .i64 loops, .slice (some ⟨gF, 0, none⟩) (2 * C.length + 1) cF, .slice (some ⟨gT, 0, none⟩) (2 * C.length + 1) cT] 43 (0, 0)) := alloc_at rfl
  clear hb2 hR hA
  go_wp2
  have hG := st4_grown (w2.alloc (.cells #[.slice a C.length cap, .int .i64 loops, .slice (some ⟨gF, 0, none⟩) (2 * C.length + 1) cF, .slice (some ⟨gT, 0, none⟩) (2 * C.length + 1) cT] 43)) (w.heap.size + 1) (.slice none 0 0) (.int .i64 0) (.slice none 0 0) (.slice none 0 0)
  have hX := st4_block (a := .slice none 0 0) (b := .int .i64 0) (c := .slice none 0 0) (d := .slice none 0 0) HA.out
  have x0 := block_cell (i := 0) (v := .slice none 0 0) hX rfl
  have x1 := block_cell (i := 1) (v := .int .i64 0) hX rfl
  have x2 := block_cell (i := 2) (v := .slice none 0 0) hX rfl
  have x3 := block_cell (i := 3) (v := .slice none 0 0) hX rfl
  have hbb := HBA.out.grown hG HBA.out.size (fun k hk => by have := Option.some.inj hk; omega)
  unfold st4 at x0 x1 x2 x3
  exact bodyPost_ret (v := .tuple #[.agg #[.slice none 0 0, .int .i64 0, .slice none 0 0, .slice none 0 0], .int .i64 2]) (by simp [results, Tryd.results14, go_sem, x0, x1, x2, x3]) rfl ⟨rfl, hbb⟩

set_option maxHeartbeats 4000000 in
set_option maxRecDepth 100000 in
theorem drawn_yes (hFR : FaceRingsOk) (a : Option Addr) (cap : Nat) (C : List Cr) (loops : Int) (w : World) (hn : noN C loops = 0) (h12 : C.length ≤ 12) (h : Crs w w.heap.size (.slice a C.length cap) C) :
    Calls Tryd.prog 14 #[.agg #[.slice a C.length cap, .int .i64 loops]] w fun e w' => (∃ gF cF gT cT, e = .returned (.tuple #[drV a cap C loops gF cF gT cT, .int .i64 0])) ∧ Below w.heap.size w w' := by
  have HC : Hid (Crs w w.heap.size (.slice a C.length cap) C) := h
  obtain ⟨hm, hp⟩ := noN_zero hn
  have HF := hidS0 (fun W hW => flat_yesB hFR a cap C loops W hm hp hW)
  have hz1 : decide ((12 : Int) < (C.length : Int)) = false := by simp; omega
  clear hm hp
  have HB1 : Hid (Below w.heap.size w ((w.alloc (.cells #[.slice a C.length cap, .int .i64 loops] 24)).alloc (.cells #[.slice none 0 0, .int .i64 0, .slice none 0 0, .slice none 0 0] 43))) := below2 _ _ _
  go_enter Tryd.func14, Tryd.ntmps14
  go_wp2_with (go_at_call 26; refine (HF.out _ (HC.out.up HB1.out)).mono ?_; rintro e9 w2 ⟨gF, cF, gT, cT, rfl, -, hb2⟩; refine Hid.out ?_)
  refine Lib.hid ?_
  unfold drV
  have HB2 : Hid (Below w.heap.size w w2) := HB1.out.trans (hb2.mono (by simp; omega))
  have hR : w2.heap[w.heap.size + 1]? = some (.cells #[.slice none 0 0, .int .i64 0, .slice none 0 0, .slice none 0 0] 43 (0, 0)) := (hb2.block _ (by simp)).trans (alloc_at (by simp))
  have hs2 : w.heap.size + 2 ≤ w2.heap.size := by have := hb2.size; simpa using this
  have hA : (w2.alloc (.cells #[.slice a C.length cap, .int .i64 loops, .slice (some ⟨gF, 0, none⟩) (2 * C.length + 1) cF, .slice (some ⟨gT, 0, none⟩) (2 * C.length + 1) cT] 43)).heap[w.heap.size + 1]? = some (.cells #[.slice none 0 0, .int .i64 0, .slice none 0 0, .slice none 0 0] 43 (0, 0)) := alloc_old hR
  have HA : Hid ((w2.alloc (.cells #[.slice a C.length cap, .int .i64 loops, .slice (some ⟨gF, 0, none⟩) (2 * C.length + 1) cF, .slice (some ⟨gT, 0, none⟩) (2 * C.length + 1) cT] 43)).heap[w.heap.size + 1]? = some (.cells #[.slice none 0 0, .int .i64 0, .slice none 0 0, .slice none 0 0] 43 (0, 0))) := hA
  have HBA : Hid (Below w.heap.size w (w2.alloc (.cells #[.slice a C.length cap, .int .i64 loops, .slice (some ⟨gF, 0, none⟩) (2 * C.length + 1) cF, .slice (some ⟨gT, 0, none⟩) (2 * C.length + 1) cT] 43))) := HB2.out.alloc HB2.out.size _
  have c0 : (w2.alloc (.cells #[.slice a C.length cap, .int .i64 loops, .slice (some ⟨gF, 0, none⟩) (2 * C.length + 1) cF, .slice (some ⟨gT, 0, none⟩) (2 * C.length + 1) cT] 43)).cell? ⟨w.heap.size + 1, 0, none⟩ = some (.slice none 0 0) := block_cell hA rfl
  have c1 : (w2.alloc (.cells #[.slice a C.length cap, .int .i64 loops, .slice (some ⟨gF, 0, none⟩) (2 * C.length + 1) cF, .slice (some ⟨gT, 0, none⟩) (2 * C.length + 1) cT] 43)).cell? ⟨w.heap.size + 1, 1, none⟩ = some (.int .i64 0) := block_cell hA rfl
  have c2 : (w2.alloc (.cells #[.slice a C.length cap, .int .i64 loops, .slice (some ⟨gF, 0, none⟩) (2 * C.length + 1) cF, .slice (some ⟨gT, 0, none⟩) (2 * C.length + 1) cT] 43)).cell? ⟨w.heap.size + 1, 2, none⟩ = some (.slice none 0 0) := block_cell hA rfl
  have c3 : (w2.alloc (.cells #[.slice a C.length cap, .int .i64 loops, .slice (some ⟨gF, 0, none⟩) (2 * C.length + 1) cF, .slice (some ⟨gT, 0, none⟩) (2 * C.length + 1) cT] 43)).cell? ⟨w.heap.size + 1, 3, none⟩ = some (.slice none 0 0) := block_cell hA rfl
  have f0 : (w2.alloc (.cells #[.slice a C.length cap, .int .i64 loops, .slice (some ⟨gF, 0, none⟩) (2 * C.length + 1) cF, .slice (some ⟨gT, 0, none⟩) (2 * C.length + 1) cT] 43)).frozen? ⟨w.heap.size + 1, 0, none⟩ = false := block_frozen hA
  have f1 : (w2.alloc (.cells #[.slice a C.length cap, .int .i64 loops, .slice (some ⟨gF, 0, none⟩) (2 * C.length + 1) cF, .slice (some ⟨gT, 0, none⟩) (2 * C.length + 1) cT] 43)).frozen? ⟨w.heap.size + 1, 1, none⟩ = false := block_frozen hA
  have f2 : (w2.alloc (.cells #[.slice a C.length cap, .int .i64 loops, .slice (some ⟨gF, 0, none⟩) (2 * C.length + 1) cF, .slice (some ⟨gT, 0, none⟩) (2 * C.length + 1) cT] 43)).frozen? ⟨w.heap.size + 1, 2, none⟩ = false := block_frozen hA
  have f3 : (w2.alloc (.cells #[.slice a C.length cap, .int .i64 loops, .slice (some ⟨gF, 0, none⟩) (2 * C.length + 1) cF, .slice (some ⟨gT, 0, none⟩) (2 * C.length + 1) cT] 43)).frozen? ⟨w.heap.size + 1, 3, none⟩ = false := block_frozen hA
  have hN : (w2.alloc (.cells #[.slice a C.length cap, .int .i64 loops, .slice (some ⟨gF, 0, none⟩) (2 * C.length + 1) cF, .slice (some ⟨gT, 0, none⟩) (2 * C.length + 1) cT] 43)).heap[w2.heap.size]? = some (.cells #[.slice a C.length cap, .int .i64 loops, .slice (some ⟨gF, 0, none⟩) (2 * C.length + 1) cF, .slice (some ⟨gT, 0, none⟩) (2 * C.length + 1) cT] 43 (0, 0)) := alloc_at rfl
  clear hb2 hR hA
  go_wp2
  have hG := st4_grown (w2.alloc (.cells #[.slice a C.length cap, .int .i64 loops, .slice (some ⟨gF, 0, none⟩) (2 * C.length + 1) cF, .slice (some ⟨gT, 0, none⟩) (2 * C.length + 1) cT] 43)) (w.heap.size + 1) (.slice a C.length cap) (.int .i64 loops) (.slice (some ⟨gF, 0, none⟩) (2 * C.length + 1) cF) (.slice (some ⟨gT, 0, none⟩) (2 * C.length + 1) cT)
  have hX := st4_block (a := .slice a C.length cap) (b := .int .i64 loops) (c := .slice (some ⟨gF, 0, none⟩) (2 * C.length + 1) cF) (d := .slice (some ⟨gT, 0, none⟩) (2 * C.length + 1) cT) HA.out
  have x0 := block_cell (i := 0) (v := .slice a C.length cap) hX rfl
  have x1 := block_cell (i := 1) (v := .int .i64 loops) hX rfl
  have x2 := block_cell (i := 2) (v := .slice (some ⟨gF, 0, none⟩) (2 * C.length + 1) cF) hX rfl
  have x3 := block_cell (i := 3) (v := .slice (some ⟨gT, 0, none⟩) (2 * C.length + 1) cT) hX rfl
  have hbb := HBA.out.grown hG HBA.out.size (fun k hk => by have := Option.some.inj hk; omega)
  unfold st4 at x0 x1 x2 x3
  exact bodyPost_ret (v := .tuple #[.agg #[.slice a C.length cap, .int .i64 loops, .slice (some ⟨gF, 0, none⟩) (2 * C.length + 1) cF, .slice (some ⟨gT, 0, none⟩) (2 * C.length + 1) cT], .int .i64 0]) (by simp [results, Tryd.results14, go_sem, x0, x1, x2, x3]) rfl ⟨⟨gF, cF, gT, cT, rfl⟩, hbb⟩

theorem drawn_bad (hFR : FaceRingsOk) (a : Option Addr) (cap : Nat) (C : List Cr) (loops r : Int) (w : World) (hr : r ≠ 0) (hF : fewM C loops = r) (h : Crs w w.heap.size (.slice a C.length cap) C) :
    Calls Tryd.prog 14 #[.agg #[.slice a C.length cap, .int .i64 loops]] w fun e w' => (e = .returned (.tuple #[noDrawing, .int .i64 r])) ∧ Below w.heap.size w w' := by
  by_cases hn : noN C loops = 0
  · by_cases hz : 12 < C.length
    · have e : r = 2 := by rw [← hF]; exact if_pos ⟨hn, hz⟩
      rw [e]; exact drawn_size hFR a cap C loops w hn hz h
    · exact absurd (hF.symm.trans ((if_neg (fun q => hz q.2)).trans hn)) hr
  · have e : r = noN C loops := by rw [← hF]; exact if_neg (fun q => hn q.1)
    rw [e]; exact drawn_no hFR a cap C loops w hn h
end Go.Proofs.YtihijieciogabaaDoor
