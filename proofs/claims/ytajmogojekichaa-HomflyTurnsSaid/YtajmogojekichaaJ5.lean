/- The walks of slices.Clone of crossings, of homfly.Change and of homfly.Smooth. -/
import Derived.Test.YtajmogojekichaaJ3
import Derived.Test.YtajmogojekichaaJ4
import Derived.Test.YtajmogojekichaaK4
import Derived.Test.YtajmogojekichaaP5
import Derived.Deep.Cut
namespace Go.Proofs.Ytajmogojekichaa
open Go.RowKit

theorem drawn_no (hFR : FaceRingsOk) (a : Option Addr) (cap : Nat) (C : List Cr) (loops k : Int) (bk : Nat) (w : World) (hn : dN C loops k ≠ 0) (h1 : bk < w.heap.size) (h2 : w.cell? ⟨bk, 0, none⟩ = some (.int .i64 k)) (h : Crs w w.heap.size (.slice a C.length cap) C) :
    Calls Try.prog 102 #[.agg #[.slice a C.length cap, .int .i64 loops], .slice (some ⟨bk, 0, none⟩) 1 1] w fun e w' => e = .returned (.tuple #[noDrawing, .int .i64 (dN C loops k)]) ∧ Below w.heap.size w w' := by
  by_cases hz : noN C loops = 0
  · refine (drawn_flat hFR a cap C loops k bk w hz h1 h2 h).mono fun e w' ho => ?_
    rcases ho.1 with ⟨q, _⟩ | ⟨_, q⟩
    · exact absurd q hn
    · exact ⟨q, ho.2⟩
  · have e : dN C loops k = noN C loops := by unfold dN; rw [if_pos hz]
    rw [e]
    exact drawn_bad hFR a cap C loops bk w hz h
theorem dN_zero {C : List Cr} {loops k : Int} (h : dN C loops k = 0) : noN C loops = 0 ∧ 0 ≤ k ∧ k < (C.length : Int) ∧ C.length ≤ 8 := by
  unfold dN at h
  by_cases h1 : noN C loops ≠ 0
  · rw [if_pos h1] at h; exact absurd h h1
  · rw [if_neg h1] at h
    by_cases h2 : k < 0 ∨ (C.length : Int) ≤ k
    · rw [if_pos h2] at h; omega
    · rw [if_neg h2] at h
      by_cases h3 : 8 < C.length
      · rw [if_pos h3] at h; omega
      · exact ⟨Decidable.not_not.1 h1, by omega, by omega, by omega⟩
theorem drawn_yes (hFR : FaceRingsOk) (a : Option Addr) (cap : Nat) (C : List Cr) (loops k : Int) (bk : Nat) (w : World) (hn : dN C loops k = 0) (h1 : bk < w.heap.size) (h2 : w.cell? ⟨bk, 0, none⟩ = some (.int .i64 k)) (h : Crs w w.heap.size (.slice a C.length cap) C) :
    Calls Try.prog 102 #[.agg #[.slice a C.length cap, .int .i64 loops], .slice (some ⟨bk, 0, none⟩) 1 1] w fun e w' => (∃ gF cF gT cT, e = .returned (.tuple #[drV a cap C loops gF cF gT cT, .int .i64 0]) ∧ Dr w' a cap C gF gT) ∧ Below w.heap.size w w' := by
  refine (drawn_flat hFR a cap C loops k bk w (dN_zero hn).1 h1 h2 h).mono fun e w' ho => ?_
  rcases ho.1 with ⟨_, q⟩ | ⟨q, _⟩
  · exact ⟨q, ho.2⟩
  · exact absurd hn q
theorem own_block' {w : World} {B e s n : Nat} {v : Value} {xs : List Value} (h : w.ownsRow B e s v n xs) (hn : 0 < n) : ∃ g c, v = .slice (some ⟨g, 0, none⟩) n c := by
  obtain ⟨g, c, h1, -⟩ := own_block h hn
  exact ⟨g, c, h1⟩
theorem cross_cells {w : World} {b off : Nat} {C : List Cr} (h : CrossAt w b off C) : ∀ j u, (crossCells C)[j]? = some u → w.cell? ((⟨b, off, none⟩ : Addr).add j) = some u := by
  intro j u hj
  have hl : (crossCells C).length = C.length * 5 := cells_length C
  have hjl : j < C.length * 5 := by
    rcases Nat.lt_or_ge j (C.length * 5) with q | q
    · exact q
    · rw [List.getElem?_eq_none (by omega)] at hj; cases hj
  obtain ⟨i, r, hr, rfl⟩ : ∃ i r, r < 5 ∧ j = i * 5 + r := ⟨j / 5, j % 5, by omega, by omega⟩
  have hi : i < C.length := by omega
  obtain ⟨c0, c1, c2, c3, c4⟩ := cells_get C i hi
  obtain ⟨d0, d1, d2, d3, d4⟩ := h i hi
  rw [Addr.add_lit, show off + (i * 5 + r) = off + i * 5 + r by omega]
  match r, hr with
  | 0, _ => rw [show i * 5 + 0 = i * 5 by omega, c0] at hj; rw [← hj]; exact d0
  | 1, _ => rw [c1] at hj; rw [← hj]; exact d1
  | 2, _ => rw [c2] at hj; rw [← hj]; exact d2
  | 3, _ => rw [c3] at hj; rw [← hj]; exact d3
  | 4, _ => rw [c4] at hj; rw [← hj]; exact d4

set_option maxHeartbeats 4000000 in
set_option maxRecDepth 100000 in
theorem cloneCross_any (b off cap : Nat) (C : List Cr) (w : World) (hl : C.length ≤ 1000) (hbw : b < w.heap.size) (hC : CrossAt w b off C) :
    Calls Try.prog 85 #[.slice (some ⟨b, off, none⟩) C.length cap] w fun e w' => ∃ v, e = .returned v ∧ w'.ownsRow w.heap.size 99 5 v C.length (crossCells C) ∧ Below w.heap.size w w' := by
  obtain ⟨i0, hi, hz0, hz1, hz2⟩ := info_parts infoCross
  have HC : Hid (CrossAt w b off C) := hC
  have HB0 : Hid (Below w.heap.size w (w.alloc (.cells #[] 99))) := (Below.refl _ _).alloc (Nat.le_refl _) _
  have HE : Hid ((w.alloc (.cells #[] 99)).ownsRow w.heap.size 99 5 (.slice (some ⟨w.heap.size, 0, none⟩) 0 0) 0 []) := (World.ownsRow_lit w #[] 0 (Nat.le_refl _) (Nat.zero_le _) rfl : (w.alloc (.cells #[] 99)).ownsRow w.heap.size 99 5 (.slice (some ⟨w.heap.size, 0, none⟩) 0 0) 0 [])
  have hnil : ∀ W : World, Sem.run Try.prog (binOp .eql 22 (.slice (some ⟨b, off, none⟩) C.length cap) (.slice none 0 0)) W = .ok (.bool false) W := by
    intro W
    first
      | rfl
      | (simp [binOp, go_sem]; done)
      | (unfold binOp; simp [go_sem, Try.underlying22]; done)
  clear hC
  go_enter Try.func85, Try.ntmps85
  go_wp2_with (first
    | (at_builtin; refine wpList_append_own _ rfl _ _ 22 rfl w.heap.size 99 i0 (.agg #[.int .i64 0, .int .i64 0, .int .i64 0, .int .i64 0, .bool false]) 5 40 Try.underlying22 hi hz0 hz1 hz2 rfl (by decide) _ _ _ rfl HE.out ⟨b, off, none⟩ C.length cap (crossCells C) rfl (cells_length C) (cross_cells (HC.out.on HB0.out hbw)) (cells_one C) (by unfold maxLen; omega) (by omega) (by simp) ?_; intro v8 w8 hown8 hg8 _; refine Hid.out ?_))
  refine Lib.hid ?_
  have HO : Hid (w8.ownsRow w.heap.size 99 5 v8 C.length (crossCells C)) := (by simpa using hown8 : w8.ownsRow w.heap.size 99 5 v8 C.length (crossCells C))
  have HB : Hid (Below w.heap.size w w8) := HB0.out.grown hg8 (by simp) (fun q hq => by have : w.heap.size = q := Option.some.inj hq; omega)
  clear hown8 hg8
  go_wp2
  go_ret
  exact ⟨v8, rfl, HO.out, HB.out⟩

set_option maxHeartbeats 4000000 in
set_option maxRecDepth 100000 in
theorem change_no (hFR : FaceRingsOk) (a : Option Addr) (cap : Nat) (C : List Cr) (loops k : Int) (w : World) (hn : dN C loops k ≠ 0) (h : Crs w w.heap.size (.slice a C.length cap) C) :
    Calls Try.prog 48 #[.agg #[.slice a C.length cap, .int .i64 loops], .int .i64 k] w fun e w' => e = .returned (.tuple #[.agg #[.slice none 0 0, .int .i64 0], .int .i64 (dN C loops k)]) ∧ Below w.heap.size w w' := by
  have HC : Hid (Crs w w.heap.size (.slice a C.length cap) C) := h
  have HF : Hid (∀ W bk, bk < W.heap.size → W.cell? ⟨bk, 0, none⟩ = some (.int .i64 k) → Crs W W.heap.size (.slice a C.length cap) C → Calls Try.prog 102 #[.agg #[.slice a C.length cap, .int .i64 loops], .slice (some ⟨bk, 0, none⟩) 1 1] W fun e w' => e = .returned (.tuple #[noDrawing, .int .i64 (dN C loops k)]) ∧ Below W.heap.size W w') := fun W bk h1 h2 hW => drawn_no hFR a cap C loops k bk W hn h1 h2 hW
  generalize dN C loops k = r at hn HF
  have hr0 : (r == 0) = false := beq_eq_false_iff_ne.2 hn
  have HB1 : Hid (Below w.heap.size w (((w.alloc (.cells #[.slice a C.length cap, .int .i64 loops] 24)).alloc (.cells #[.slice none 0 0, .int .i64 0] 24)).alloc (.cells #[.int .i64 k] 3))) := below3 _ _ _ _
  have HT1 : Hid ((((w.alloc (.cells #[.slice a C.length cap, .int .i64 loops] 24)).alloc (.cells #[.slice none 0 0, .int .i64 0] 24)).alloc (.cells #[.int .i64 k] 3)).heap[w.heap.size + 1]? = some (.cells #[.slice none 0 0, .int .i64 0] 24 (0, 0))) := alloc_old (alloc_at (by simp))
  have HT2 : Hid ((((w.alloc (.cells #[.slice a C.length cap, .int .i64 loops] 24)).alloc (.cells #[.slice none 0 0, .int .i64 0] 24)).alloc (.cells #[.int .i64 k] 3)).cell? ⟨w.heap.size + 1 + 1, 0, none⟩ = some (.int .i64 k)) := block_cell (alloc_at (by simp)) rfl
  clear h
  go_enter Try.func48, Try.ntmps48
  go_wp2_with (go_at_call 102; refine (HF.out _ (w.heap.size + 1 + 1) (by simp) HT2.out (HC.out.up HB1.out)).mono ?_; rintro e9 w2 ⟨rfl, hb2⟩; refine Hid.out ?_)
  refine Lib.hid ?_
  unfold noDrawing
  have HB2 : Hid (Below w.heap.size w w2) := HB1.out.trans (hb2.mono (by simp; omega))
  have HR : Hid (w2.heap[w.heap.size + 1]? = some (.cells #[.slice none 0 0, .int .i64 0] 24 (0, 0))) := (hb2.block _ (by simp)).trans HT1.out
  have hs2 : w.heap.size + 3 ≤ w2.heap.size := by have := hb2.size; simpa using this
  have HBA : Hid (Below w.heap.size w (w2.alloc (.cells #[.slice none 0 0, .int .i64 0, .slice none 0 0, .slice none 0 0] 88))) := HB2.out.alloc HB2.out.size _
  have HA : Hid ((w2.alloc (.cells #[.slice none 0 0, .int .i64 0, .slice none 0 0, .slice none 0 0] 88)).heap[w.heap.size + 1]? = some (.cells #[.slice none 0 0, .int .i64 0] 24 (0, 0))) := alloc_old HR.out
  have c0 : (w2.alloc (.cells #[.slice none 0 0, .int .i64 0, .slice none 0 0, .slice none 0 0] 88)).cell? ⟨w.heap.size + 1, 0, none⟩ = some (.slice none 0 0) := block_cell HA.out rfl
  have c1 : (w2.alloc (.cells #[.slice none 0 0, .int .i64 0, .slice none 0 0, .slice none 0 0] 88)).cell? ⟨w.heap.size + 1, 1, none⟩ = some (.int .i64 0) := block_cell HA.out rfl
  have f0 : (w2.alloc (.cells #[.slice none 0 0, .int .i64 0, .slice none 0 0, .slice none 0 0] 88)).frozen? ⟨w.heap.size + 1, 0, none⟩ = false := block_frozen HA.out
  have f1 : (w2.alloc (.cells #[.slice none 0 0, .int .i64 0, .slice none 0 0, .slice none 0 0] 88)).frozen? ⟨w.heap.size + 1, 1, none⟩ = false := block_frozen HA.out
  clear hb2
  go_wp2
  have hX := set_block (i := 1) (u := .int .i64 0) (set_block (i := 0) (u := .slice none 0 0) HA.out)
  have x0 := block_cell (i := 0) (v := .slice none 0 0) hX rfl
  have x1 := block_cell (i := 1) (v := .int .i64 0) hX rfl
  have hG := st2_grown (w2.alloc (.cells #[.slice none 0 0, .int .i64 0, .slice none 0 0, .slice none 0 0] 88)) (w.heap.size + 1) 0 (.slice none 0 0) (.int .i64 0)
  exact bodyPost_ret (v := .tuple #[.agg #[.slice none 0 0, .int .i64 0], .int .i64 r]) (by simp [results, Try.results48, go_sem, x0, x1]) rfl ⟨rfl, HBA.out.grown hG HBA.out.size (fun q hq => by have := Option.some.inj hq; omega)⟩

set_option maxHeartbeats 4000000 in
set_option maxRecDepth 100000 in
theorem smooth_no (hFR : FaceRingsOk) (a : Option Addr) (cap : Nat) (C : List Cr) (loops k : Int) (w : World) (hn : dN C loops k ≠ 0) (h : Crs w w.heap.size (.slice a C.length cap) C) :
    Calls Try.prog 49 #[.agg #[.slice a C.length cap, .int .i64 loops], .int .i64 k] w fun e w' => e = .returned (.tuple #[.agg #[.slice none 0 0, .int .i64 0], .int .i64 (dN C loops k)]) ∧ Below w.heap.size w w' := by
  have HC : Hid (Crs w w.heap.size (.slice a C.length cap) C) := h
  have HF : Hid (∀ W bk, bk < W.heap.size → W.cell? ⟨bk, 0, none⟩ = some (.int .i64 k) → Crs W W.heap.size (.slice a C.length cap) C → Calls Try.prog 102 #[.agg #[.slice a C.length cap, .int .i64 loops], .slice (some ⟨bk, 0, none⟩) 1 1] W fun e w' => e = .returned (.tuple #[noDrawing, .int .i64 (dN C loops k)]) ∧ Below W.heap.size W w') := fun W bk h1 h2 hW => drawn_no hFR a cap C loops k bk W hn h1 h2 hW
  generalize dN C loops k = r at hn HF
  have hr0 : (r == 0) = false := beq_eq_false_iff_ne.2 hn
  have HB1 : Hid (Below w.heap.size w (((w.alloc (.cells #[.slice a C.length cap, .int .i64 loops] 24)).alloc (.cells #[.slice none 0 0, .int .i64 0] 24)).alloc (.cells #[.int .i64 k] 3))) := below3 _ _ _ _
  have HT1 : Hid ((((w.alloc (.cells #[.slice a C.length cap, .int .i64 loops] 24)).alloc (.cells #[.slice none 0 0, .int .i64 0] 24)).alloc (.cells #[.int .i64 k] 3)).heap[w.heap.size + 1]? = some (.cells #[.slice none 0 0, .int .i64 0] 24 (0, 0))) := alloc_old (alloc_at (by simp))
  have HT2 : Hid ((((w.alloc (.cells #[.slice a C.length cap, .int .i64 loops] 24)).alloc (.cells #[.slice none 0 0, .int .i64 0] 24)).alloc (.cells #[.int .i64 k] 3)).cell? ⟨w.heap.size + 1 + 1, 0, none⟩ = some (.int .i64 k)) := block_cell (alloc_at (by simp)) rfl
  clear h
  go_enter Try.func49, Try.ntmps49
  go_wp2_with (go_at_call 102; refine (HF.out _ (w.heap.size + 1 + 1) (by simp) HT2.out (HC.out.up HB1.out)).mono ?_; rintro e9 w2 ⟨rfl, hb2⟩; refine Hid.out ?_)
  refine Lib.hid ?_
  unfold noDrawing
  have HB2 : Hid (Below w.heap.size w w2) := HB1.out.trans (hb2.mono (by simp; omega))
  have HR : Hid (w2.heap[w.heap.size + 1]? = some (.cells #[.slice none 0 0, .int .i64 0] 24 (0, 0))) := (hb2.block _ (by simp)).trans HT1.out
  have hs2 : w.heap.size + 3 ≤ w2.heap.size := by have := hb2.size; simpa using this
  have HBA : Hid (Below w.heap.size w (w2.alloc (.cells #[.slice none 0 0, .int .i64 0, .slice none 0 0, .slice none 0 0] 88))) := HB2.out.alloc HB2.out.size _
  have HA : Hid ((w2.alloc (.cells #[.slice none 0 0, .int .i64 0, .slice none 0 0, .slice none 0 0] 88)).heap[w.heap.size + 1]? = some (.cells #[.slice none 0 0, .int .i64 0] 24 (0, 0))) := alloc_old HR.out
  have c0 : (w2.alloc (.cells #[.slice none 0 0, .int .i64 0, .slice none 0 0, .slice none 0 0] 88)).cell? ⟨w.heap.size + 1, 0, none⟩ = some (.slice none 0 0) := block_cell HA.out rfl
  have c1 : (w2.alloc (.cells #[.slice none 0 0, .int .i64 0, .slice none 0 0, .slice none 0 0] 88)).cell? ⟨w.heap.size + 1, 1, none⟩ = some (.int .i64 0) := block_cell HA.out rfl
  have f0 : (w2.alloc (.cells #[.slice none 0 0, .int .i64 0, .slice none 0 0, .slice none 0 0] 88)).frozen? ⟨w.heap.size + 1, 0, none⟩ = false := block_frozen HA.out
  have f1 : (w2.alloc (.cells #[.slice none 0 0, .int .i64 0, .slice none 0 0, .slice none 0 0] 88)).frozen? ⟨w.heap.size + 1, 1, none⟩ = false := block_frozen HA.out
  clear hb2
  go_wp2
  have hX := set_block (i := 1) (u := .int .i64 0) (set_block (i := 0) (u := .slice none 0 0) HA.out)
  have x0 := block_cell (i := 0) (v := .slice none 0 0) hX rfl
  have x1 := block_cell (i := 1) (v := .int .i64 0) hX rfl
  have hG := st2_grown (w2.alloc (.cells #[.slice none 0 0, .int .i64 0, .slice none 0 0, .slice none 0 0] 88)) (w.heap.size + 1) 0 (.slice none 0 0) (.int .i64 0)
  exact bodyPost_ret (v := .tuple #[.agg #[.slice none 0 0, .int .i64 0], .int .i64 r]) (by simp [results, Try.results49, go_sem, x0, x1]) rfl ⟨rfl, HBA.out.grown hG HBA.out.size (fun q hq => by have := Option.some.inj hq; omega)⟩

set_option maxHeartbeats 8000000 in
set_option maxRecDepth 100000 in
theorem change_yes (hFR : FaceRingsOk) (a : Option Addr) (cap : Nat) (C : List Cr) (loops : Int) (k : Nat) (w : World) (hn : dN C loops k = 0) (h : Crs w w.heap.size (.slice a C.length cap) C) :
    Calls Try.prog 48 #[.agg #[.slice a C.length cap, .int .i64 loops], .int .i64 (k : Nat)] w fun e w' => ∃ v, e = .returned (.tuple #[.agg #[v, .int .i64 loops], .int .i64 0]) ∧ w'.ownsRow w.heap.size 99 5 v C.length (crossCells (C.set k (mirX (C.getD k Cr.none)))) ∧ Below w.heap.size w w' := by
  obtain ⟨hz, k0, k1, k8⟩ := dN_zero hn
  have hk : k < C.length := by omega
  have HM : Hid (mayD C loops = true) := (noN_zero hz).1
  obtain ⟨s1, l0, l16, -⟩ := sizeB_iff (may_size HM.out)
  have HC : Hid (Crs w w.heap.size (.slice a C.length cap) C) := h
  have HF : Hid (∀ W bk, bk < W.heap.size → W.cell? ⟨bk, 0, none⟩ = some (.int .i64 (k : Nat)) → Crs W W.heap.size (.slice a C.length cap) C → Calls Try.prog 102 #[.agg #[.slice a C.length cap, .int .i64 loops], .slice (some ⟨bk, 0, none⟩) 1 1] W fun e w' => (∃ gF cF gT cT, e = .returned (.tuple #[drV a cap C loops gF cF gT cT, .int .i64 0]) ∧ Dr w' a cap C gF gT) ∧ Below W.heap.size W w') := fun W bk h1 h2 hW => drawn_yes hFR a cap C loops k bk W hn h1 h2 hW
  have HB1 : Hid (Below w.heap.size w (((w.alloc (.cells #[.slice a C.length cap, .int .i64 loops] 24)).alloc (.cells #[.slice none 0 0, .int .i64 0] 24)).alloc (.cells #[.int .i64 (k : Nat)] 3))) := below3 _ _ _ _
  have HT0 : Hid ((((w.alloc (.cells #[.slice a C.length cap, .int .i64 loops] 24)).alloc (.cells #[.slice none 0 0, .int .i64 0] 24)).alloc (.cells #[.int .i64 (k : Nat)] 3)).heap[w.heap.size]? = some (.cells #[.slice a C.length cap, .int .i64 loops] 24 (0, 0))) := alloc_old (alloc_old (alloc_at rfl))
  have HT1 : Hid ((((w.alloc (.cells #[.slice a C.length cap, .int .i64 loops] 24)).alloc (.cells #[.slice none 0 0, .int .i64 0] 24)).alloc (.cells #[.int .i64 (k : Nat)] 3)).heap[w.heap.size + 1]? = some (.cells #[.slice none 0 0, .int .i64 0] 24 (0, 0))) := alloc_old (alloc_at (by simp))
  have HT2 : Hid ((((w.alloc (.cells #[.slice a C.length cap, .int .i64 loops] 24)).alloc (.cells #[.slice none 0 0, .int .i64 0] 24)).alloc (.cells #[.int .i64 (k : Nat)] 3)).cell? ⟨w.heap.size + 1 + 1, 0, none⟩ = some (.int .i64 (k : Nat))) := block_cell (alloc_at (by simp)) rfl
  clear h hn hz
  go_enter Try.func48, Try.ntmps48
  go_wp2_with (go_at_call 102; refine (HF.out _ (w.heap.size + 1 + 1) (by simp) HT2.out (HC.out.up HB1.out)).mono ?_; rintro e9 w2 ⟨⟨gF, cF, gT, cT, rfl, hd2⟩, hb2⟩; refine Hid.out ?_)
  refine Lib.hid ?_
  unfold drV
  have HB2 : Hid (Below w.heap.size w w2) := HB1.out.trans (hb2.mono (by simp; omega))
  have HR0 : Hid (w2.heap[w.heap.size]? = some (.cells #[.slice a C.length cap, .int .i64 loops] 24 (0, 0))) := (hb2.block _ (by simp; omega)).trans HT0.out
  have HR : Hid (w2.heap[w.heap.size + 1]? = some (.cells #[.slice none 0 0, .int .i64 0] 24 (0, 0))) := (hb2.block _ (by simp)).trans HT1.out
  have hs2 : w.heap.size + 3 ≤ w2.heap.size := by have := hb2.size; simpa using this
  obtain ⟨X, hX0⟩ : ∃ X, X = w2.alloc (.cells #[.slice a C.length cap, .int .i64 loops, .slice (some ⟨gF, 0, none⟩) (2 * C.length + 1) cF, .slice (some ⟨gT, 0, none⟩) (2 * C.length + 1) cT] 88) := ⟨_, rfl⟩
  have HX : Hid (X = w2.alloc (.cells #[.slice a C.length cap, .int .i64 loops, .slice (some ⟨gF, 0, none⟩) (2 * C.length + 1) cF, .slice (some ⟨gT, 0, none⟩) (2 * C.length + 1) cT] 88)) := hX0
  have HBX : Hid (Below w2.heap.size w2 X) := (by rw [hX0]; exact (Below.refl _ _).alloc (Nat.le_refl _) _ : Below w2.heap.size w2 X)
  have HTX : Hid (X.heap[w2.heap.size]? = some (.cells #[.slice a C.length cap, .int .i64 loops, .slice (some ⟨gF, 0, none⟩) (2 * C.length + 1) cF, .slice (some ⟨gT, 0, none⟩) (2 * C.length + 1) cT] 88 (0, 0))) := (by rw [hX0]; exact alloc_at rfl : X.heap[w2.heap.size]? = some (.cells #[.slice a C.length cap, .int .i64 loops, .slice (some ⟨gF, 0, none⟩) (2 * C.length + 1) cF, .slice (some ⟨gT, 0, none⟩) (2 * C.length + 1) cT] 88 (0, 0)))
  have hsX : w2.heap.size < X.heap.size := by rw [hX0]; simp
  have HDX : Hid (Dr X a cap C gF gT) := hd2.on HBX.out
  have HBW : Hid (Below w.heap.size w X) := HB2.out.trans (HBX.out.mono HB2.out.size)
  have y0 : w2.cell? ⟨w.heap.size, 0, none⟩ = some (.slice a C.length cap) := block_cell HR0.out rfl
  have y1 : w2.cell? ⟨w.heap.size, 1, none⟩ = some (.int .i64 loops) := block_cell HR0.out rfl
  have ly : w.heap.size < w2.heap.size := by omega
  clear hb2 hd2 hX0
  have HMR : Hid (∀ W, Crs W W.heap.size (.slice a C.length cap) C → Calls Try.prog 20 #[.agg #[.slice a C.length cap, .int .i64 loops]] W fun e w' => ∃ r, e = .returned (.tuple #[.agg #[r, .int .i64 loops], .int .i64 0]) ∧ Crs w' w'.heap.size r (C.map mirX) ∧ Below W.heap.size W w') := fun W hW => mirror_yes _ C loops W HM.out hW
  go_wp2_with (go_at_call 20; rw [← HX.out]; refine (HMR.out _ (HC.out.up HBW.out)).mono ?_; rintro e9 w3 ⟨r, rfl, hr3, hb3⟩; refine Hid.out ?_)
  refine Lib.hid ?_
  have hlm : (C.map mirX).length = C.length := by simp
  obtain ⟨r', c', er, -, hx3⟩ := hr3
  obtain ⟨b3, off3, er', hb3w, hC3⟩ := hx3 (by omega)
  subst er'
  rw [hlm] at er
  subst er
  have HB3 : Hid (Below w.heap.size w w3) := HBW.out.trans (hb3.mono HBW.out.size)
  have HX3 : Hid (Below X.heap.size X w3) := hb3
  have HC3 : Hid (CrossAt w3 b3 off3 (C.map mirX)) := hC3
  have hs3 := hb3.size
  clear hx3 hb3 hC3 y0 y1
  obtain ⟨V, hV0⟩ : ∃ V, V = w3.alloc (.cells #[.slice (some ⟨b3, off3, none⟩) C.length c', .int .i64 loops] 24) := ⟨_, rfl⟩
  have HV : Hid (V = w3.alloc (.cells #[.slice (some ⟨b3, off3, none⟩) C.length c', .int .i64 loops] 24)) := hV0
  have HBV : Hid (Below w3.heap.size w3 V) := (by rw [hV0]; exact (Below.refl _ _).alloc (Nat.le_refl _) _ : Below w3.heap.size w3 V)
  have HTV : Hid (V.heap[w3.heap.size]? = some (.cells #[.slice (some ⟨b3, off3, none⟩) C.length c', .int .i64 loops] 24 (0, 0))) := (by rw [hV0]; exact alloc_at rfl : V.heap[w3.heap.size]? = some (.cells #[.slice (some ⟨b3, off3, none⟩) C.length c', .int .i64 loops] 24 (0, 0)))
  have hsV : V.heap.size = w3.heap.size + 1 := by rw [hV0]; simp
  have HWV : Hid (Below w.heap.size w V) := HB3.out.trans (HBV.out.mono HB3.out.size)
  have HXV : Hid (Below X.heap.size X V) := HX3.out.trans (HBV.out.mono (by omega))
  clear hV0
  have u0 : w3.cell? ⟨w2.heap.size, 0, none⟩ = some (.slice a C.length cap) := block_cell ((HX3.out.block _ (by omega)).trans HTX.out) rfl
  have lu : w2.heap.size < w3.heap.size := by omega
  obtain ⟨b, off, ea, hbw, hCw⟩ := crs_some HC.out (by omega)
  subst ea
  have HCV : Hid (CrossAt V b off C) := hCw.on HWV.out hbw
  clear hCw
  go_wp2_with (go_at_call 85; rw [← HV.out]; refine (cloneCross_any b off cap C _ (by omega) (by omega) HCV.out).mono ?_; rintro e9 w4 ⟨v4, rfl, hr4, hb4⟩; refine Hid.out ?_)
  refine Lib.hid ?_
  obtain ⟨g4, c4, ev4⟩ := own_block' hr4 (by omega)
  subst ev4
  have HR4 : Hid (w4.ownsRow V.heap.size 99 5 (.slice (some ⟨g4, 0, none⟩) C.length c4) C.length (crossCells C)) := hr4
  have HB4 : Hid (Below V.heap.size V w4) := hb4
  have hs4 := hb4.size
  have hg4 := hr4.lt g4 rfl
  clear hr4 hb4 u0
  have i0 : w4.cell? ⟨w3.heap.size, 0, none⟩ = some (.slice (some ⟨b3, off3, none⟩) C.length c') := block_cell ((HB4.out.block _ (by omega)).trans HTV.out) rfl
  have li : w3.heap.size < w4.heap.size := by omega
  have lb3 : b3 < w4.heap.size := by omega
  obtain ⟨m0, m1, m2, m3, m4⟩ := ((HC3.out.on HBV.out hb3w).on HB4.out (by omega)) k (by omega)
  have HMK : Hid ((C.map mirX).getD k Cr.none = mirX (C.getD k Cr.none)) := (by simp [List.getD_eq_getElem?_getD, hk] : (C.map mirX).getD k Cr.none = mirX (C.getD k Cr.none))
  rw [HMK.out] at m0 m1 m2 m3 m4
  obtain ⟨y, hy⟩ : ∃ y, mirX (C.getD k Cr.none) = y := ⟨_, rfl⟩
  rw [hy] at m0 m1 m2 m3 m4
  have HYE : Hid (mirX (C.getD k Cr.none) = y) := hy
  clear hy
  obtain ⟨ya, yb, yc, yd, yp⟩ := y
  have n0 : ∀ q, q < C.length * 5 → w4.cell? ⟨g4, q, none⟩ = (crossCells C)[q]? := fun q hq => HR4.out.cellAt q hq
  obtain ⟨e0, e1, e2, e3, e4⟩ := cells_get C k hk
  have o0 := (n0 (k * 5) (by omega)).trans e0
  have o1 := (n0 (k * 5 + 1) (by omega)).trans e1
  have o2 := (n0 (k * 5 + 2) (by omega)).trans e2
  have o3 := (n0 (k * 5 + 3) (by omega)).trans e3
  have o4 := (n0 (k * 5 + 4) (by omega)).trans e4
  have z0 : w4.frozen? ⟨g4, k * 5, none⟩ = false := HR4.out.frozenAt _
  have z1 : w4.frozen? ⟨g4, k * 5 + 1, none⟩ = false := HR4.out.frozenAt _
  have z2 : w4.frozen? ⟨g4, k * 5 + 2, none⟩ = false := HR4.out.frozenAt _
  have z3 : w4.frozen? ⟨g4, k * 5 + 3, none⟩ = false := HR4.out.frozenAt _
  have z4 : w4.frozen? ⟨g4, k * 5 + 4, none⟩ = false := HR4.out.frozenAt _
  have lg4 : g4 < w4.heap.size := hg4.2
  have ik0 : (0 : Int) ≤ (k : Int) := by omega
  have ik1 : (k : Int) < (C.length : Int) := by omega
  generalize C.getD k Cr.none = cx at o0 o1 o2 o3 o4
  clear n0 e0 e1 e2 e3 e4
  have HW24 : Hid (Below w2.heap.size w2 w4) := (HBX.out.trans (HXV.out.mono (by omega))).trans (HB4.out.mono (by omega))
  have HWW4 : Hid (Below w.heap.size w w4) := HB2.out.trans (HW24.out.mono HB2.out.size)
  have HRS : Hid (w4.heap[w.heap.size + 1]? = some (.cells #[.slice none 0 0, .int .i64 0] 24 (0, 0))) := (HW24.out.block _ (by omega)).trans HR.out
  have HTD : Hid (w4.heap[w2.heap.size]? = some (.cells #[.slice (some ⟨b, off, none⟩) C.length cap, .int .i64 loops, .slice (some ⟨gF, 0, none⟩) (2 * C.length + 1) cF, .slice (some ⟨gT, 0, none⟩) (2 * C.length + 1) cT] 88 (0, 0))) := (HB4.out.block _ (by omega)).trans ((HXV.out.block _ (by omega)).trans HTX.out)
  go_upto_region 9 with (fail)
  have h5 := put5R HR4.out hk ⟨ya, yb, yc, yd, yp⟩
  generalize ((((w4.setCell ⟨g4, k * 5, none⟩ (.int .i64 ya)).setCell ⟨g4, k * 5 + 1, none⟩ (.int .i64 yb)).setCell ⟨g4, k * 5 + 2, none⟩ (.int .i64 yc)).setCell ⟨g4, k * 5 + 3, none⟩ (.int .i64 yd)).setCell ⟨g4, k * 5 + 4, none⟩ (.bool yp) = Z at h5 ⊢
  have HZR : Hid (Z.ownsRow V.heap.size 99 5 (.slice (some ⟨g4, 0, none⟩) C.length c4) C.length (crossCells (C.set k ⟨ya, yb, yc, yd, yp⟩))) := h5.1
  have hsZ := h5.2.size
  have HZS : Hid (Z.heap[w.heap.size + 1]? = some (.cells #[.slice none 0 0, .int .i64 0] 24 (0, 0))) := (h5.2.block _ (by omega) (fun e => by have := Option.some.inj e; omega)).trans HRS.out
  have HZD : Hid (Z.heap[w2.heap.size]? = some (.cells #[.slice (some ⟨b, off, none⟩) C.length cap, .int .i64 loops, .slice (some ⟨gF, 0, none⟩) (2 * C.length + 1) cF, .slice (some ⟨gT, 0, none⟩) (2 * C.length + 1) cT] 88 (0, 0))) := (h5.2.block _ (by omega) (fun e => by have := Option.some.inj e; omega)).trans HTD.out
  have HZB : Hid (Below w.heap.size w Z) := HWW4.out.grown h5.2 HWW4.out.size (fun q hq => by have := Option.some.inj hq; omega)
  clear h5 o0 o1 o2 o3 o4 z0 z1 z2 z3 z4 m0 m1 m2 m3 m4 i0
  have d1 : Z.cell? ⟨w2.heap.size, 1, none⟩ = some (.int .i64 loops) := block_cell HZD.out rfl
  have r0 : Z.cell? ⟨w.heap.size + 1, 0, none⟩ = some (.slice none 0 0) := block_cell HZS.out rfl
  have r1 : Z.cell? ⟨w.heap.size + 1, 1, none⟩ = some (.int .i64 0) := block_cell HZS.out rfl
  have f0 : Z.frozen? ⟨w.heap.size + 1, 0, none⟩ = false := block_frozen HZS.out
  have f1 : Z.frozen? ⟨w.heap.size + 1, 1, none⟩ = false := block_frozen HZS.out
  have q1 : w2.heap.size < Z.heap.size := by omega
  have q2 : w.heap.size + 1 < Z.heap.size := by omega
  go_wp2
  have hX := set_block (i := 1) (u := .int .i64 loops) (set_block (i := 0) (u := .slice (some ⟨g4, 0, none⟩) C.length c4) HZS.out)
  have x0 := block_cell (i := 0) (v := .slice (some ⟨g4, 0, none⟩) C.length c4) hX rfl
  have x1 := block_cell (i := 1) (v := .int .i64 loops) hX rfl
  have hgg := st2_grown Z (w.heap.size + 1) 0 (.slice (some ⟨g4, 0, none⟩) C.length c4) (.int .i64 loops)
  refine bodyPost_ret (v := .tuple #[.agg #[.slice (some ⟨g4, 0, none⟩) C.length c4, .int .i64 loops], .int .i64 0]) (by simp [results, Try.results48, go_sem, x0, x1]) rfl ⟨_, rfl, ?_, HZB.out.grown hgg HZB.out.size (fun q hq => by have := Option.some.inj hq; omega)⟩
  rw [HYE.out]
  exact own_low (HZR.out.kept hgg (Or.inr (fun e => by have : g4 = w.heap.size + 1 := Option.some.inj e; omega))) (by omega)
end Go.Proofs.Ytajmogojekichaa
