/- The law SignShades: its walk. -/
import Derived.Test.YtagaajlbkfkaiaaSR3
import Derived.Test.YtagaajlbkfkaiaaV6
import Derived.Test.YtagaajlbkfkaiaaQueP
namespace Go.Proofs.Ytagaajlbkfkaiaa
open Go.RowKit Go.Maps

set_option maxHeartbeats 4000000 in
set_option maxRecDepth 100000 in
theorem one_any (a : Option Addr) (cap : Nat) (C : List Cr) (loops : Int) (w : World) (h : Crs w w.heap.size (.slice a C.length cap) C) :
    Calls Try.prog 23 #[.agg #[.slice a C.length cap, .int .i64 loops]] w fun e w' => e = .returned (.int .i64 (oneN C loops)) ∧ Below w.heap.size w w' := by
  have HC := hidS h
  have HB1 := hidS ((Below.refl w.heap.size w).alloc (Nat.le_refl _) (.cells #[.slice a C.length cap, .int .i64 loops] 24))
  have HPM := hidS (fun W (hW : Crs W W.heap.size (.slice a C.length cap) C) => planarMay_any (.slice a C.length cap) C loops W hW)
  by_cases hn : noN C loops = 0
  · obtain ⟨hm, -⟩ := noN_zero hn
    have HOP := hidS (fun W (hW : Crs W W.heap.size (.slice a C.length cap) C) => onePiece_any (.slice a C.length cap) C loops W hm hW)
    have hone : oneN C loops = if oneB C loops = true then 0 else 6 := by unfold oneN; rw [if_neg (by omega)]
    rw [hn] at HPM
    rw [hone]
    have HT1 : Hid (∀ W, Below (w.alloc (.cells #[.slice a C.length cap, .int .i64 loops] 24)).heap.size (w.alloc (.cells #[.slice a C.length cap, .int .i64 loops] 24)) W → W.cell? ⟨w.heap.size, 0, none⟩ = some (.slice a C.length cap) ∧ W.cell? ⟨w.heap.size, 1, none⟩ = some (.int .i64 loops) ∧ w.heap.size < W.heap.size) := fun W hW => by
      have e := (hW.block w.heap.size (by simp)).trans (alloc_at rfl)
      exact ⟨block_cell e rfl, block_cell e rfl, (Array.getElem?_eq_some_iff.1 e).1⟩
    cases hb : oneB C loops
    all_goals
      rw [hb] at HOP
      clear h hn hm hone hb
      first | rw [if_neg (by decide)] | rw [if_pos rfl]
      go_enter Try.func23, Try.ntmps23
      go_wp2_with (first
        | (go_at_call 55; refine (HPM.out _ (HC.out.up HB1.out)).mono ?_; rintro e9 w2 ⟨rfl, hb2⟩
           have HB2 := hidS (HB1.out.trans (hb2.mono (by simp)))
           have c0 := HT1.out _ hb2
           clear hb2)
        | (go_at_call 56; refine (HOP.out _ (HC.out.up HB2.out)).mono ?_; rintro e9 w3 ⟨rfl, hb3⟩
           have HB3 := hidS (HB2.out.trans (hb3.mono HB2.out.size))
           clear hb3))
      go_ret
      exact ⟨by first | rfl | simp, HB3.out⟩
  · have hone : oneN C loops = noN C loops := by unfold oneN; rw [if_pos hn]
    rw [hone]
    generalize noN C loops = r at HPM hn
    have hr0 : (r == 0) = false := beq_eq_false_iff_ne.2 hn
    clear h hone hn
    go_enter Try.func23, Try.ntmps23
    go_wp2_with (go_at_call 55; refine (HPM.out _ (HC.out.up HB1.out)).mono ?_; rintro e9 w2 ⟨rfl, hb2⟩
                 have HB2 := hidS (HB1.out.trans (hb2.mono (by simp)))
                 clear hb2)
    go_ret
    exact ⟨by first | rfl | simp, HB2.out⟩
/-- Goeritz's table as a list of rows. -/
def tabL (m : Nat) (T : Nat → Nat → Int) : List (List Int) := (List.range m).map fun i => mapI m (T i)
theorem tabL_len (m : Nat) (T : Nat → Nat → Int) : (tabL m T).length = m := by simp [tabL]
theorem tabL_get (m : Nat) (T : Nat → Nat → Int) (i : Nat) (h : i < m) : (tabL m T).getD i [] = mapI m (T i) := by simp [tabL, List.getD, h]
theorem TabAt.rdL {B gt m : Nat} {gs : Nat → Nat} {T : Nat → Nat → Int} {W : World} (h : TabAt B gt m gs m T W) : IntsRd W W.heap.size (.slice (some ⟨gt, 0, none⟩) m m) (tabL m T) := by
  refine ⟨outC0 m gs m, by rw [outC0_len, tabL_len], by rw [tabL_len]; exact own_rd h.outer, fun j hj => ?_⟩
  rw [tabL_len] at hj
  rw [tabL_get m T j hj, mapI_len]
  have e : (outC0 m gs m).getD j (.bool false) = .slice (some ⟨gs j, 0, none⟩) m m := by rw [List.getD_eq_getElem?_getD, outC0_get m gs m j hj, if_pos hj]; rfl
  rw [e]
  exact own_rd (h.rows j hj)
theorem TabO.rdL {B gt ct m : Nat} {gs : Nat → Nat} {T : Nat → Nat → Int} {W : World} (h : TabO B gt ct m m gs T W) : IntsRd W W.heap.size (.slice (some ⟨gt, 0, none⟩) m ct) (tabL m T) := by
  refine ⟨hdr m m gs, by rw [hdr_len, tabL_len], by rw [tabL_len]; exact own_rd h.outer, fun j hj => ?_⟩
  rw [tabL_len] at hj
  rw [tabL_get m T j hj, mapI_len]
  have e : (hdr m m gs).getD j (.bool false) = .slice (some ⟨gs j, 0, none⟩) m m := by rw [List.getD_eq_getElem?_getD, hdr_get m m gs j hj]; rfl
  rw [e]
  exact own_rd (h.rows j hj)
end Go.Proofs.Ytagaajlbkfkaiaa
