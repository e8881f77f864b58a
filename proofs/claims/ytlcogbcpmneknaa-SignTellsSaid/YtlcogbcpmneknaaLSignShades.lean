/- The law SignShades: its walk. -/
import Derived.Test.YtlcogbcpmneknaaSR3
import Derived.Test.YtlcogbcpmneknaaSG0P
import Derived.Test.YtlcogbcpmneknaaZ0P
namespace Go.Proofs.Ytlcogbcpmneknaa
open Go.RowKit Go.Maps

set_option maxHeartbeats 4000000 in
set_option maxRecDepth 100000 in
theorem one_any (a : Option Addr) (cap : Nat) (C : List Cr) (loops : Int) (w : World) (h : Crs w w.heap.size (.slice a C.length cap) C) :
    Calls Try.prog 7 #[.agg #[.slice a C.length cap, .int .i64 loops]] w fun e w' => e = .returned (.int .i64 (oneN C loops)) ∧ Below w.heap.size w w' := by
  have HC := hidS h
  have HB1 := hidS ((Below.refl w.heap.size w).alloc (Nat.le_refl _) (.cells #[.slice a C.length cap, .int .i64 loops] 24))
  have HPM := hidS (fun W (hW : Crs W W.heap.size (.slice a C.length cap) C) => planarMay_any (.slice a C.length cap) C loops W hW)
  by_cases hn : noN C loops = 0
  · obtain ⟨hm, -⟩ := noN_zero hn
    have HOP := hidS (fun W (hW : Crs W W.heap.size (.slice a C.length cap) C) => onePiece_any (.slice a C.length cap) C loops W hm hW)
    have hone : oneN C loops = if oneB C loops = true then 0 else 6 := by unfold oneN; rw [if_neg (by omega)]
    rw [hn] at HPM
    rw [hone]
    have HT1 : Hid (∀ W, Below (w.alloc (.cells #[.slice a C.length cap, .int .i64 loops] 24)).heap.size (w.alloc (.cells #[.slice a C.length cap, .int .i64 loops] 24)) W → W.cell? ⟨w.heap.size, 0, none⟩ = some (.slice a C.length cap) ∧ W.cell? ⟨w.heap.size, 1, none⟩ = some (.int .i64 loops) ∧ w.heap.size < W.heap.size) := fun W hW => by
      have e := (hW.block w.heap.size (by simp)).trans (alloc_at rfl)
      exact ⟨block_cell e rfl, block_cell e rfl, (Array.getElem?_eq_some_iff.1 e).1⟩
    cases hb : oneB C loops
    all_goals
      rw [hb] at HOP
      clear h hn hm hone hb
      first | rw [if_neg (by decide)] | rw [if_pos rfl]
      go_enter Try.func7, Try.ntmps7
      go_wp2_with (first
        | (go_at_call 18; refine (HPM.out _ (HC.out.up HB1.out)).mono ?_; rintro e9 w2 ⟨rfl, hb2⟩
           have HB2 := hidS (HB1.out.trans (hb2.mono (by simp)))
           have c0 := HT1.out _ hb2
           clear hb2)
        | (go_at_call 19; refine (HOP.out _ (HC.out.up HB2.out)).mono ?_; rintro e9 w3 ⟨rfl, hb3⟩
           have HB3 := hidS (HB2.out.trans (hb3.mono HB2.out.size))
           clear hb3))
      go_ret
      exact ⟨by first | rfl | simp, HB3.out⟩
  · have hone : oneN C loops = noN C loops := by unfold oneN; rw [if_pos hn]
    rw [hone]
    generalize noN C loops = r at HPM hn
    have hr0 : (r == 0) = false := beq_eq_false_iff_ne.2 hn
    clear h hone hn
    go_enter Try.func7, Try.ntmps7
    go_wp2_with (go_at_call 18; refine (HPM.out _ (HC.out.up HB1.out)).mono ?_; rintro e9 w2 ⟨rfl, hb2⟩
                 have HB2 := hidS (HB1.out.trans (hb2.mono (by simp)))
                 clear hb2)
    go_ret
    exact ⟨by first | rfl | simp, HB2.out⟩
end Go.Proofs.Ytlcogbcpmneknaa
