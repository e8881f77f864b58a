/- The law CodeReads. -/
import Derived.Test.YtlimfajjmhfnaaaDoorRD9
import Derived.Test.YtlimfajjmhfnaaaDoorK3d
namespace Go.Proofs.YtlimfajjmhfnaaaDoor
open Go.RowKit

set_option maxHeartbeats 8000000 in
set_option maxRecDepth 100000 in
theorem codeReads_any (L : List UInt8) (w : World) (hT : TabsAt w.heap.size w) (hM : MaxAt w) (hL0 : L.length ≤ 9223372036854775807) :
    Calls Tryd.prog 5 #[.string ⟨L.toArray⟩] w fun e w' => e = .returned (.bool true) ∧ Below w.heap.size w w' := by
  obtain ⟨E, hE⟩ : ∃ E, rdM L = E := ⟨_, rfl⟩
  obtain ⟨x, C, m⟩ := E
  have HRA : Hid (Calls Tryd.prog 12 #[.string ⟨L.toArray⟩] w fun e w' => ∃ a c, e = .returned (.tuple #[.agg #[.slice a C.length c, .int .i64 (m : Nat)], .int .i64 x]) ∧ Crs w' w'.heap.size (.slice a C.length c) C ∧ Below w.heap.size w w') := by
    refine (read_any L w hT hM hL0).mono fun e w' h => ?_
    obtain ⟨v, he, hc, hb⟩ := h
    rw [hE] at he hc
    have hc' := hc
    obtain ⟨a, c, rfl, -⟩ := hc
    exact ⟨a, c, he, hc', hb⟩
  have HRD : Hid (∀ W : World, Calls Tryd.prog 13 #[.string ⟨L.toArray⟩] W fun e w' => ∃ a c, e = .returned (.tuple #[.agg #[.slice a C.length c, .int .i64 (m : Nat)], .int .i64 x]) ∧ Crs w' w'.heap.size (.slice a C.length c) C ∧ Below W.heap.size W w') := by
    refine Hid.out (p := _) ?_
    intro W
    refine (readDiagram_any L W hL0).mono fun e w' h => ?_
    obtain ⟨v, he, hc, hb⟩ := h
    rw [hE] at he hc
    have hc' := hc
    obtain ⟨a, c, rfl, -⟩ := hc
    exact ⟨a, c, he, hc', hb⟩
  clear hE hT hM
  go_enter Tryd.func5, Tryd.ntmps5
  go_upto_region 2 with (go_at_call 12; refine HRA.out.mono ?_; rintro e9 w2 ⟨a2, c2, rfl, hc2, hb2⟩)
  obtain ⟨Y, hY⟩ : ∃ Y, Y = w2.alloc (.cells #[.slice a2 C.length c2, .int .i64 (m : Nat)] 37) := ⟨_, rfl⟩
  rw [← hY]
  have HCY : Hid (Crs Y Y.heap.size (.slice a2 C.length c2) C) := (by rw [hY]; exact hc2.up ((Below.refl _ _).alloc (Nat.le_refl _) _) : Crs Y Y.heap.size (.slice a2 C.length c2) C)
  have HDY : Hid (Y.heap[w2.heap.size]? = some (.cells #[.slice a2 C.length c2, .int .i64 (m : Nat)] 37 (0, 0))) := (by rw [hY]; exact alloc_at rfl : Y.heap[w2.heap.size]? = some (.cells #[.slice a2 C.length c2, .int .i64 (m : Nat)] 37 (0, 0)))
  have HBY : Hid (Below w.heap.size w Y) := (by rw [hY]; exact hb2.alloc hb2.size _ : Below w.heap.size w Y)
  have lY := (Array.getElem?_eq_some_iff.1 HDY.out).1
  clear hY hc2 hb2 HRA
  go_upto_region 3 with (go_at_call 13; refine (HRD.out _).mono ?_; rintro e9 w3 ⟨a3, c3, rfl, hc3, hb3⟩)
  obtain ⟨Z, hZ⟩ : ∃ Z, Z = w3.alloc (.cells #[.slice a3 C.length c3, .int .i64 (m : Nat)] 37) := ⟨_, rfl⟩
  rw [← hZ]
  have HCZ : Hid (Crs Z Z.heap.size (.slice a3 C.length c3) C) := (by rw [hZ]; exact hc3.up ((Below.refl _ _).alloc (Nat.le_refl _) _) : Crs Z Z.heap.size (.slice a3 C.length c3) C)
  have HBZ : Hid (Below Y.heap.size Y Z) := (by rw [hZ]; exact hb3.alloc hb3.size _ : Below Y.heap.size Y Z)
  have HCY2 : Hid (Crs Z Z.heap.size (.slice a2 C.length c2) C) := HCY.out.up HBZ.out
  have hz1 : Z.heap[w2.heap.size]? = some (.cells #[.slice a2 C.length c2, .int .i64 (m : Nat)] 37 (0, 0)) := (HBZ.out.block _ lY).trans HDY.out
  have hz2 : Z.heap[w3.heap.size]? = some (.cells #[.slice a3 C.length c3, .int .i64 (m : Nat)] 37 (0, 0)) := by rw [hZ]; exact alloc_at rfl
  have q0 : Z.cell? ⟨w2.heap.size, 0, none⟩ = some (.slice a2 C.length c2) := block_cell hz1 rfl
  have q1 : Z.cell? ⟨w2.heap.size, 1, none⟩ = some (.int .i64 (m : Nat)) := block_cell hz1 rfl
  have q2 : Z.cell? ⟨w3.heap.size, 0, none⟩ = some (.slice a3 C.length c3) := block_cell hz2 rfl
  have q3 : Z.cell? ⟨w3.heap.size, 1, none⟩ = some (.int .i64 (m : Nat)) := block_cell hz2 rfl
  clear hZ hc3 hb3 HRD hz1 hz2
  go_wp2_with (go_at_call 14; refine (sameDiagram_eq _ _ C (m : Nat) _ HCY2.out HCZ.out).mono ?_; rintro e9 w4 ⟨rfl, hb4⟩; have HB4 := hid_of hb4; clear hb4)
  go_ret
  have h1 := HBY.out.trans (HBZ.out.mono HBY.out.size)
  exact ⟨rfl, h1.trans (HB4.out.mono h1.size)⟩
end Go.Proofs.YtlimfajjmhfnaaaDoor
