/- The walk of (*strings.Builder).Grow at a builder that has not been written; strconv.Itoa by its contract. -/
import Derived.Test.YtlimfajjmhfnaaaGreatDoorDT6
import Derived.Test.YtlimfajjmhfnaaaGreatDoorDShelfP
import Derived.Lib.AppendIntMem
import Derived.Shelf.RegionOpen
namespace Go.Proofs.YtlimfajjmhfnaaaGreatDoor
open Go.RowKit

/-- The table of powers of ten lies where the library reads it. -/
def Tab (w : World) : Prop := Lib.TabIs Tryz.prog w "internal/strconv.uint64pow10" .u64 Lib.pow10Tab
theorem Tab.on {w w' : World} (h : Tab w) (hb : Below w.heap.size w w') : Tab w' := Lib.tabBelow_of_tabIs h w' hb

theorem below_growD (w : World) (k : Nat) (os : Array Obj) : Below w.heap.size w (Sort.grow (w.drewN k) os) := by
  have h := below_drewN (Below.refl w.heap.size w) k
  refine h.trans ⟨rfl, rfl, rfl, by simp [Sort.grow], fun i hi => ?_⟩
  have : i < (w.drewN k).heap.size := Nat.lt_of_lt_of_le hi h.size
  simp only [Sort.grow]
  rw [Array.getElem?_append_left this]

theorem itoa_any (n : Int) (w : World) (h0 : -1000000 ≤ n) (h1 : n ≤ 1000000) (hT : Tab w) :
    Calls Tryz.prog 38 #[.int .i64 n] w fun e w' => e = .returned (.string ⟨(Lib.itoa n).toArray⟩) ∧ Below w.heap.size w w' := by
  refine (Tryz.strconv_Itoa n (by omega) (by omega) w hT).mono ?_
  rintro e w' ⟨rfl, k, os, rfl⟩
  exact ⟨rfl, below_growD _ _ _⟩

set_option maxHeartbeats 2000000 in
set_option maxRecDepth 100000 in
theorem bGrow_fresh (B b n : Nat) (w : World) (hB : B ≤ b) (hbk : w.heap[b]? = some (.cells #[.pointer none, .slice none 0 0] 97 (0, 0))) (hBw : B ≤ w.heap.size) (hn : n ≤ 100000000) :
    Calls Tryz.prog 39 #[.pointer (some ⟨b, 0, none⟩), .int .i64 n] w fun e w' => e = .returned (.tuple #[]) ∧ (Lib.IsBuilderF 97 5 B b [] w' ∧ Below B w w') := by
  obtain ⟨W, hW⟩ : ∃ W, W = w.setCell ⟨b, 0, none⟩ (.pointer (some ⟨b, 0, none⟩)) := ⟨_, rfl⟩
  have hbk1 : W.heap[b]? = some (.cells #[.pointer (some ⟨b, 0, none⟩), .slice none 0 0] 97 (0, 0)) := by
    rw [hW]
    simp [World.setCell, Array.getElem?_modify, hbk]
  have c1 : W.cell? ⟨b, 1, none⟩ = some (.slice none 0 0) := block_cell hbk1 rfl
  have c2 : W.drew.cell? ⟨b, 1, none⟩ = some (.slice none 0 0) := c1
  have hb1 : Below B w W := by rw [hW]; exact (Below.refl B w).setCell (p := ⟨b, 0, none⟩) hB _
  have HU : Hid (Lib.IsBuilderF 97 5 B b [] W) := Or.inr (Lib.BuilderAtF.of ⟨hB, .slice none 0 0, hbk1, World.ownsRow_nil _ _ _ _, by simp [Value.ownBlock]⟩)
  have HW : Hid (w.setCell ⟨b, 0, none⟩ (.pointer (some ⟨b, 0, none⟩)) = W) := hW.symm
  have HB1 : Hid (Below B w W) := hb1
  have HK : Hid (W.heap[b]? = some (.cells #[.pointer (some ⟨b, 0, none⟩), .slice none 0 0] 97 (0, 0))) := hbk1
  have HCC : Hid (Calls Tryz.prog 57 #[.pointer (some ⟨b, 0, none⟩)] w fun e w' => e = .returned (.tuple #[]) ∧ w' = w.setCell ⟨b, 0, none⟩ (.pointer (some ⟨b, 0, none⟩))) := copyCheck_fresh b w (block_cell hbk rfl) (by simp [World.shape?, hbk]) (block_frozen hbk)
  have hs1 : B ≤ W.heap.size := Nat.le_trans hBw hb1.size
  clear hbk hW hb1 hbk1
  have mixed : Tryz.prog.follows .mixedOrders = true := by kernel_rfl
  go_enter Tryz.func39, Tryz.ntmps39
  go_wp2_with (go_at_call 57; refine HCC.out.mono ?_; rw [HW.out]; rintro e9 w9 ⟨rfl, e99⟩; obtain rfl := e99.symm; clear e99)
  go_region_o
  all_goals go_wp2_with (go_at_call 58; refine (Tryz.grow_fresh B b n W.drew hB HK.out hs1 (by omega)).mono ?_; rintro e9 w8 ⟨rfl, h1, h2⟩)
  all_goals first
    | (go_end0; exact ⟨rfl, Or.inr (Lib.BuilderAtF.of h1), HB1.out.drew.trans h2⟩)
    | (go_end0; exact ⟨rfl, HU.out, HB1.out.drew⟩)
end Go.Proofs.YtlimfajjmhfnaaaGreatDoor
