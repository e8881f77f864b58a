/- Several texts of the proof, one behind the other. -/
import Derived.Test.YtlimfajjmhfnaaaGreatDoorW5P
import Derived.Test.YtlimfajjmhfnaaaGreatDoorH7
import Derived.Test.YtlimfajjmhfnaaaGreatDoorW1
/- In a seat where W5 builds, W5d is W5. -/
/- code.May, for door seats. -/
namespace Go.Proofs.YtlimfajjmhfnaaaGreatDoor
open Go.RowKit

set_option maxHeartbeats 4000000 in
set_option maxRecDepth 100000 in
theorem codeMayD_any (v : Value) (C : List Cr) (loops : Int) (w : World) (h : Crs w w.heap.size v C) :
    Calls Tryz.prog 6 #[.agg #[v, .int .i64 loops]] w fun e w' => e = .returned (.bool (mayD C loops)) ∧ Below w.heap.size w w' := by
  have HC : Hid (Crs w w.heap.size v C) := h
  obtain ⟨a, cap, rfl, hn, -⟩ := h
  have HB1 : Hid (Below w.heap.size w (w.alloc (.cells #[.slice a C.length cap, .int .i64 loops] 24))) := (Below.refl _ _).alloc (Nat.le_refl _) _
  cases hm : mayD C loops with
  | false =>
    have HM : Hid (mayD C loops = false) := hm
    clear hm
    go_enter Tryz.func6, Tryz.ntmps6
    go_wp2_with (go_at_call 14; refine (of_any _ C loops _ (HC.out.up HB1.out)).mono ?_; rw [HM.out]; rintro e9 w2 ⟨d, rfl, hb2, hd⟩; rw [hd.no HM.out]; refine Hid.out ?_)
    refine Lib.hid ?_
    unfold noDrawing
    have HB2 : Hid (Below w.heap.size w w2) := HB1.out.trans (hb2.mono HB1.out.size)
    clear hb2 hd
    go_wp2
    go_ret
    exact ⟨rfl, HB2.out.alloc HB2.out.size _⟩
  | true =>
    have HM : Hid (mayD C loops = true) := hm
    clear hm
    go_enter Tryz.func6, Tryz.ntmps6
    go_wp2_with (go_at_call 14; refine (of_any _ C loops _ (HC.out.up HB1.out)).mono ?_; rw [HM.out]; rintro e9 w2 ⟨d, rfl, hb2, hd⟩; obtain ⟨gF, cF, gT, cT, rfl, -⟩ := hd.yes HM.out; refine Hid.out ?_)
    refine Lib.hid ?_
    have HB2 : Hid (Below w.heap.size w w2) := HB1.out.trans (hb2.mono HB1.out.size)
    clear hb2 hd
    go_wp2
    go_ret
    exact ⟨rfl, HB2.out.alloc HB2.out.size _⟩
end Go.Proofs.YtlimfajjmhfnaaaGreatDoor
