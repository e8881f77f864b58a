/- Several texts of the proof, one behind the other. -/
import Derived.Test.YtlimfajjmhfnaaaGreatDoorW2
import Derived.Lib.Hide
import Derived.Test.YtlimfajjmhfnaaaGreatDoorS2
/- The walk of Drawing.Has. -/
namespace Go.Proofs.YtlimfajjmhfnaaaGreatDoor
open Go.RowKit

/-- Is there such an arc? -/
def hasB (C : List Cr) (x : Int) : Bool := decide (1 ≤ x) && decide (x ≤ 2 * (C.length : Int))

end Go.Proofs.YtlimfajjmhfnaaaGreatDoor
/- The walks of Drawing.Has and canon.tied. -/
namespace Go.Proofs.YtlimfajjmhfnaaaGreatDoor
open Go.RowKit

/-- Both summands as one. -/
def tieC (C D : List Cr) (x y : Int) : List Cr := C.map (tieX 0 x (y + 2 * (C.length : Int))) ++ D.map (tieX (2 * (C.length : Int)) y x)
theorem arcs_in {C : List Cr} {loops : Int} (hm : mayD C loops = true) : ∀ i k, i < C.length → k < 4 → -1000 ≤ (C.getD i Cr.none).arc k ∧ (C.getD i Cr.none).arc k ≤ 1000 := fun i k hi hk => by
  obtain ⟨s, -, -, -⟩ := sizeB_iff (may_size hm)
  have h := may_fit hm i k hi hk
  have h1 := h.1
  have h2 := h.2.1
  omega

end Go.Proofs.YtlimfajjmhfnaaaGreatDoor
