/- Moves: an entry of a map from spots to numbers, found first and stored into then. -/
import Derived.Test.YtagaajlbkfkaiaaMV4
import Derived.WideKeyEntry
namespace Go.Proofs.Ytagaajlbkfkaiaa
open Go.RowKit Go.Maps Go.ChangeMaps

theorem set_set (w : World) (b : Nat) (o p : Obj) : Go.ChangeMaps.setBlock (Go.ChangeMaps.setBlock w b o) b p = Go.ChangeMaps.setBlock w b p := by
  unfold Go.ChangeMaps.setBlock
  simp
end Go.Proofs.Ytagaajlbkfkaiaa
