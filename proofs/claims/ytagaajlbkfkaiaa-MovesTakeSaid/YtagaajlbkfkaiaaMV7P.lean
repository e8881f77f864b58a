/- Several texts of the proof, one behind the other. -/
import Derived.Test.YtagaajlbkfkaiaaMV5P
import Derived.Test.YtagaajlbkfkaiaaTkhP
import Derived.Deep.RegionHeld
import Derived.Test.YtagaajlbkfkaiaaME2
import Derived.Test.YtagaajlbkfkaiaaW11P
import Derived.Test.YtagaajlbkfkaiaaF4P
/- Moves: the walk of bench.curl, where it may be done. Made by genmv7.py. -/
namespace Go.Proofs.Ytagaajlbkfkaiaa
open Go.RowKit Go.Maps

end Go.Proofs.Ytagaajlbkfkaiaa
/- The walk of ref.set. Made by genme3.py. -/
namespace Go.Proofs.Ytagaajlbkfkaiaa
open Go.RowKit

/-- A crossing with another arc at side k. -/
def Cr.at (x : Cr) (k : Nat) (v : Int) : Cr := if k = 0 then ⟨v, x.b, x.c, x.d, x.plus⟩ else if k = 1 then ⟨x.a, v, x.c, x.d, x.plus⟩ else if k = 2 then ⟨x.a, x.b, v, x.d, x.plus⟩ else ⟨x.a, x.b, x.c, v, x.plus⟩
end Go.Proofs.Ytagaajlbkfkaiaa
