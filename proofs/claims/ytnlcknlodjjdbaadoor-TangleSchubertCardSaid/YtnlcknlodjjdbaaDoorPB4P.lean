/- Several texts of the proof, one behind the other. -/
import Derived.Test.YtnlcknlodjjdbaaDoorPB2P
import Derived.Test.YtnlcknlodjjdbaaDoorPMathP
import Derived.Test.YtnlcknlodjjdbaaDoorPA10P
/- The walks of poly.combined, poly.Add and poly.Mul. -/
namespace Go.Proofs.YtnlcknlodjjdbaaDoor.Poly
open Go.RowKit Go.Maps

end Go.Proofs.YtnlcknlodjjdbaaDoor.Poly
/- The walk of knotworkref.Put: a term put into a list in form. -/
namespace Go.Proofs.YtnlcknlodjjdbaaDoor.Poly
open Go.RowKit Go.Maps

/-- A slice of terms, its length within its capacity. -/
def PolyC (w : World) (B : Nat) (v : Value) (l : List (Int × Int)) : Prop := Poly w B v l ∧ ∃ a n c, v = .slice a n c ∧ n ≤ c ∧ c ≤ maxLen

theorem PolyC.ofRow {w : World} {base : Nat} {v : Value} {l : List (Int × Int)} (h : w.ownsRow base 62 2 v l.length (flat l)) : PolyC w w.heap.size v l := by
  refine ⟨Poly.ofRow h, ?_⟩
  rcases h.2 with ⟨rfl, h0⟩ | ⟨g, cap, cur, rfl, _, _, h1, h2, _⟩
  · exact ⟨none, 0, 0, rfl, Nat.le_refl _, Nat.zero_le _⟩
  · exact ⟨_, _, _, rfl, h1, h2⟩

theorem PolyC.up {w w' : World} {v : Value} {l : List (Int × Int)} (h : PolyC w w.heap.size v l) (hb : Below w.heap.size w w') : PolyC w' w'.heap.size v l := ⟨h.1.up hb, h.2⟩

end Go.Proofs.YtnlcknlodjjdbaaDoor.Poly
/- The walk of the law knotworklaw.PolyTurns itself: it answers true. -/
namespace Go.Proofs.YtnlcknlodjjdbaaDoor.Poly
open Go.RowKit Go.Maps

end Go.Proofs.YtnlcknlodjjdbaaDoor.Poly
