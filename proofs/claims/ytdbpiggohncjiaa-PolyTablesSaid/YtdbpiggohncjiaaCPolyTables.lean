/-
  PROVED HERE: for every table of lists of terms, poly.Det of a copy of it answers the determinant in form, as the document's own function tells it along the first row (and the document's error, and nothing else, where the table may not be handed in), and the table is left as it was.
  CONDITIONS: none but the row's own reach.
-/
import Derived.Test.YtdbpiggohncjiaaPE5
namespace Go.Proofs.Ytdbpiggohncjiaa
/-- THE STATEMENT. -/
theorem polyTables_holds : Rows.PolyTablesSaid := Poly.polyTables_holds
#print axioms polyTables_holds
end Go.Proofs.Ytdbpiggohncjiaa
