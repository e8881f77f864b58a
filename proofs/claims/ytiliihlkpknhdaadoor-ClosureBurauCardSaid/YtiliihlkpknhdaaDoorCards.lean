/-
  DERIVED. GIVEN WITH THE SEED: THE CARDS: each row of YtiliihlkpknhdaaDoorRows.lean that lists a variable, with what it lists TIED to the program's text (the seventh form; the later family's looks); each row that meets fmt, with fmt's text TOLD by the authors' own Lean function (tested against real Go, not proved from fmt's source: count such statements apart). THE CARD IS WHAT COUNTS. Prove the row's statement (the work); the ties are given (YtiliihlkpknhdaaDoorTie.lean); close each card by the builder's one call (the guide's Derived/Test/ToyasCard.lean, 'card_holds'). Laid BY PROGRAM, IN A SANDBOX (cutbox-door.mjs). By AI agents, Wed Nov 11 2026. No macro, syntax, notation, axiom, sorry.
-/
import Derived.Test.YtiliihlkpknhdaaDoorRows
import GoSem.ClaimSeven
namespace Go.Proofs.YtiliihlkpknhdaaDoor
namespace Rows

/-- THE TIED CARD OF 'knotworkkeep.ClosureBurau'. -/
def closureBurauCard : Claim7 := { stood := { row := closureBurauRow, standIns := [], harness := (true, "b7b1c738446639bd5e47e36974411f4a8a587f8646724f748b0f78f150880418"), looks := false }, kinds := [], alts := [], laidByText := true, laidKinds := [.data], laidTests := true, laidLooks := .later }
def ClosureBurauCardSaid : Prop := Claim7.holds Tryd.pinned (.plain (OpenSpec.ofChange closureBurauSpec)) closureBurauCard

/-- THE SECOND FORM's CARD OF 'knotworkkeep.ClosureBurau'. -/
def closureBurauUptoCard : Claim7 := { stood := { row := closureBurauUptoRow, standIns := [], harness := (true, "b7b1c738446639bd5e47e36974411f4a8a587f8646724f748b0f78f150880418"), looks := false }, kinds := [], alts := [], laidByText := true, laidKinds := [.data], laidTests := true, laidLooks := .later }
def ClosureBurauUptoCardSaid : Prop := Claim7.holds Tryd.pinned (.plain (OpenSpec.upto closureBurauSpec)) closureBurauUptoCard
end Rows
end Go.Proofs.YtiliihlkpknhdaaDoor
