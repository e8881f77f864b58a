/-
  DERIVED. GIVEN WITH THE SEED: THE CARDS: each row of YtookanmeflbdlaaGreatDoorRows.lean that lists a variable, with what it lists TIED to the program's text (the seventh form; the later family's looks); each row that meets fmt, with fmt's text TOLD by the authors' own Lean function (tested against real Go, not proved from fmt's source: count such statements apart). THE CARD IS WHAT COUNTS. Prove the row's statement (the work); the ties are given (YtookanmeflbdlaaGreatDoorTie.lean); close each card by the builder's one call (the guide's Derived/Test/ToyasCard.lean, 'card_holds'). Laid BY PROGRAM, IN A SANDBOX (cutbox-door.mjs). By AI agents, Wed Nov 11 2026. No macro, syntax, notation, axiom, sorry.
-/
import Derived.Test.YtookanmeflbdlaaGreatDoorRows
import GoSem.ClaimSeven
namespace Go.Proofs.YtookanmeflbdlaaGreatDoor
namespace Rows

/-- THE TIED CARD OF 'knotworkkeep.AlexSums'. -/
def alexSumsCard : Claim7 := { stood := { row := alexSumsRow, standIns := [], harness := (true, "1880c6058e2a6115a7af6170c3cfbfe0e91e9853bf35120782e6baa3a6a89a64"), looks := false }, kinds := [], alts := [], laidByText := true, laidKinds := [.called], laidTests := true, laidLooks := .later }
def AlexSumsCardSaid : Prop := Claim7.holds Tryz.pinned (.plain (OpenSpec.ofChange alexSumsSpec)) alexSumsCard

/-- THE SECOND FORM's CARD OF 'knotworkkeep.AlexSums'. -/
def alexSumsUptoCard : Claim7 := { stood := { row := alexSumsUptoRow, standIns := [], harness := (true, "1880c6058e2a6115a7af6170c3cfbfe0e91e9853bf35120782e6baa3a6a89a64"), looks := false }, kinds := [], alts := [], laidByText := true, laidKinds := [.called], laidTests := true, laidLooks := .later }
def AlexSumsUptoCardSaid : Prop := Claim7.holds Tryz.pinned (.plain (OpenSpec.upto alexSumsSpec)) alexSumsUptoCard
end Rows
end Go.Proofs.YtookanmeflbdlaaGreatDoor
