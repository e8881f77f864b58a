/-
  DERIVED. GIVEN WITH THE SEED: THE CARDS: each row of YtnemnpcbhfedcaaGreatDoorRows.lean that lists a variable, with what it lists TIED to the program's text (the seventh form; the later family's looks); each row that meets fmt, with fmt's text TOLD by the authors' own Lean function (tested against real Go, not proved from fmt's source: count such statements apart). THE CARD IS WHAT COUNTS. Prove the row's statement (the work); the ties are given (YtnemnpcbhfedcaaGreatDoorTie.lean); close each card by the builder's one call (the guide's Derived/Test/ToyasCard.lean, 'card_holds'). Laid BY PROGRAM, IN A SANDBOX (cutbox-door.mjs). By AI agents, Wed Nov 11 2026. No macro, syntax, notation, axiom, sorry.
-/
import Derived.Test.YtnemnpcbhfedcaaGreatDoorRows
import GoSem.ClaimSeven
namespace Go.Proofs.YtnemnpcbhfedcaaGreatDoor
namespace Rows

/-- THE TIED CARD OF 'knotworkkeep.WindSums'. -/
def windSumsCard : Claim7 := { stood := { row := windSumsRow, standIns := [], harness := (true, "981fc119705a9dd3774bb842d81a6e3236cbd5cfc842c4ea99ca66948615689d"), looks := false }, kinds := [], alts := [], laidByText := true, laidKinds := [.called], laidTests := true, laidLooks := .later }
def WindSumsCardSaid : Prop := Claim7.holds Tryz.pinned (.plain (OpenSpec.ofChange windSumsSpec)) windSumsCard

/-- THE SECOND FORM's CARD OF 'knotworkkeep.WindSums'. -/
def windSumsUptoCard : Claim7 := { stood := { row := windSumsUptoRow, standIns := [], harness := (true, "981fc119705a9dd3774bb842d81a6e3236cbd5cfc842c4ea99ca66948615689d"), looks := false }, kinds := [], alts := [], laidByText := true, laidKinds := [.called], laidTests := true, laidLooks := .later }
def WindSumsUptoCardSaid : Prop := Claim7.holds Tryz.pinned (.plain (OpenSpec.upto windSumsSpec)) windSumsUptoCard
end Rows
end Go.Proofs.YtnemnpcbhfedcaaGreatDoor
