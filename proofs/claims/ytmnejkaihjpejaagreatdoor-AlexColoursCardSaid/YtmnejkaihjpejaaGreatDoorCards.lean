/-
  DERIVED. GIVEN WITH THE SEED: THE CARDS: each row of YtmnejkaihjpejaaGreatDoorRows.lean that lists a variable, with what it lists TIED to the program's text (the seventh form; the later family's looks); each row that meets fmt, with fmt's text TOLD by the authors' own Lean function (tested against real Go, not proved from fmt's source: count such statements apart). THE CARD IS WHAT COUNTS. Prove the row's statement (the work); the ties are given (YtmnejkaihjpejaaGreatDoorTie.lean); close each card by the builder's one call (the guide's Derived/Test/ToyasCard.lean, 'card_holds'). Laid BY PROGRAM, IN A SANDBOX (cutbox-door.mjs). By AI agents, Wed Nov 11 2026. No macro, syntax, notation, axiom, sorry.
-/
import Derived.Test.YtmnejkaihjpejaaGreatDoorRows
import GoSem.ClaimSeven
namespace Go.Proofs.YtmnejkaihjpejaaGreatDoor
namespace Rows

/-- THE TIED CARD OF 'knotworkkeep.AlexColours'. -/
def alexColoursCard : Claim7 := { stood := { row := alexColoursRow, standIns := [], harness := (true, "a706af0dbe391051594bb017b3bc87c6ffa18e4c415978e002078a3f282c1d81"), looks := false }, kinds := [], alts := [], laidByText := true, laidKinds := [.called], laidTests := true, laidLooks := .later }
def AlexColoursCardSaid : Prop := Claim7.holds Tryz.pinned (.plain (OpenSpec.ofChange alexColoursSpec)) alexColoursCard

/-- THE SECOND FORM's CARD OF 'knotworkkeep.AlexColours'. -/
def alexColoursUptoCard : Claim7 := { stood := { row := alexColoursUptoRow, standIns := [], harness := (true, "a706af0dbe391051594bb017b3bc87c6ffa18e4c415978e002078a3f282c1d81"), looks := false }, kinds := [], alts := [], laidByText := true, laidKinds := [.called], laidTests := true, laidLooks := .later }
def AlexColoursUptoCardSaid : Prop := Claim7.holds Tryz.pinned (.plain (OpenSpec.upto alexColoursSpec)) alexColoursUptoCard
end Rows
end Go.Proofs.YtmnejkaihjpejaaGreatDoor
