/-
  DERIVED. GIVEN WITH THE SEED: THE CARDS: each row of YtbobljddklldjaaGreatDoorRows.lean that lists a variable, with what it lists TIED to the program's text (the seventh form; the later family's looks); each row that meets fmt, with fmt's text TOLD by the authors' own Lean function (tested against real Go, not proved from fmt's source: count such statements apart). THE CARD IS WHAT COUNTS. Prove the row's statement (the work); the ties are given (YtbobljddklldjaaGreatDoorTie.lean); close each card by the builder's one call (the guide's Derived/Test/ToyasCard.lean, 'card_holds'). Laid BY PROGRAM, IN A SANDBOX (cutbox-door.mjs). By AI agents, Wed Nov 11 2026. No macro, syntax, notation, axiom, sorry.
-/
import Derived.Test.YtbobljddklldjaaGreatDoorRows
import GoSem.ClaimSeven
namespace Go.Proofs.YtbobljddklldjaaGreatDoor
namespace Rows

/-- THE TIED CARD OF 'knotworkkeep.BracketSums'. -/
def bracketSumsCard : Claim7 := { stood := { row := bracketSumsRow, standIns := [], harness := (true, "1d5360d72af73dd26677506192d6479adb76c92f7a2ed9aafddea060026f1bdf"), looks := false }, kinds := [], alts := [], laidByText := true, laidKinds := [.called], laidTests := true, laidLooks := .later }
def BracketSumsCardSaid : Prop := Claim7.holds Tryz.pinned (.plain (OpenSpec.ofChange bracketSumsSpec)) bracketSumsCard

/-- THE SECOND FORM's CARD OF 'knotworkkeep.BracketSums'. -/
def bracketSumsUptoCard : Claim7 := { stood := { row := bracketSumsUptoRow, standIns := [], harness := (true, "1d5360d72af73dd26677506192d6479adb76c92f7a2ed9aafddea060026f1bdf"), looks := false }, kinds := [], alts := [], laidByText := true, laidKinds := [.called], laidTests := true, laidLooks := .later }
def BracketSumsUptoCardSaid : Prop := Claim7.holds Tryz.pinned (.plain (OpenSpec.upto bracketSumsSpec)) bracketSumsUptoCard
end Rows
end Go.Proofs.YtbobljddklldjaaGreatDoor
