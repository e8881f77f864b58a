/-
  DERIVED. GIVEN WITH THE SEED: THE CARDS: each row of YtlimfajjmhfnaaaDoorRows.lean that lists a variable, with what it lists TIED to the program's text (the seventh form; the later family's looks); each row that meets fmt, with fmt's text TOLD by the authors' own Lean function (tested against real Go, not proved from fmt's source: count such statements apart). THE CARD IS WHAT COUNTS. Prove the row's statement (the work); the ties are given (YtlimfajjmhfnaaaDoorTie.lean); close each card by the builder's one call (the guide's Derived/Test/ToyasCard.lean, 'card_holds'). Laid BY PROGRAM, IN A SANDBOX (cutbox-door.mjs). By AI agents, Wed Nov 11 2026. No macro, syntax, notation, axiom, sorry.
-/
import Derived.Test.YtlimfajjmhfnaaaDoorRows
import GoSem.ClaimSeven
namespace Go.Proofs.YtlimfajjmhfnaaaDoor
namespace Rows

/-- THE TIED CARD OF 'knotworklaw.PolyReads'. -/
def polyReadsCard : Claim7 := { stood := { row := polyReadsRow, standIns := [], harness := (true, "ec9d20e126ece49ee34cb48837c9f3b9a8e163df1e7c75145853e522c9bf3cf6"), looks := true }, kinds := [], alts := [], laidByText := true, laidKinds := [.data, .data, .data, .data, .sentinel, .sentinel, .pinned], laidTests := true, laidLooks := .later }
def PolyReadsCardSaid : Prop := Claim7.holds Tryd.pinned (.plain (OpenSpec.ofChange polyReadsSpec)) polyReadsCard

/-- THE TIED CARD OF 'knotworkkeep.PolyBack'. -/
def polyBackCard : Claim7 := { stood := { row := polyBackRow, standIns := [], harness := (true, "ec9d20e126ece49ee34cb48837c9f3b9a8e163df1e7c75145853e522c9bf3cf6"), looks := true }, kinds := [], alts := [], laidByText := true, laidKinds := [.data, .data, .data, .data, .sentinel, .sentinel, .pinned], laidTests := true, laidLooks := .later }
def PolyBackCardSaid : Prop := Claim7.holds Tryd.pinned (.plain (OpenSpec.ofChange polyBackSpec)) polyBackCard

/-- THE TIED CARD OF 'knotworklaw.CodeReads'. -/
def codeReadsCard : Claim7 := { stood := { row := codeReadsRow, standIns := [], harness := (true, "ec9d20e126ece49ee34cb48837c9f3b9a8e163df1e7c75145853e522c9bf3cf6"), looks := true }, kinds := [], alts := [], laidByText := true, laidKinds := [.data, .pinned], laidTests := true, laidLooks := .later }
def CodeReadsCardSaid : Prop := Claim7.holds Tryd.pinned (.plain (OpenSpec.ofChange codeReadsSpec)) codeReadsCard

/-- THE SECOND FORM's CARD OF 'knotworklaw.PolyReads'. -/
def polyReadsUptoCard : Claim7 := { stood := { row := polyReadsUptoRow, standIns := [], harness := (true, "ec9d20e126ece49ee34cb48837c9f3b9a8e163df1e7c75145853e522c9bf3cf6"), looks := true }, kinds := [], alts := [], laidByText := true, laidKinds := [.data, .data, .data, .data, .sentinel, .sentinel, .pinned], laidTests := true, laidLooks := .later }
def PolyReadsUptoCardSaid : Prop := Claim7.holds Tryd.pinned (.plain (OpenSpec.upto polyReadsSpec)) polyReadsUptoCard

/-- THE SECOND FORM's CARD OF 'knotworkkeep.PolyBack'. -/
def polyBackUptoCard : Claim7 := { stood := { row := polyBackUptoRow, standIns := [], harness := (true, "ec9d20e126ece49ee34cb48837c9f3b9a8e163df1e7c75145853e522c9bf3cf6"), looks := true }, kinds := [], alts := [], laidByText := true, laidKinds := [.data, .data, .data, .data, .sentinel, .sentinel, .pinned], laidTests := true, laidLooks := .later }
def PolyBackUptoCardSaid : Prop := Claim7.holds Tryd.pinned (.plain (OpenSpec.upto polyBackSpec)) polyBackUptoCard

/-- THE SECOND FORM's CARD OF 'knotworklaw.CodeReads'. -/
def codeReadsUptoCard : Claim7 := { stood := { row := codeReadsUptoRow, standIns := [], harness := (true, "ec9d20e126ece49ee34cb48837c9f3b9a8e163df1e7c75145853e522c9bf3cf6"), looks := true }, kinds := [], alts := [], laidByText := true, laidKinds := [.data, .pinned], laidTests := true, laidLooks := .later }
def CodeReadsUptoCardSaid : Prop := Claim7.holds Tryd.pinned (.plain (OpenSpec.upto codeReadsSpec)) codeReadsUptoCard
end Rows
end Go.Proofs.YtlimfajjmhfnaaaDoor
