/-
  DERIVED. GIVEN WITH THE SEED: THE CARDS: each row of YtihijieciogabaaDoorRows.lean that lists a variable, with what it lists TIED to the program's text (the seventh form; the later family's looks); each row that meets fmt, with fmt's text TOLD by the authors' own Lean function (tested against real Go, not proved from fmt's source: count such statements apart). THE CARD IS WHAT COUNTS. Prove the row's statement (the work); the ties are given (YtihijieciogabaaDoorTie.lean); close each card by the builder's one call (the guide's Derived/Test/ToyasCard.lean, 'card_holds'). Laid BY PROGRAM, IN A SANDBOX (cutbox-door.mjs). By AI agents, Wed Nov 11 2026. No macro, syntax, notation, axiom, sorry.
-/
import Derived.Test.YtihijieciogabaaDoorRows
import GoSem.ClaimSeven
namespace Go.Proofs.YtihijieciogabaaDoor
namespace Rows

/-- THE TIED CARD OF 'knotworklaw.BracketTells'. -/
def bracketTellsCard : Claim7 := { stood := { row := bracketTellsRow, standIns := [], harness := (true, "c89bd86f98e1b705e0d7f9bf21b88be90de0f6c7408d8995248fdc7e309dc432"), looks := false }, kinds := [], alts := [], laidByText := true, laidKinds := [.called], laidTests := true, laidLooks := .later }
def BracketTellsCardSaid : Prop := Claim7.holds Tryd.pinned (.plain (OpenSpec.ofChange bracketTellsSpec)) bracketTellsCard

/-- THE TIED CARD OF 'knotworklaw.BracketValues'. -/
def bracketValuesCard : Claim7 := { stood := { row := bracketValuesRow, standIns := [], harness := (true, "c89bd86f98e1b705e0d7f9bf21b88be90de0f6c7408d8995248fdc7e309dc432"), looks := false }, kinds := [], alts := [], laidByText := true, laidKinds := [.called], laidTests := true, laidLooks := .later }
def BracketValuesCardSaid : Prop := Claim7.holds Tryd.pinned (.plain (OpenSpec.ofChange bracketValuesSpec)) bracketValuesCard

/-- THE SECOND FORM's CARD OF 'knotworklaw.BracketTells'. -/
def bracketTellsUptoCard : Claim7 := { stood := { row := bracketTellsUptoRow, standIns := [], harness := (true, "c89bd86f98e1b705e0d7f9bf21b88be90de0f6c7408d8995248fdc7e309dc432"), looks := false }, kinds := [], alts := [], laidByText := true, laidKinds := [.called], laidTests := true, laidLooks := .later }
def BracketTellsUptoCardSaid : Prop := Claim7.holds Tryd.pinned (.plain (OpenSpec.upto bracketTellsSpec)) bracketTellsUptoCard

/-- THE SECOND FORM's CARD OF 'knotworklaw.BracketValues'. -/
def bracketValuesUptoCard : Claim7 := { stood := { row := bracketValuesUptoRow, standIns := [], harness := (true, "c89bd86f98e1b705e0d7f9bf21b88be90de0f6c7408d8995248fdc7e309dc432"), looks := false }, kinds := [], alts := [], laidByText := true, laidKinds := [.called], laidTests := true, laidLooks := .later }
def BracketValuesUptoCardSaid : Prop := Claim7.holds Tryd.pinned (.plain (OpenSpec.upto bracketValuesSpec)) bracketValuesUptoCard
end Rows
end Go.Proofs.YtihijieciogabaaDoor
