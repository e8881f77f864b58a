/-
  DERIVED. GIVEN WITH THE SEED: THE CARDS: each row of YthbhllomikfbhaaDoorRows.lean that lists a variable, with what it lists TIED to the program's text (the seventh form; the later family's looks); each row that meets fmt, with fmt's text TOLD by the authors' own Lean function (tested against real Go, not proved from fmt's source: count such statements apart). THE CARD IS WHAT COUNTS. Prove the row's statement (the work); the ties are given (YthbhllomikfbhaaDoorTie.lean); close each card by the builder's one call (the guide's Derived/Test/ToyasCard.lean, 'card_holds'). Laid BY PROGRAM, IN A SANDBOX (cutbox-door.mjs). By AI agents, Wed Nov 11 2026. No macro, syntax, notation, axiom, sorry.
-/
import Derived.Test.YthbhllomikfbhaaDoorRows
import GoSem.ClaimSeven
namespace Go.Proofs.YthbhllomikfbhaaDoor
namespace Rows

/-- THE TIED CARD OF 'knotworklaw.PolyTexts'. -/
def polyTextsCard : Claim7 := { stood := { row := polyTextsRow, standIns := [], harness := (true, "74adfc45d54cc77983ffa02ef9bc2e99b357ede5992b5196bdb5742b23f81f00"), looks := true }, kinds := [], alts := [], laidByText := true, laidKinds := [.data, .data, .data], laidTests := true, laidLooks := .later }
def PolyTextsCardSaid : Prop := Claim7.holds Tryd.pinned (.plain (OpenSpec.ofChange polyTextsSpec)) polyTextsCard

/-- THE TIED CARD OF 'knotworklaw.PolyReads'. -/
def polyReadsCard : Claim7 := { stood := { row := polyReadsRow, standIns := [], harness := (true, "74adfc45d54cc77983ffa02ef9bc2e99b357ede5992b5196bdb5742b23f81f00"), looks := true }, kinds := [], alts := [], laidByText := true, laidKinds := [.data, .data, .data, .data, .sentinel, .sentinel, .pinned], laidTests := true, laidLooks := .later }
def PolyReadsCardSaid : Prop := Claim7.holds Tryd.pinned (.plain (OpenSpec.ofChange polyReadsSpec)) polyReadsCard

/-- THE TIED CARD OF 'knotworkkeep.PolyRing'. -/
def polyRingCard : Claim7 := { stood := { row := polyRingRow, standIns := [], harness := (true, "74adfc45d54cc77983ffa02ef9bc2e99b357ede5992b5196bdb5742b23f81f00"), looks := true }, kinds := [], alts := [], laidByText := true, laidKinds := [.data], laidTests := true, laidLooks := .later }
def PolyRingCardSaid : Prop := Claim7.holds Tryd.pinned (.plain (OpenSpec.ofChange polyRingSpec)) polyRingCard

/-- THE TIED CARD OF 'knotworkkeep.PolyDets'. -/
def polyDetsCard : Claim7 := { stood := { row := polyDetsRow, standIns := [], harness := (true, "74adfc45d54cc77983ffa02ef9bc2e99b357ede5992b5196bdb5742b23f81f00"), looks := true }, kinds := [], alts := [], laidByText := true, laidKinds := [.data], laidTests := true, laidLooks := .later }
def PolyDetsCardSaid : Prop := Claim7.holds Tryd.pinned (.plain (OpenSpec.ofChange polyDetsSpec)) polyDetsCard

/-- THE TIED CARD OF 'knotworkkeep.PolyBack'. -/
def polyBackCard : Claim7 := { stood := { row := polyBackRow, standIns := [], harness := (true, "74adfc45d54cc77983ffa02ef9bc2e99b357ede5992b5196bdb5742b23f81f00"), looks := true }, kinds := [], alts := [], laidByText := true, laidKinds := [.data, .data, .data, .data, .sentinel, .sentinel, .pinned], laidTests := true, laidLooks := .later }
def PolyBackCardSaid : Prop := Claim7.holds Tryd.pinned (.plain (OpenSpec.ofChange polyBackSpec)) polyBackCard

/-- THE SECOND FORM's CARD OF 'knotworklaw.PolyTexts'. -/
def polyTextsUptoCard : Claim7 := { stood := { row := polyTextsUptoRow, standIns := [], harness := (true, "74adfc45d54cc77983ffa02ef9bc2e99b357ede5992b5196bdb5742b23f81f00"), looks := true }, kinds := [], alts := [], laidByText := true, laidKinds := [.data, .data, .data], laidTests := true, laidLooks := .later }
def PolyTextsUptoCardSaid : Prop := Claim7.holds Tryd.pinned (.plain (OpenSpec.upto polyTextsSpec)) polyTextsUptoCard

/-- THE SECOND FORM's CARD OF 'knotworklaw.PolyReads'. -/
def polyReadsUptoCard : Claim7 := { stood := { row := polyReadsUptoRow, standIns := [], harness := (true, "74adfc45d54cc77983ffa02ef9bc2e99b357ede5992b5196bdb5742b23f81f00"), looks := true }, kinds := [], alts := [], laidByText := true, laidKinds := [.data, .data, .data, .data, .sentinel, .sentinel, .pinned], laidTests := true, laidLooks := .later }
def PolyReadsUptoCardSaid : Prop := Claim7.holds Tryd.pinned (.plain (OpenSpec.upto polyReadsSpec)) polyReadsUptoCard

/-- THE SECOND FORM's CARD OF 'knotworkkeep.PolyRing'. -/
def polyRingUptoCard : Claim7 := { stood := { row := polyRingUptoRow, standIns := [], harness := (true, "74adfc45d54cc77983ffa02ef9bc2e99b357ede5992b5196bdb5742b23f81f00"), looks := true }, kinds := [], alts := [], laidByText := true, laidKinds := [.data], laidTests := true, laidLooks := .later }
def PolyRingUptoCardSaid : Prop := Claim7.holds Tryd.pinned (.plain (OpenSpec.upto polyRingSpec)) polyRingUptoCard

/-- THE SECOND FORM's CARD OF 'knotworkkeep.PolyDets'. -/
def polyDetsUptoCard : Claim7 := { stood := { row := polyDetsUptoRow, standIns := [], harness := (true, "74adfc45d54cc77983ffa02ef9bc2e99b357ede5992b5196bdb5742b23f81f00"), looks := true }, kinds := [], alts := [], laidByText := true, laidKinds := [.data], laidTests := true, laidLooks := .later }
def PolyDetsUptoCardSaid : Prop := Claim7.holds Tryd.pinned (.plain (OpenSpec.upto polyDetsSpec)) polyDetsUptoCard

/-- THE SECOND FORM's CARD OF 'knotworkkeep.PolyBack'. -/
def polyBackUptoCard : Claim7 := { stood := { row := polyBackUptoRow, standIns := [], harness := (true, "74adfc45d54cc77983ffa02ef9bc2e99b357ede5992b5196bdb5742b23f81f00"), looks := true }, kinds := [], alts := [], laidByText := true, laidKinds := [.data, .data, .data, .data, .sentinel, .sentinel, .pinned], laidTests := true, laidLooks := .later }
def PolyBackUptoCardSaid : Prop := Claim7.holds Tryd.pinned (.plain (OpenSpec.upto polyBackSpec)) polyBackUptoCard
end Rows
end Go.Proofs.YthbhllomikfbhaaDoor
