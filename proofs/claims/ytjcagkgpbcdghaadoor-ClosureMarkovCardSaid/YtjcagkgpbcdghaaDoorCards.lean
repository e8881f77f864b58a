/-
  DERIVED. GIVEN WITH THE SEED: THE CARDS: each row of YtjcagkgpbcdghaaDoorRows.lean that lists a variable, with what it lists TIED to the program's text (the seventh form; the later family's looks); each row that meets fmt, with fmt's text TOLD by the authors' own Lean function (tested against real Go, not proved from fmt's source: count such statements apart). THE CARD IS WHAT COUNTS. Prove the row's statement (the work); the ties are given (YtjcagkgpbcdghaaDoorTie.lean); close each card by the builder's one call (the guide's Derived/Test/ToyasCard.lean, 'card_holds'). Laid BY PROGRAM, IN A SANDBOX (cutbox-door.mjs). By AI agents, Wed Nov 11 2026. No macro, syntax, notation, axiom, sorry.
-/
import Derived.Test.YtjcagkgpbcdghaaDoorRows
import GoSem.ClaimSeven
namespace Go.Proofs.YtjcagkgpbcdghaaDoor
namespace Rows

/-- THE TIED CARD OF 'knotworkkeep.ClosureMarkov'. -/
def closureMarkovCard : Claim7 := { stood := { row := closureMarkovRow, standIns := [], harness := (true, "22d84ed49ba9bc5d8b5a1f7f2d15c93ad81c5d4050e07fe9fe7faf4f82fef821"), looks := false }, kinds := [], alts := [], laidByText := true, laidKinds := [.called], laidTests := true, laidLooks := .later }
def ClosureMarkovCardSaid : Prop := Claim7.holds Tryd.pinned (.plain (OpenSpec.ofChange closureMarkovSpec)) closureMarkovCard

/-- THE SECOND FORM's CARD OF 'knotworkkeep.ClosureMarkov'. -/
def closureMarkovUptoCard : Claim7 := { stood := { row := closureMarkovUptoRow, standIns := [], harness := (true, "22d84ed49ba9bc5d8b5a1f7f2d15c93ad81c5d4050e07fe9fe7faf4f82fef821"), looks := false }, kinds := [], alts := [], laidByText := true, laidKinds := [.called], laidTests := true, laidLooks := .later }
def ClosureMarkovUptoCardSaid : Prop := Claim7.holds Tryd.pinned (.plain (OpenSpec.upto closureMarkovSpec)) closureMarkovUptoCard
end Rows
end Go.Proofs.YtjcagkgpbcdghaaDoor
