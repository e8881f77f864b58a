/-
  No cell of these rows narrows 'for every input' (looked for: loops, veiled, ifaces, maps, wideKeys, modest, calm, conditions, laid).
  DERIVED. THE GIVEN ROWS OF THIS SEAT. 13 by the template 'for every input the law returns true; each argument reads behind the call as it read before'; 0 by the template 'total and deterministic' (their statements: YtinaebeoocjhcaaTotals.lean).
  GIVEN WITH THE SEED: the statements are not yours to turn. If you find one false, say at which input.
  Laid BY PROGRAM, IN A SANDBOX (cutbox-rows.mjs): the forced cells as the released guide's own fill.sh prints them over the translation 7f7d66abcaa4bbfa… (all of the seat's roots in one cut). By AI agents, Wed Nov 11 2026. No macro, syntax, notation, axiom, sorry.
-/
import Derived.Test.YtinaebeoocjhcaaChecked
import GoSem.Claim
import GoSem.ClaimJoined
import GoSem.ClaimMapViews
import Derived.JoinedTies
import Derived.KernelRfl
namespace Go.Proofs.Ytinaebeoocjhcaa
/- THE CELL 'sum', in the pinned program and in every row, IS THE sha256 OF THE DUMP (.gsa) THAT YtinaebeoocjhcaaProg.lean LOADS. Nothing in Lean hashes anything: it is a label: what it is worth is what the hold of that sum in a sandbox is worth. -/
noncomputable def Try.pinned : Pinned := { name := "ytinaebeoocjhcaa", sum := "7f7d66abcaa4bbfae366840ef9bb8d0e4fb2876889b6de59afadc5b1dd76f90a", checked := Try.checked }
namespace Rows
def none {H : Type} : Left H := { results := [], args := [] }

/-- 'knotworkkeep.CodeDarts': WHATEVER THE INPUT: true; the input reads as it did. -/
def codeDartsSpec : ChangeSpec := { name := "codeDarts", fn := fun _ => fun
  | [d] => { results := [.lit (.bool true)], args := [d] }
  | _ => none }
def codeDartsRow : OpenClaim := { program := "ytinaebeoocjhcaa", sum := "7f7d66abcaa4bbfae366840ef9bb8d0e4fb2876889b6de59afadc5b1dd76f90a", func := "knotwork/knotworkkeep.CodeDarts", spec := "codeDarts", unfollowed := true, recurses := true, plainKeys := false, apart := false }
def CodeDartsSaid : Prop := codeDartsRow.holds Try.pinned (OpenSpec.ofChange codeDartsSpec)

/-- ITS FALSE NEIGHBOUR: 'it returns false'. Refute it at one input. -/
def codeDartsWrong : ChangeSpec := { name := "codeDarts", fn := fun _ => fun
  | [d] => { results := [.lit (.bool false)], args := [d] }
  | _ => none }
def CodeDartsWrongFalsely : Prop := codeDartsRow.holds Try.pinned (OpenSpec.ofChange codeDartsWrong)

/-- 'knotworkkeep.GaussBack': WHATEVER THE INPUT: true; the input reads as it did. -/
def gaussBackSpec : ChangeSpec := { name := "gaussBack", fn := fun _ => fun
  | [d] => { results := [.lit (.bool true)], args := [d] }
  | _ => none }
def gaussBackRow : OpenClaim := { program := "ytinaebeoocjhcaa", sum := "7f7d66abcaa4bbfae366840ef9bb8d0e4fb2876889b6de59afadc5b1dd76f90a", func := "knotwork/knotworkkeep.GaussBack", spec := "gaussBack", unfollowed := true, recurses := true, plainKeys := false, apart := false }
def GaussBackSaid : Prop := gaussBackRow.holds Try.pinned (OpenSpec.ofChange gaussBackSpec)

/-- ITS FALSE NEIGHBOUR: 'it returns false'. Refute it at one input. -/
def gaussBackWrong : ChangeSpec := { name := "gaussBack", fn := fun _ => fun
  | [d] => { results := [.lit (.bool false)], args := [d] }
  | _ => none }
def GaussBackWrongFalsely : Prop := gaussBackRow.holds Try.pinned (OpenSpec.ofChange gaussBackWrong)

/-- 'knotworklaw.CanonForms': WHATEVER THE INPUT: true; the input reads as it did. -/
def canonFormsSpec : ChangeSpec := { name := "canonForms", fn := fun _ => fun
  | [d1, d2] => { results := [.lit (.bool true)], args := [d1, d2] }
  | _ => none }
def canonFormsRow : OpenClaim := { program := "ytinaebeoocjhcaa", sum := "7f7d66abcaa4bbfae366840ef9bb8d0e4fb2876889b6de59afadc5b1dd76f90a", func := "knotwork/knotworklaw.CanonForms", spec := "canonForms", unfollowed := true, recurses := true, plainKeys := false, apart := false }
def CanonFormsSaid : Prop := canonFormsRow.holds Try.pinned (OpenSpec.ofChange canonFormsSpec)

/-- ITS FALSE NEIGHBOUR: 'it returns false'. Refute it at one input. -/
def canonFormsWrong : ChangeSpec := { name := "canonForms", fn := fun _ => fun
  | [d1, d2] => { results := [.lit (.bool false)], args := [d1, d2] }
  | _ => none }
def CanonFormsWrongFalsely : Prop := canonFormsRow.holds Try.pinned (OpenSpec.ofChange canonFormsWrong)

/-- 'knotworkkeep.CanonAny': WHATEVER THE INPUT: true; the input reads as it did. -/
def canonAnySpec : ChangeSpec := { name := "canonAny", fn := fun _ => fun
  | [d1, d2, d3] => { results := [.lit (.bool true)], args := [d1, d2, d3] }
  | _ => none }
def canonAnyRow : OpenClaim := { program := "ytinaebeoocjhcaa", sum := "7f7d66abcaa4bbfae366840ef9bb8d0e4fb2876889b6de59afadc5b1dd76f90a", func := "knotwork/knotworkkeep.CanonAny", spec := "canonAny", unfollowed := true, recurses := true, plainKeys := false, apart := false }
def CanonAnySaid : Prop := canonAnyRow.holds Try.pinned (OpenSpec.ofChange canonAnySpec)

/-- ITS FALSE NEIGHBOUR: 'it returns false'. Refute it at one input. -/
def canonAnyWrong : ChangeSpec := { name := "canonAny", fn := fun _ => fun
  | [d1, d2, d3] => { results := [.lit (.bool false)], args := [d1, d2, d3] }
  | _ => none }
def CanonAnyWrongFalsely : Prop := canonAnyRow.holds Try.pinned (OpenSpec.ofChange canonAnyWrong)

/-- 'knotworkkeep.CanonTwice': WHATEVER THE INPUT: true; the input reads as it did. -/
def canonTwiceSpec : ChangeSpec := { name := "canonTwice", fn := fun _ => fun
  | [d1, d2, d3, d4] => { results := [.lit (.bool true)], args := [d1, d2, d3, d4] }
  | _ => none }
def canonTwiceRow : OpenClaim := { program := "ytinaebeoocjhcaa", sum := "7f7d66abcaa4bbfae366840ef9bb8d0e4fb2876889b6de59afadc5b1dd76f90a", func := "knotwork/knotworkkeep.CanonTwice", spec := "canonTwice", unfollowed := true, recurses := true, plainKeys := false, apart := false }
def CanonTwiceSaid : Prop := canonTwiceRow.holds Try.pinned (OpenSpec.ofChange canonTwiceSpec)

/-- ITS FALSE NEIGHBOUR: 'it returns false'. Refute it at one input. -/
def canonTwiceWrong : ChangeSpec := { name := "canonTwice", fn := fun _ => fun
  | [d1, d2, d3, d4] => { results := [.lit (.bool false)], args := [d1, d2, d3, d4] }
  | _ => none }
def CanonTwiceWrongFalsely : Prop := canonTwiceRow.holds Try.pinned (OpenSpec.ofChange canonTwiceWrong)

/-- 'knotworklaw.MovesDo': WHATEVER THE INPUT: true; the input reads as it did. -/
def movesDoSpec : ChangeSpec := { name := "movesDo", fn := fun _ => fun
  | [d1, d2] => { results := [.lit (.bool true)], args := [d1, d2] }
  | _ => none }
def movesDoRow : OpenClaim := { program := "ytinaebeoocjhcaa", sum := "7f7d66abcaa4bbfae366840ef9bb8d0e4fb2876889b6de59afadc5b1dd76f90a", func := "knotwork/knotworklaw.MovesDo", spec := "movesDo", unfollowed := true, recurses := true, plainKeys := false, apart := false }
def MovesDoSaid : Prop := movesDoRow.holds Try.pinned (OpenSpec.ofChange movesDoSpec)

/-- ITS FALSE NEIGHBOUR: 'it returns false'. Refute it at one input. -/
def movesDoWrong : ChangeSpec := { name := "movesDo", fn := fun _ => fun
  | [d1, d2] => { results := [.lit (.bool false)], args := [d1, d2] }
  | _ => none }
def MovesDoWrongFalsely : Prop := movesDoRow.holds Try.pinned (OpenSpec.ofChange movesDoWrong)

/-- 'knotworklaw.MovesRows': WHATEVER THE INPUT: true; the input reads as it did. -/
def movesRowsSpec : ChangeSpec := { name := "movesRows", fn := fun _ => fun
  | [d1, d2] => { results := [.lit (.bool true)], args := [d1, d2] }
  | _ => none }
def movesRowsRow : OpenClaim := { program := "ytinaebeoocjhcaa", sum := "7f7d66abcaa4bbfae366840ef9bb8d0e4fb2876889b6de59afadc5b1dd76f90a", func := "knotwork/knotworklaw.MovesRows", spec := "movesRows", unfollowed := true, recurses := true, plainKeys := false, apart := false }
def MovesRowsSaid : Prop := movesRowsRow.holds Try.pinned (OpenSpec.ofChange movesRowsSpec)

/-- ITS FALSE NEIGHBOUR: 'it returns false'. Refute it at one input. -/
def movesRowsWrong : ChangeSpec := { name := "movesRows", fn := fun _ => fun
  | [d1, d2] => { results := [.lit (.bool false)], args := [d1, d2] }
  | _ => none }
def MovesRowsWrongFalsely : Prop := movesRowsRow.holds Try.pinned (OpenSpec.ofChange movesRowsWrong)

/-- 'knotworklaw.MovesTake': WHATEVER THE INPUT: true; the input reads as it did. -/
def movesTakeSpec : ChangeSpec := { name := "movesTake", fn := fun _ => fun
  | [d] => { results := [.lit (.bool true)], args := [d] }
  | _ => none }
def movesTakeRow : OpenClaim := { program := "ytinaebeoocjhcaa", sum := "7f7d66abcaa4bbfae366840ef9bb8d0e4fb2876889b6de59afadc5b1dd76f90a", func := "knotwork/knotworklaw.MovesTake", spec := "movesTake", unfollowed := true, recurses := true, plainKeys := false, apart := false }
def MovesTakeSaid : Prop := movesTakeRow.holds Try.pinned (OpenSpec.ofChange movesTakeSpec)

/-- ITS FALSE NEIGHBOUR: 'it returns false'. Refute it at one input. -/
def movesTakeWrong : ChangeSpec := { name := "movesTake", fn := fun _ => fun
  | [d] => { results := [.lit (.bool false)], args := [d] }
  | _ => none }
def MovesTakeWrongFalsely : Prop := movesTakeRow.holds Try.pinned (OpenSpec.ofChange movesTakeWrong)

/-- 'knotworkkeep.MovesBack': WHATEVER THE INPUT: true; the input reads as it did. -/
def movesBackSpec : ChangeSpec := { name := "movesBack", fn := fun _ => fun
  | [d1, d2] => { results := [.lit (.bool true)], args := [d1, d2] }
  | _ => none }
def movesBackRow : OpenClaim := { program := "ytinaebeoocjhcaa", sum := "7f7d66abcaa4bbfae366840ef9bb8d0e4fb2876889b6de59afadc5b1dd76f90a", func := "knotwork/knotworkkeep.MovesBack", spec := "movesBack", unfollowed := true, recurses := true, plainKeys := false, apart := false }
def MovesBackSaid : Prop := movesBackRow.holds Try.pinned (OpenSpec.ofChange movesBackSpec)

/-- ITS FALSE NEIGHBOUR: 'it returns false'. Refute it at one input. -/
def movesBackWrong : ChangeSpec := { name := "movesBack", fn := fun _ => fun
  | [d1, d2] => { results := [.lit (.bool false)], args := [d1, d2] }
  | _ => none }
def MovesBackWrongFalsely : Prop := movesBackRow.holds Try.pinned (OpenSpec.ofChange movesBackWrong)

/-- 'knotworkkeep.MovesSimple': WHATEVER THE INPUT: true; the input reads as it did. -/
def movesSimpleSpec : ChangeSpec := { name := "movesSimple", fn := fun _ => fun
  | [d] => { results := [.lit (.bool true)], args := [d] }
  | _ => none }
def movesSimpleRow : OpenClaim := { program := "ytinaebeoocjhcaa", sum := "7f7d66abcaa4bbfae366840ef9bb8d0e4fb2876889b6de59afadc5b1dd76f90a", func := "knotwork/knotworkkeep.MovesSimple", spec := "movesSimple", unfollowed := true, recurses := true, plainKeys := false, apart := false }
def MovesSimpleSaid : Prop := movesSimpleRow.holds Try.pinned (OpenSpec.ofChange movesSimpleSpec)

/-- ITS FALSE NEIGHBOUR: 'it returns false'. Refute it at one input. -/
def movesSimpleWrong : ChangeSpec := { name := "movesSimple", fn := fun _ => fun
  | [d] => { results := [.lit (.bool false)], args := [d] }
  | _ => none }
def MovesSimpleWrongFalsely : Prop := movesSimpleRow.holds Try.pinned (OpenSpec.ofChange movesSimpleWrong)

/-- 'knotworklaw.ColourOvers': WHATEVER THE INPUT: true; the input reads as it did. -/
def colourOversSpec : ChangeSpec := { name := "colourOvers", fn := fun _ => fun
  | [d] => { results := [.lit (.bool true)], args := [d] }
  | _ => none }
def colourOversRow : OpenClaim := { program := "ytinaebeoocjhcaa", sum := "7f7d66abcaa4bbfae366840ef9bb8d0e4fb2876889b6de59afadc5b1dd76f90a", func := "knotwork/knotworklaw.ColourOvers", spec := "colourOvers", unfollowed := true, recurses := true, plainKeys := false, apart := false }
def ColourOversSaid : Prop := colourOversRow.holds Try.pinned (OpenSpec.ofChange colourOversSpec)

/-- ITS FALSE NEIGHBOUR: 'it returns false'. Refute it at one input. -/
def colourOversWrong : ChangeSpec := { name := "colourOvers", fn := fun _ => fun
  | [d] => { results := [.lit (.bool false)], args := [d] }
  | _ => none }
def ColourOversWrongFalsely : Prop := colourOversRow.holds Try.pinned (OpenSpec.ofChange colourOversWrong)

/-- 'knotworklaw.ColourFox': WHATEVER THE INPUT: true; the input reads as it did. -/
def colourFoxSpec : ChangeSpec := { name := "colourFox", fn := fun _ => fun
  | [d1, d2] => { results := [.lit (.bool true)], args := [d1, d2] }
  | _ => none }
def colourFoxRow : OpenClaim := { program := "ytinaebeoocjhcaa", sum := "7f7d66abcaa4bbfae366840ef9bb8d0e4fb2876889b6de59afadc5b1dd76f90a", func := "knotwork/knotworklaw.ColourFox", spec := "colourFox", unfollowed := true, recurses := true, plainKeys := false, apart := false }
def ColourFoxSaid : Prop := colourFoxRow.holds Try.pinned (OpenSpec.ofChange colourFoxSpec)

/-- ITS FALSE NEIGHBOUR: 'it returns false'. Refute it at one input. -/
def colourFoxWrong : ChangeSpec := { name := "colourFox", fn := fun _ => fun
  | [d1, d2] => { results := [.lit (.bool false)], args := [d1, d2] }
  | _ => none }
def ColourFoxWrongFalsely : Prop := colourFoxRow.holds Try.pinned (OpenSpec.ofChange colourFoxWrong)

/-- 'knotworklaw.ColourCounts': WHATEVER THE INPUT: true; the input reads as it did. -/
def colourCountsSpec : ChangeSpec := { name := "colourCounts", fn := fun _ => fun
  | [d1, d2] => { results := [.lit (.bool true)], args := [d1, d2] }
  | _ => none }
def colourCountsRow : OpenClaim := { program := "ytinaebeoocjhcaa", sum := "7f7d66abcaa4bbfae366840ef9bb8d0e4fb2876889b6de59afadc5b1dd76f90a", func := "knotwork/knotworklaw.ColourCounts", spec := "colourCounts", unfollowed := true, recurses := true, plainKeys := false, apart := false }
def ColourCountsSaid : Prop := colourCountsRow.holds Try.pinned (OpenSpec.ofChange colourCountsSpec)

/-- ITS FALSE NEIGHBOUR: 'it returns false'. Refute it at one input. -/
def colourCountsWrong : ChangeSpec := { name := "colourCounts", fn := fun _ => fun
  | [d1, d2] => { results := [.lit (.bool false)], args := [d1, d2] }
  | _ => none }
def ColourCountsWrongFalsely : Prop := colourCountsRow.holds Try.pinned (OpenSpec.ofChange colourCountsWrong)

/- THE SECOND FORM. 'bulk': how many values and letters a reading holds, each counted each time it is reached (what is shared counts as often as it is met; a slice's spare places count too). A statement '..UptoSaid' is the law's where the arguments, and the package variables that the reading takes, are together of bulk at most 1048576: NARROWER than '..Said'. Prove '..Said' where nothing that the law and all that it calls make is longer than what came in: it says more and counts as full. Else prove '..UptoSaid'. A law counts once. -/
mutual
def uptoBulk {H : Type} : DataW H → Nat
  | .lit (.string bytes) => bytes.length + 1
  | .lit _ => 1
  | .nil => 1
  | .ptr d => uptoBulk d + 1
  | .slice elems spare => uptoBulkAll elems + uptoBulkAll spare + 1
  | .agg parts => uptoBulkAll parts + 1
  | .iface _ d => uptoBulk d + 1
  | .map entries => uptoBulkEntries entries + 1
  | .held _ => 1
def uptoBulkAll {H : Type} : List (DataW H) → Nat
  | [] => 0
  | d :: r => uptoBulk d + uptoBulkAll r
def uptoBulkEntries {H : Type} : List (Lit × DataW H) → Nat
  | [] => 0
  | x :: r => uptoBulkEntry x + uptoBulkEntries r
def uptoBulkEntry {H : Type} : Lit × DataW H → Nat
  | (.string bytes, d) => bytes.length + uptoBulk d + 1
  | (_, d) => uptoBulk d + 1
 end
def uptoSmall : (H : Type) → List (DataW H) → Bool := fun _ ds => decide (uptoBulkAll ds ≤ 1048576)
def OpenSpec.upto (s : _root_.Go.ChangeSpec) : _root_.Go.OpenSpec := { _root_.Go.OpenSpec.ofChange s with cond := some uptoSmall }

/-- 'knotworkkeep.CodeDarts', WHERE WHAT IT READS IS OF BULK AT MOST 1048576: true; the input reads as it did. -/
def codeDartsUptoRow : OpenClaim := { program := "ytinaebeoocjhcaa", sum := "7f7d66abcaa4bbfae366840ef9bb8d0e4fb2876889b6de59afadc5b1dd76f90a", func := "knotwork/knotworkkeep.CodeDarts", spec := "codeDarts", unfollowed := true, recurses := true, plainKeys := false, apart := false, narrowed := true }
def CodeDartsUptoSaid : Prop := codeDartsUptoRow.holds Try.pinned (OpenSpec.upto codeDartsSpec)

/-- 'knotworkkeep.GaussBack', WHERE WHAT IT READS IS OF BULK AT MOST 1048576: true; the input reads as it did. -/
def gaussBackUptoRow : OpenClaim := { program := "ytinaebeoocjhcaa", sum := "7f7d66abcaa4bbfae366840ef9bb8d0e4fb2876889b6de59afadc5b1dd76f90a", func := "knotwork/knotworkkeep.GaussBack", spec := "gaussBack", unfollowed := true, recurses := true, plainKeys := false, apart := false, narrowed := true }
def GaussBackUptoSaid : Prop := gaussBackUptoRow.holds Try.pinned (OpenSpec.upto gaussBackSpec)

/-- 'knotworklaw.CanonForms', WHERE WHAT IT READS IS OF BULK AT MOST 1048576: true; the input reads as it did. -/
def canonFormsUptoRow : OpenClaim := { program := "ytinaebeoocjhcaa", sum := "7f7d66abcaa4bbfae366840ef9bb8d0e4fb2876889b6de59afadc5b1dd76f90a", func := "knotwork/knotworklaw.CanonForms", spec := "canonForms", unfollowed := true, recurses := true, plainKeys := false, apart := false, narrowed := true }
def CanonFormsUptoSaid : Prop := canonFormsUptoRow.holds Try.pinned (OpenSpec.upto canonFormsSpec)

/-- 'knotworkkeep.CanonAny', WHERE WHAT IT READS IS OF BULK AT MOST 1048576: true; the input reads as it did. -/
def canonAnyUptoRow : OpenClaim := { program := "ytinaebeoocjhcaa", sum := "7f7d66abcaa4bbfae366840ef9bb8d0e4fb2876889b6de59afadc5b1dd76f90a", func := "knotwork/knotworkkeep.CanonAny", spec := "canonAny", unfollowed := true, recurses := true, plainKeys := false, apart := false, narrowed := true }
def CanonAnyUptoSaid : Prop := canonAnyUptoRow.holds Try.pinned (OpenSpec.upto canonAnySpec)

/-- 'knotworkkeep.CanonTwice', WHERE WHAT IT READS IS OF BULK AT MOST 1048576: true; the input reads as it did. -/
def canonTwiceUptoRow : OpenClaim := { program := "ytinaebeoocjhcaa", sum := "7f7d66abcaa4bbfae366840ef9bb8d0e4fb2876889b6de59afadc5b1dd76f90a", func := "knotwork/knotworkkeep.CanonTwice", spec := "canonTwice", unfollowed := true, recurses := true, plainKeys := false, apart := false, narrowed := true }
def CanonTwiceUptoSaid : Prop := canonTwiceUptoRow.holds Try.pinned (OpenSpec.upto canonTwiceSpec)

/-- 'knotworklaw.MovesDo', WHERE WHAT IT READS IS OF BULK AT MOST 1048576: true; the input reads as it did. -/
def movesDoUptoRow : OpenClaim := { program := "ytinaebeoocjhcaa", sum := "7f7d66abcaa4bbfae366840ef9bb8d0e4fb2876889b6de59afadc5b1dd76f90a", func := "knotwork/knotworklaw.MovesDo", spec := "movesDo", unfollowed := true, recurses := true, plainKeys := false, apart := false, narrowed := true }
def MovesDoUptoSaid : Prop := movesDoUptoRow.holds Try.pinned (OpenSpec.upto movesDoSpec)

/-- 'knotworklaw.MovesRows', WHERE WHAT IT READS IS OF BULK AT MOST 1048576: true; the input reads as it did. -/
def movesRowsUptoRow : OpenClaim := { program := "ytinaebeoocjhcaa", sum := "7f7d66abcaa4bbfae366840ef9bb8d0e4fb2876889b6de59afadc5b1dd76f90a", func := "knotwork/knotworklaw.MovesRows", spec := "movesRows", unfollowed := true, recurses := true, plainKeys := false, apart := false, narrowed := true }
def MovesRowsUptoSaid : Prop := movesRowsUptoRow.holds Try.pinned (OpenSpec.upto movesRowsSpec)

/-- 'knotworklaw.MovesTake', WHERE WHAT IT READS IS OF BULK AT MOST 1048576: true; the input reads as it did. -/
def movesTakeUptoRow : OpenClaim := { program := "ytinaebeoocjhcaa", sum := "7f7d66abcaa4bbfae366840ef9bb8d0e4fb2876889b6de59afadc5b1dd76f90a", func := "knotwork/knotworklaw.MovesTake", spec := "movesTake", unfollowed := true, recurses := true, plainKeys := false, apart := false, narrowed := true }
def MovesTakeUptoSaid : Prop := movesTakeUptoRow.holds Try.pinned (OpenSpec.upto movesTakeSpec)

/-- 'knotworkkeep.MovesBack', WHERE WHAT IT READS IS OF BULK AT MOST 1048576: true; the input reads as it did. -/
def movesBackUptoRow : OpenClaim := { program := "ytinaebeoocjhcaa", sum := "7f7d66abcaa4bbfae366840ef9bb8d0e4fb2876889b6de59afadc5b1dd76f90a", func := "knotwork/knotworkkeep.MovesBack", spec := "movesBack", unfollowed := true, recurses := true, plainKeys := false, apart := false, narrowed := true }
def MovesBackUptoSaid : Prop := movesBackUptoRow.holds Try.pinned (OpenSpec.upto movesBackSpec)

/-- 'knotworkkeep.MovesSimple', WHERE WHAT IT READS IS OF BULK AT MOST 1048576: true; the input reads as it did. -/
def movesSimpleUptoRow : OpenClaim := { program := "ytinaebeoocjhcaa", sum := "7f7d66abcaa4bbfae366840ef9bb8d0e4fb2876889b6de59afadc5b1dd76f90a", func := "knotwork/knotworkkeep.MovesSimple", spec := "movesSimple", unfollowed := true, recurses := true, plainKeys := false, apart := false, narrowed := true }
def MovesSimpleUptoSaid : Prop := movesSimpleUptoRow.holds Try.pinned (OpenSpec.upto movesSimpleSpec)

/-- 'knotworklaw.ColourOvers', WHERE WHAT IT READS IS OF BULK AT MOST 1048576: true; the input reads as it did. -/
def colourOversUptoRow : OpenClaim := { program := "ytinaebeoocjhcaa", sum := "7f7d66abcaa4bbfae366840ef9bb8d0e4fb2876889b6de59afadc5b1dd76f90a", func := "knotwork/knotworklaw.ColourOvers", spec := "colourOvers", unfollowed := true, recurses := true, plainKeys := false, apart := false, narrowed := true }
def ColourOversUptoSaid : Prop := colourOversUptoRow.holds Try.pinned (OpenSpec.upto colourOversSpec)

/-- 'knotworklaw.ColourFox', WHERE WHAT IT READS IS OF BULK AT MOST 1048576: true; the input reads as it did. -/
def colourFoxUptoRow : OpenClaim := { program := "ytinaebeoocjhcaa", sum := "7f7d66abcaa4bbfae366840ef9bb8d0e4fb2876889b6de59afadc5b1dd76f90a", func := "knotwork/knotworklaw.ColourFox", spec := "colourFox", unfollowed := true, recurses := true, plainKeys := false, apart := false, narrowed := true }
def ColourFoxUptoSaid : Prop := colourFoxUptoRow.holds Try.pinned (OpenSpec.upto colourFoxSpec)

/-- 'knotworklaw.ColourCounts', WHERE WHAT IT READS IS OF BULK AT MOST 1048576: true; the input reads as it did. -/
def colourCountsUptoRow : OpenClaim := { program := "ytinaebeoocjhcaa", sum := "7f7d66abcaa4bbfae366840ef9bb8d0e4fb2876889b6de59afadc5b1dd76f90a", func := "knotwork/knotworklaw.ColourCounts", spec := "colourCounts", unfollowed := true, recurses := true, plainKeys := false, apart := false, narrowed := true }
def ColourCountsUptoSaid : Prop := colourCountsUptoRow.holds Try.pinned (OpenSpec.upto colourCountsSpec)

end Rows
end Go.Proofs.Ytinaebeoocjhcaa
