/-
  No cell of these rows narrows 'for every input' (looked for: loops, veiled, ifaces, maps, wideKeys, modest, calm, conditions, laid).
  DERIVED. THE GIVEN ROWS OF THIS SEAT. 16 by the template 'for every input the law returns true; each argument reads behind the call as it read before'; 0 by the template 'total and deterministic' (their statements: YtmggackacaobjaaTotals.lean).
  GIVEN WITH THE SEED: the statements are not yours to turn. If you find one false, say at which input.
  Laid BY PROGRAM, IN A SANDBOX (cutbox-rows.mjs): the forced cells as the released guide's own fill.sh prints them over the translation 435b6f70b5fdb2dd… (all of the seat's roots in one cut). By AI agents, Wed Nov 11 2026. No macro, syntax, notation, axiom, sorry.
-/
import Derived.Test.YtmggackacaobjaaChecked
import GoSem.Claim
import GoSem.ClaimJoined
import GoSem.ClaimMapViews
import Derived.JoinedTies
import Derived.KernelRfl
namespace Go.Proofs.Ytmggackacaobjaa
/- THE CELL 'sum', in the pinned program and in every row, IS THE sha256 OF THE DUMP (.gsa) THAT YtmggackacaobjaaProg.lean LOADS. Nothing in Lean hashes anything: it is a label: what it is worth is what the hold of that sum in a sandbox is worth. -/
noncomputable def Try.pinned : Pinned := { name := "ytmggackacaobjaa", sum := "435b6f70b5fdb2dd84087fcbe0d62509abfe976c9da905ea14cc7fb2363eb464", checked := Try.checked }
namespace Rows
def none {H : Type} : Left H := { results := [], args := [] }

/-- 'knotworklaw.GaussTells': WHATEVER THE INPUT: true; the input reads as it did. -/
def gaussTellsSpec : ChangeSpec := { name := "gaussTells", fn := fun _ => fun
  | [d] => { results := [.lit (.bool true)], args := [d] }
  | _ => none }
def gaussTellsRow : OpenClaim := { program := "ytmggackacaobjaa", sum := "435b6f70b5fdb2dd84087fcbe0d62509abfe976c9da905ea14cc7fb2363eb464", func := "knotwork/knotworklaw.GaussTells", spec := "gaussTells", unfollowed := true, recurses := true, plainKeys := false, apart := false }
def GaussTellsSaid : Prop := gaussTellsRow.holds Try.pinned (OpenSpec.ofChange gaussTellsSpec)

/-- ITS FALSE NEIGHBOUR: 'it returns false'. Refute it at one input. -/
def gaussTellsWrong : ChangeSpec := { name := "gaussTells", fn := fun _ => fun
  | [d] => { results := [.lit (.bool false)], args := [d] }
  | _ => none }
def GaussTellsWrongFalsely : Prop := gaussTellsRow.holds Try.pinned (OpenSpec.ofChange gaussTellsWrong)

/-- 'knotworklaw.GaussBuilds': WHATEVER THE INPUT: true; the input reads as it did. -/
def gaussBuildsSpec : ChangeSpec := { name := "gaussBuilds", fn := fun _ => fun
  | [d1, d2, d3] => { results := [.lit (.bool true)], args := [d1, d2, d3] }
  | _ => none }
def gaussBuildsRow : OpenClaim := { program := "ytmggackacaobjaa", sum := "435b6f70b5fdb2dd84087fcbe0d62509abfe976c9da905ea14cc7fb2363eb464", func := "knotwork/knotworklaw.GaussBuilds", spec := "gaussBuilds", plainKeys := false, apart := false }
def GaussBuildsSaid : Prop := gaussBuildsRow.holds Try.pinned (OpenSpec.ofChange gaussBuildsSpec)

/-- ITS FALSE NEIGHBOUR: 'it returns false'. Refute it at one input. -/
def gaussBuildsWrong : ChangeSpec := { name := "gaussBuilds", fn := fun _ => fun
  | [d1, d2, d3] => { results := [.lit (.bool false)], args := [d1, d2, d3] }
  | _ => none }
def GaussBuildsWrongFalsely : Prop := gaussBuildsRow.holds Try.pinned (OpenSpec.ofChange gaussBuildsWrong)

/-- 'knotworklaw.GaussDowker': WHATEVER THE INPUT: true; the input reads as it did. -/
def gaussDowkerSpec : ChangeSpec := { name := "gaussDowker", fn := fun _ => fun
  | [d] => { results := [.lit (.bool true)], args := [d] }
  | _ => none }
def gaussDowkerRow : OpenClaim := { program := "ytmggackacaobjaa", sum := "435b6f70b5fdb2dd84087fcbe0d62509abfe976c9da905ea14cc7fb2363eb464", func := "knotwork/knotworklaw.GaussDowker", spec := "gaussDowker", unfollowed := true, recurses := true, plainKeys := false, apart := false }
def GaussDowkerSaid : Prop := gaussDowkerRow.holds Try.pinned (OpenSpec.ofChange gaussDowkerSpec)

/-- ITS FALSE NEIGHBOUR: 'it returns false'. Refute it at one input. -/
def gaussDowkerWrong : ChangeSpec := { name := "gaussDowker", fn := fun _ => fun
  | [d] => { results := [.lit (.bool false)], args := [d] }
  | _ => none }
def GaussDowkerWrongFalsely : Prop := gaussDowkerRow.holds Try.pinned (OpenSpec.ofChange gaussDowkerWrong)

/-- 'knotworkkeep.CodeDarts': WHATEVER THE INPUT: true; the input reads as it did. -/
def codeDartsSpec : ChangeSpec := { name := "codeDarts", fn := fun _ => fun
  | [d] => { results := [.lit (.bool true)], args := [d] }
  | _ => none }
def codeDartsRow : OpenClaim := { program := "ytmggackacaobjaa", sum := "435b6f70b5fdb2dd84087fcbe0d62509abfe976c9da905ea14cc7fb2363eb464", func := "knotwork/knotworkkeep.CodeDarts", spec := "codeDarts", unfollowed := true, recurses := true, plainKeys := false, apart := false }
def CodeDartsSaid : Prop := codeDartsRow.holds Try.pinned (OpenSpec.ofChange codeDartsSpec)

/-- ITS FALSE NEIGHBOUR: 'it returns false'. Refute it at one input. -/
def codeDartsWrong : ChangeSpec := { name := "codeDarts", fn := fun _ => fun
  | [d] => { results := [.lit (.bool false)], args := [d] }
  | _ => none }
def CodeDartsWrongFalsely : Prop := codeDartsRow.holds Try.pinned (OpenSpec.ofChange codeDartsWrong)

/-- 'knotworkkeep.GaussBack': WHATEVER THE INPUT: true; the input reads as it did. -/
def gaussBackSpec : ChangeSpec := { name := "gaussBack", fn := fun _ => fun
  | [d] => { results := [.lit (.bool true)], args := [d] }
  | _ => none }
def gaussBackRow : OpenClaim := { program := "ytmggackacaobjaa", sum := "435b6f70b5fdb2dd84087fcbe0d62509abfe976c9da905ea14cc7fb2363eb464", func := "knotwork/knotworkkeep.GaussBack", spec := "gaussBack", unfollowed := true, recurses := true, plainKeys := false, apart := false }
def GaussBackSaid : Prop := gaussBackRow.holds Try.pinned (OpenSpec.ofChange gaussBackSpec)

/-- ITS FALSE NEIGHBOUR: 'it returns false'. Refute it at one input. -/
def gaussBackWrong : ChangeSpec := { name := "gaussBack", fn := fun _ => fun
  | [d] => { results := [.lit (.bool false)], args := [d] }
  | _ => none }
def GaussBackWrongFalsely : Prop := gaussBackRow.holds Try.pinned (OpenSpec.ofChange gaussBackWrong)

/-- 'knotworklaw.CanonForms': WHATEVER THE INPUT: true; the input reads as it did. -/
def canonFormsSpec : ChangeSpec := { name := "canonForms", fn := fun _ => fun
  | [d1, d2] => { results := [.lit (.bool true)], args := [d1, d2] }
  | _ => none }
def canonFormsRow : OpenClaim := { program := "ytmggackacaobjaa", sum := "435b6f70b5fdb2dd84087fcbe0d62509abfe976c9da905ea14cc7fb2363eb464", func := "knotwork/knotworklaw.CanonForms", spec := "canonForms", unfollowed := true, recurses := true, plainKeys := false, apart := false }
def CanonFormsSaid : Prop := canonFormsRow.holds Try.pinned (OpenSpec.ofChange canonFormsSpec)

/-- ITS FALSE NEIGHBOUR: 'it returns false'. Refute it at one input. -/
def canonFormsWrong : ChangeSpec := { name := "canonForms", fn := fun _ => fun
  | [d1, d2] => { results := [.lit (.bool false)], args := [d1, d2] }
  | _ => none }
def CanonFormsWrongFalsely : Prop := canonFormsRow.holds Try.pinned (OpenSpec.ofChange canonFormsWrong)

/-- 'knotworklaw.CanonTurns': WHATEVER THE INPUT: true; the input reads as it did. -/
def canonTurnsSpec : ChangeSpec := { name := "canonTurns", fn := fun _ => fun
  | [d1, d2] => { results := [.lit (.bool true)], args := [d1, d2] }
  | _ => none }
def canonTurnsRow : OpenClaim := { program := "ytmggackacaobjaa", sum := "435b6f70b5fdb2dd84087fcbe0d62509abfe976c9da905ea14cc7fb2363eb464", func := "knotwork/knotworklaw.CanonTurns", spec := "canonTurns", unfollowed := true, recurses := true, plainKeys := false, apart := false }
def CanonTurnsSaid : Prop := canonTurnsRow.holds Try.pinned (OpenSpec.ofChange canonTurnsSpec)

/-- ITS FALSE NEIGHBOUR: 'it returns false'. Refute it at one input. -/
def canonTurnsWrong : ChangeSpec := { name := "canonTurns", fn := fun _ => fun
  | [d1, d2] => { results := [.lit (.bool false)], args := [d1, d2] }
  | _ => none }
def CanonTurnsWrongFalsely : Prop := canonTurnsRow.holds Try.pinned (OpenSpec.ofChange canonTurnsWrong)

/-- 'knotworkkeep.CanonAny': WHATEVER THE INPUT: true; the input reads as it did. -/
def canonAnySpec : ChangeSpec := { name := "canonAny", fn := fun _ => fun
  | [d1, d2, d3] => { results := [.lit (.bool true)], args := [d1, d2, d3] }
  | _ => none }
def canonAnyRow : OpenClaim := { program := "ytmggackacaobjaa", sum := "435b6f70b5fdb2dd84087fcbe0d62509abfe976c9da905ea14cc7fb2363eb464", func := "knotwork/knotworkkeep.CanonAny", spec := "canonAny", unfollowed := true, recurses := true, plainKeys := false, apart := false }
def CanonAnySaid : Prop := canonAnyRow.holds Try.pinned (OpenSpec.ofChange canonAnySpec)

/-- ITS FALSE NEIGHBOUR: 'it returns false'. Refute it at one input. -/
def canonAnyWrong : ChangeSpec := { name := "canonAny", fn := fun _ => fun
  | [d1, d2, d3] => { results := [.lit (.bool false)], args := [d1, d2, d3] }
  | _ => none }
def CanonAnyWrongFalsely : Prop := canonAnyRow.holds Try.pinned (OpenSpec.ofChange canonAnyWrong)

/-- 'knotworkkeep.CanonTwice': WHATEVER THE INPUT: true; the input reads as it did. -/
def canonTwiceSpec : ChangeSpec := { name := "canonTwice", fn := fun _ => fun
  | [d1, d2, d3, d4] => { results := [.lit (.bool true)], args := [d1, d2, d3, d4] }
  | _ => none }
def canonTwiceRow : OpenClaim := { program := "ytmggackacaobjaa", sum := "435b6f70b5fdb2dd84087fcbe0d62509abfe976c9da905ea14cc7fb2363eb464", func := "knotwork/knotworkkeep.CanonTwice", spec := "canonTwice", unfollowed := true, recurses := true, plainKeys := false, apart := false }
def CanonTwiceSaid : Prop := canonTwiceRow.holds Try.pinned (OpenSpec.ofChange canonTwiceSpec)

/-- ITS FALSE NEIGHBOUR: 'it returns false'. Refute it at one input. -/
def canonTwiceWrong : ChangeSpec := { name := "canonTwice", fn := fun _ => fun
  | [d1, d2, d3, d4] => { results := [.lit (.bool false)], args := [d1, d2, d3, d4] }
  | _ => none }
def CanonTwiceWrongFalsely : Prop := canonTwiceRow.holds Try.pinned (OpenSpec.ofChange canonTwiceWrong)

/-- 'knotworklaw.MovesDo': WHATEVER THE INPUT: true; the input reads as it did. -/
def movesDoSpec : ChangeSpec := { name := "movesDo", fn := fun _ => fun
  | [d1, d2] => { results := [.lit (.bool true)], args := [d1, d2] }
  | _ => none }
def movesDoRow : OpenClaim := { program := "ytmggackacaobjaa", sum := "435b6f70b5fdb2dd84087fcbe0d62509abfe976c9da905ea14cc7fb2363eb464", func := "knotwork/knotworklaw.MovesDo", spec := "movesDo", unfollowed := true, recurses := true, plainKeys := false, apart := false }
def MovesDoSaid : Prop := movesDoRow.holds Try.pinned (OpenSpec.ofChange movesDoSpec)

/-- ITS FALSE NEIGHBOUR: 'it returns false'. Refute it at one input. -/
def movesDoWrong : ChangeSpec := { name := "movesDo", fn := fun _ => fun
  | [d1, d2] => { results := [.lit (.bool false)], args := [d1, d2] }
  | _ => none }
def MovesDoWrongFalsely : Prop := movesDoRow.holds Try.pinned (OpenSpec.ofChange movesDoWrong)

/-- 'knotworklaw.MovesRows': WHATEVER THE INPUT: true; the input reads as it did. -/
def movesRowsSpec : ChangeSpec := { name := "movesRows", fn := fun _ => fun
  | [d1, d2] => { results := [.lit (.bool true)], args := [d1, d2] }
  | _ => none }
def movesRowsRow : OpenClaim := { program := "ytmggackacaobjaa", sum := "435b6f70b5fdb2dd84087fcbe0d62509abfe976c9da905ea14cc7fb2363eb464", func := "knotwork/knotworklaw.MovesRows", spec := "movesRows", unfollowed := true, recurses := true, plainKeys := false, apart := false }
def MovesRowsSaid : Prop := movesRowsRow.holds Try.pinned (OpenSpec.ofChange movesRowsSpec)

/-- ITS FALSE NEIGHBOUR: 'it returns false'. Refute it at one input. -/
def movesRowsWrong : ChangeSpec := { name := "movesRows", fn := fun _ => fun
  | [d1, d2] => { results := [.lit (.bool false)], args := [d1, d2] }
  | _ => none }
def MovesRowsWrongFalsely : Prop := movesRowsRow.holds Try.pinned (OpenSpec.ofChange movesRowsWrong)

/-- 'knotworklaw.MovesTake': WHATEVER THE INPUT: true; the input reads as it did. -/
def movesTakeSpec : ChangeSpec := { name := "movesTake", fn := fun _ => fun
  | [d] => { results := [.lit (.bool true)], args := [d] }
  | _ => none }
def movesTakeRow : OpenClaim := { program := "ytmggackacaobjaa", sum := "435b6f70b5fdb2dd84087fcbe0d62509abfe976c9da905ea14cc7fb2363eb464", func := "knotwork/knotworklaw.MovesTake", spec := "movesTake", unfollowed := true, recurses := true, plainKeys := false, apart := false }
def MovesTakeSaid : Prop := movesTakeRow.holds Try.pinned (OpenSpec.ofChange movesTakeSpec)

/-- ITS FALSE NEIGHBOUR: 'it returns false'. Refute it at one input. -/
def movesTakeWrong : ChangeSpec := { name := "movesTake", fn := fun _ => fun
  | [d] => { results := [.lit (.bool false)], args := [d] }
  | _ => none }
def MovesTakeWrongFalsely : Prop := movesTakeRow.holds Try.pinned (OpenSpec.ofChange movesTakeWrong)

/-- 'knotworkkeep.MovesBack': WHATEVER THE INPUT: true; the input reads as it did. -/
def movesBackSpec : ChangeSpec := { name := "movesBack", fn := fun _ => fun
  | [d1, d2] => { results := [.lit (.bool true)], args := [d1, d2] }
  | _ => none }
def movesBackRow : OpenClaim := { program := "ytmggackacaobjaa", sum := "435b6f70b5fdb2dd84087fcbe0d62509abfe976c9da905ea14cc7fb2363eb464", func := "knotwork/knotworkkeep.MovesBack", spec := "movesBack", unfollowed := true, recurses := true, plainKeys := false, apart := false }
def MovesBackSaid : Prop := movesBackRow.holds Try.pinned (OpenSpec.ofChange movesBackSpec)

/-- ITS FALSE NEIGHBOUR: 'it returns false'. Refute it at one input. -/
def movesBackWrong : ChangeSpec := { name := "movesBack", fn := fun _ => fun
  | [d1, d2] => { results := [.lit (.bool false)], args := [d1, d2] }
  | _ => none }
def MovesBackWrongFalsely : Prop := movesBackRow.holds Try.pinned (OpenSpec.ofChange movesBackWrong)

/-- 'knotworkkeep.MovesSimple': WHATEVER THE INPUT: true; the input reads as it did. -/
def movesSimpleSpec : ChangeSpec := { name := "movesSimple", fn := fun _ => fun
  | [d] => { results := [.lit (.bool true)], args := [d] }
  | _ => none }
def movesSimpleRow : OpenClaim := { program := "ytmggackacaobjaa", sum := "435b6f70b5fdb2dd84087fcbe0d62509abfe976c9da905ea14cc7fb2363eb464", func := "knotwork/knotworkkeep.MovesSimple", spec := "movesSimple", unfollowed := true, recurses := true, plainKeys := false, apart := false }
def MovesSimpleSaid : Prop := movesSimpleRow.holds Try.pinned (OpenSpec.ofChange movesSimpleSpec)

/-- ITS FALSE NEIGHBOUR: 'it returns false'. Refute it at one input. -/
def movesSimpleWrong : ChangeSpec := { name := "movesSimple", fn := fun _ => fun
  | [d] => { results := [.lit (.bool false)], args := [d] }
  | _ => none }
def MovesSimpleWrongFalsely : Prop := movesSimpleRow.holds Try.pinned (OpenSpec.ofChange movesSimpleWrong)

/-- 'knotworklaw.WindTells': WHATEVER THE INPUT: true; the input reads as it did. -/
def windTellsSpec : ChangeSpec := { name := "windTells", fn := fun _ => fun
  | [d] => { results := [.lit (.bool true)], args := [d] }
  | _ => none }
def windTellsRow : OpenClaim := { program := "ytmggackacaobjaa", sum := "435b6f70b5fdb2dd84087fcbe0d62509abfe976c9da905ea14cc7fb2363eb464", func := "knotwork/knotworklaw.WindTells", spec := "windTells", unfollowed := true, recurses := true, plainKeys := false, apart := false }
def WindTellsSaid : Prop := windTellsRow.holds Try.pinned (OpenSpec.ofChange windTellsSpec)

/-- ITS FALSE NEIGHBOUR: 'it returns false'. Refute it at one input. -/
def windTellsWrong : ChangeSpec := { name := "windTells", fn := fun _ => fun
  | [d] => { results := [.lit (.bool false)], args := [d] }
  | _ => none }
def WindTellsWrongFalsely : Prop := windTellsRow.holds Try.pinned (OpenSpec.ofChange windTellsWrong)

/-- 'knotworklaw.WindGenus': WHATEVER THE INPUT: true; the input reads as it did. -/
def windGenusSpec : ChangeSpec := { name := "windGenus", fn := fun _ => fun
  | [d] => { results := [.lit (.bool true)], args := [d] }
  | _ => none }
def windGenusRow : OpenClaim := { program := "ytmggackacaobjaa", sum := "435b6f70b5fdb2dd84087fcbe0d62509abfe976c9da905ea14cc7fb2363eb464", func := "knotwork/knotworklaw.WindGenus", spec := "windGenus", unfollowed := true, recurses := true, plainKeys := false, apart := false }
def WindGenusSaid : Prop := windGenusRow.holds Try.pinned (OpenSpec.ofChange windGenusSpec)

/-- ITS FALSE NEIGHBOUR: 'it returns false'. Refute it at one input. -/
def windGenusWrong : ChangeSpec := { name := "windGenus", fn := fun _ => fun
  | [d] => { results := [.lit (.bool false)], args := [d] }
  | _ => none }
def WindGenusWrongFalsely : Prop := windGenusRow.holds Try.pinned (OpenSpec.ofChange windGenusWrong)

/- THE SECOND FORM. 'bulk': how many values and letters a reading holds, each counted each time it is reached (what is shared counts as often as it is met; a slice's spare places count too). A statement '..UptoSaid' is the law's where the arguments, and the package variables that the reading takes, are together of bulk at most 1048576: NARROWER than '..Said'. Prove '..Said' where nothing that the law and all that it calls make is longer than what came in: it says more and counts as full. Else prove '..UptoSaid'. A law counts once. -/
mutual
def uptoBulk {H : Type} : DataW H → Nat
  | .lit (.string bytes) => bytes.length + 1
  | .lit _ => 1
  | .nil => 1
  | .ptr d => uptoBulk d + 1
  | .slice elems spare => uptoBulkAll elems + uptoBulkAll spare + 1
  | .agg parts => uptoBulkAll parts + 1
  | .iface _ d => uptoBulk d + 1
  | .map entries => uptoBulkEntries entries + 1
  | .held _ => 1
def uptoBulkAll {H : Type} : List (DataW H) → Nat
  | [] => 0
  | d :: r => uptoBulk d + uptoBulkAll r
def uptoBulkEntries {H : Type} : List (Lit × DataW H) → Nat
  | [] => 0
  | x :: r => uptoBulkEntry x + uptoBulkEntries r
def uptoBulkEntry {H : Type} : Lit × DataW H → Nat
  | (.string bytes, d) => bytes.length + uptoBulk d + 1
  | (_, d) => uptoBulk d + 1
 end
def uptoSmall : (H : Type) → List (DataW H) → Bool := fun _ ds => decide (uptoBulkAll ds ≤ 1048576)
def OpenSpec.upto (s : _root_.Go.ChangeSpec) : _root_.Go.OpenSpec := { _root_.Go.OpenSpec.ofChange s with cond := some uptoSmall }

/-- 'knotworklaw.GaussTells', WHERE WHAT IT READS IS OF BULK AT MOST 1048576: true; the input reads as it did. -/
def gaussTellsUptoRow : OpenClaim := { program := "ytmggackacaobjaa", sum := "435b6f70b5fdb2dd84087fcbe0d62509abfe976c9da905ea14cc7fb2363eb464", func := "knotwork/knotworklaw.GaussTells", spec := "gaussTells", unfollowed := true, recurses := true, plainKeys := false, apart := false, narrowed := true }
def GaussTellsUptoSaid : Prop := gaussTellsUptoRow.holds Try.pinned (OpenSpec.upto gaussTellsSpec)

/-- 'knotworklaw.GaussBuilds', WHERE WHAT IT READS IS OF BULK AT MOST 1048576: true; the input reads as it did. -/
def gaussBuildsUptoRow : OpenClaim := { program := "ytmggackacaobjaa", sum := "435b6f70b5fdb2dd84087fcbe0d62509abfe976c9da905ea14cc7fb2363eb464", func := "knotwork/knotworklaw.GaussBuilds", spec := "gaussBuilds", plainKeys := false, apart := false, narrowed := true }
def GaussBuildsUptoSaid : Prop := gaussBuildsUptoRow.holds Try.pinned (OpenSpec.upto gaussBuildsSpec)

/-- 'knotworklaw.GaussDowker', WHERE WHAT IT READS IS OF BULK AT MOST 1048576: true; the input reads as it did. -/
def gaussDowkerUptoRow : OpenClaim := { program := "ytmggackacaobjaa", sum := "435b6f70b5fdb2dd84087fcbe0d62509abfe976c9da905ea14cc7fb2363eb464", func := "knotwork/knotworklaw.GaussDowker", spec := "gaussDowker", unfollowed := true, recurses := true, plainKeys := false, apart := false, narrowed := true }
def GaussDowkerUptoSaid : Prop := gaussDowkerUptoRow.holds Try.pinned (OpenSpec.upto gaussDowkerSpec)

/-- 'knotworkkeep.CodeDarts', WHERE WHAT IT READS IS OF BULK AT MOST 1048576: true; the input reads as it did. -/
def codeDartsUptoRow : OpenClaim := { program := "ytmggackacaobjaa", sum := "435b6f70b5fdb2dd84087fcbe0d62509abfe976c9da905ea14cc7fb2363eb464", func := "knotwork/knotworkkeep.CodeDarts", spec := "codeDarts", unfollowed := true, recurses := true, plainKeys := false, apart := false, narrowed := true }
def CodeDartsUptoSaid : Prop := codeDartsUptoRow.holds Try.pinned (OpenSpec.upto codeDartsSpec)

/-- 'knotworkkeep.GaussBack', WHERE WHAT IT READS IS OF BULK AT MOST 1048576: true; the input reads as it did. -/
def gaussBackUptoRow : OpenClaim := { program := "ytmggackacaobjaa", sum := "435b6f70b5fdb2dd84087fcbe0d62509abfe976c9da905ea14cc7fb2363eb464", func := "knotwork/knotworkkeep.GaussBack", spec := "gaussBack", unfollowed := true, recurses := true, plainKeys := false, apart := false, narrowed := true }
def GaussBackUptoSaid : Prop := gaussBackUptoRow.holds Try.pinned (OpenSpec.upto gaussBackSpec)

/-- 'knotworklaw.CanonForms', WHERE WHAT IT READS IS OF BULK AT MOST 1048576: true; the input reads as it did. -/
def canonFormsUptoRow : OpenClaim := { program := "ytmggackacaobjaa", sum := "435b6f70b5fdb2dd84087fcbe0d62509abfe976c9da905ea14cc7fb2363eb464", func := "knotwork/knotworklaw.CanonForms", spec := "canonForms", unfollowed := true, recurses := true, plainKeys := false, apart := false, narrowed := true }
def CanonFormsUptoSaid : Prop := canonFormsUptoRow.holds Try.pinned (OpenSpec.upto canonFormsSpec)

/-- 'knotworklaw.CanonTurns', WHERE WHAT IT READS IS OF BULK AT MOST 1048576: true; the input reads as it did. -/
def canonTurnsUptoRow : OpenClaim := { program := "ytmggackacaobjaa", sum := "435b6f70b5fdb2dd84087fcbe0d62509abfe976c9da905ea14cc7fb2363eb464", func := "knotwork/knotworklaw.CanonTurns", spec := "canonTurns", unfollowed := true, recurses := true, plainKeys := false, apart := false, narrowed := true }
def CanonTurnsUptoSaid : Prop := canonTurnsUptoRow.holds Try.pinned (OpenSpec.upto canonTurnsSpec)

/-- 'knotworkkeep.CanonAny', WHERE WHAT IT READS IS OF BULK AT MOST 1048576: true; the input reads as it did. -/
def canonAnyUptoRow : OpenClaim := { program := "ytmggackacaobjaa", sum := "435b6f70b5fdb2dd84087fcbe0d62509abfe976c9da905ea14cc7fb2363eb464", func := "knotwork/knotworkkeep.CanonAny", spec := "canonAny", unfollowed := true, recurses := true, plainKeys := false, apart := false, narrowed := true }
def CanonAnyUptoSaid : Prop := canonAnyUptoRow.holds Try.pinned (OpenSpec.upto canonAnySpec)

/-- 'knotworkkeep.CanonTwice', WHERE WHAT IT READS IS OF BULK AT MOST 1048576: true; the input reads as it did. -/
def canonTwiceUptoRow : OpenClaim := { program := "ytmggackacaobjaa", sum := "435b6f70b5fdb2dd84087fcbe0d62509abfe976c9da905ea14cc7fb2363eb464", func := "knotwork/knotworkkeep.CanonTwice", spec := "canonTwice", unfollowed := true, recurses := true, plainKeys := false, apart := false, narrowed := true }
def CanonTwiceUptoSaid : Prop := canonTwiceUptoRow.holds Try.pinned (OpenSpec.upto canonTwiceSpec)

/-- 'knotworklaw.MovesDo', WHERE WHAT IT READS IS OF BULK AT MOST 1048576: true; the input reads as it did. -/
def movesDoUptoRow : OpenClaim := { program := "ytmggackacaobjaa", sum := "435b6f70b5fdb2dd84087fcbe0d62509abfe976c9da905ea14cc7fb2363eb464", func := "knotwork/knotworklaw.MovesDo", spec := "movesDo", unfollowed := true, recurses := true, plainKeys := false, apart := false, narrowed := true }
def MovesDoUptoSaid : Prop := movesDoUptoRow.holds Try.pinned (OpenSpec.upto movesDoSpec)

/-- 'knotworklaw.MovesRows', WHERE WHAT IT READS IS OF BULK AT MOST 1048576: true; the input reads as it did. -/
def movesRowsUptoRow : OpenClaim := { program := "ytmggackacaobjaa", sum := "435b6f70b5fdb2dd84087fcbe0d62509abfe976c9da905ea14cc7fb2363eb464", func := "knotwork/knotworklaw.MovesRows", spec := "movesRows", unfollowed := true, recurses := true, plainKeys := false, apart := false, narrowed := true }
def MovesRowsUptoSaid : Prop := movesRowsUptoRow.holds Try.pinned (OpenSpec.upto movesRowsSpec)

/-- 'knotworklaw.MovesTake', WHERE WHAT IT READS IS OF BULK AT MOST 1048576: true; the input reads as it did. -/
def movesTakeUptoRow : OpenClaim := { program := "ytmggackacaobjaa", sum := "435b6f70b5fdb2dd84087fcbe0d62509abfe976c9da905ea14cc7fb2363eb464", func := "knotwork/knotworklaw.MovesTake", spec := "movesTake", unfollowed := true, recurses := true, plainKeys := false, apart := false, narrowed := true }
def MovesTakeUptoSaid : Prop := movesTakeUptoRow.holds Try.pinned (OpenSpec.upto movesTakeSpec)

/-- 'knotworkkeep.MovesBack', WHERE WHAT IT READS IS OF BULK AT MOST 1048576: true; the input reads as it did. -/
def movesBackUptoRow : OpenClaim := { program := "ytmggackacaobjaa", sum := "435b6f70b5fdb2dd84087fcbe0d62509abfe976c9da905ea14cc7fb2363eb464", func := "knotwork/knotworkkeep.MovesBack", spec := "movesBack", unfollowed := true, recurses := true, plainKeys := false, apart := false, narrowed := true }
def MovesBackUptoSaid : Prop := movesBackUptoRow.holds Try.pinned (OpenSpec.upto movesBackSpec)

/-- 'knotworkkeep.MovesSimple', WHERE WHAT IT READS IS OF BULK AT MOST 1048576: true; the input reads as it did. -/
def movesSimpleUptoRow : OpenClaim := { program := "ytmggackacaobjaa", sum := "435b6f70b5fdb2dd84087fcbe0d62509abfe976c9da905ea14cc7fb2363eb464", func := "knotwork/knotworkkeep.MovesSimple", spec := "movesSimple", unfollowed := true, recurses := true, plainKeys := false, apart := false, narrowed := true }
def MovesSimpleUptoSaid : Prop := movesSimpleUptoRow.holds Try.pinned (OpenSpec.upto movesSimpleSpec)

/-- 'knotworklaw.WindTells', WHERE WHAT IT READS IS OF BULK AT MOST 1048576: true; the input reads as it did. -/
def windTellsUptoRow : OpenClaim := { program := "ytmggackacaobjaa", sum := "435b6f70b5fdb2dd84087fcbe0d62509abfe976c9da905ea14cc7fb2363eb464", func := "knotwork/knotworklaw.WindTells", spec := "windTells", unfollowed := true, recurses := true, plainKeys := false, apart := false, narrowed := true }
def WindTellsUptoSaid : Prop := windTellsUptoRow.holds Try.pinned (OpenSpec.upto windTellsSpec)

/-- 'knotworklaw.WindGenus', WHERE WHAT IT READS IS OF BULK AT MOST 1048576: true; the input reads as it did. -/
def windGenusUptoRow : OpenClaim := { program := "ytmggackacaobjaa", sum := "435b6f70b5fdb2dd84087fcbe0d62509abfe976c9da905ea14cc7fb2363eb464", func := "knotwork/knotworklaw.WindGenus", spec := "windGenus", unfollowed := true, recurses := true, plainKeys := false, apart := false, narrowed := true }
def WindGenusUptoSaid : Prop := windGenusUptoRow.holds Try.pinned (OpenSpec.upto windGenusSpec)

end Rows
end Go.Proofs.Ytmggackacaobjaa
