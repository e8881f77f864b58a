/-
  No cell of these rows narrows 'for every input' (looked for: loops, veiled, ifaces, maps, wideKeys, modest, calm, conditions, laid).
  DERIVED. THE GIVEN ROWS OF THIS SEAT. 16 by the template 'for every input the law returns true; each argument reads behind the call as it read before'; 0 by the template 'total and deterministic' (their statements: YtiighhmgegkemaaTotals.lean).
  GIVEN WITH THE SEED: the statements are not yours to turn. If you find one false, say at which input.
  Laid BY PROGRAM, IN A SANDBOX (cutbox-rows.mjs): the forced cells as the released guide's own fill.sh prints them over the translation 6e29d4ae4f9a0461… (all of the seat's roots in one cut). By AI agents, Wed Nov 11 2026. No macro, syntax, notation, axiom, sorry.
-/
import Derived.Test.YtiighhmgegkemaaChecked
import GoSem.Claim
import GoSem.ClaimJoined
import GoSem.ClaimMapViews
import Derived.JoinedTies
import Derived.KernelRfl
namespace Go.Proofs.Ytiighhmgegkemaa
/- THE CELL 'sum', in the pinned program and in every row, IS THE sha256 OF THE DUMP (.gsa) THAT YtiighhmgegkemaaProg.lean LOADS. Nothing in Lean hashes anything: it is a label: what it is worth is what the hold of that sum in a sandbox is worth. -/
noncomputable def Try.pinned : Pinned := { name := "ytiighhmgegkemaa", sum := "6e29d4ae4f9a04610e9c5495730b493b7cbb71b27dcca0ec0d355f3a573d5b74", checked := Try.checked }
namespace Rows
def none {H : Type} : Left H := { results := [], args := [] }

/-- 'knotworklaw.PolyTables': WHATEVER THE INPUT: true; the input reads as it did. -/
def polyTablesSpec : ChangeSpec := { name := "polyTables", fn := fun _ => fun
  | [d] => { results := [.lit (.bool true)], args := [d] }
  | _ => none }
def polyTablesRow : OpenClaim := { program := "ytiighhmgegkemaa", sum := "6e29d4ae4f9a04610e9c5495730b493b7cbb71b27dcca0ec0d355f3a573d5b74", func := "knotwork/knotworklaw.PolyTables", spec := "polyTables", unfollowed := true, recurses := true, plainKeys := false, apart := false }
def PolyTablesSaid : Prop := polyTablesRow.holds Try.pinned (OpenSpec.ofChange polyTablesSpec)

/-- ITS FALSE NEIGHBOUR: 'it returns false'. Refute it at one input. -/
def polyTablesWrong : ChangeSpec := { name := "polyTables", fn := fun _ => fun
  | [d] => { results := [.lit (.bool false)], args := [d] }
  | _ => none }
def PolyTablesWrongFalsely : Prop := polyTablesRow.holds Try.pinned (OpenSpec.ofChange polyTablesWrong)

/-- 'knotworkkeep.CodeDarts': WHATEVER THE INPUT: true; the input reads as it did. -/
def codeDartsSpec : ChangeSpec := { name := "codeDarts", fn := fun _ => fun
  | [d] => { results := [.lit (.bool true)], args := [d] }
  | _ => none }
def codeDartsRow : OpenClaim := { program := "ytiighhmgegkemaa", sum := "6e29d4ae4f9a04610e9c5495730b493b7cbb71b27dcca0ec0d355f3a573d5b74", func := "knotwork/knotworkkeep.CodeDarts", spec := "codeDarts", unfollowed := true, recurses := true, plainKeys := false, apart := false }
def CodeDartsSaid : Prop := codeDartsRow.holds Try.pinned (OpenSpec.ofChange codeDartsSpec)

/-- ITS FALSE NEIGHBOUR: 'it returns false'. Refute it at one input. -/
def codeDartsWrong : ChangeSpec := { name := "codeDarts", fn := fun _ => fun
  | [d] => { results := [.lit (.bool false)], args := [d] }
  | _ => none }
def CodeDartsWrongFalsely : Prop := codeDartsRow.holds Try.pinned (OpenSpec.ofChange codeDartsWrong)

/-- 'knotworkkeep.GaussBack': WHATEVER THE INPUT: true; the input reads as it did. -/
def gaussBackSpec : ChangeSpec := { name := "gaussBack", fn := fun _ => fun
  | [d] => { results := [.lit (.bool true)], args := [d] }
  | _ => none }
def gaussBackRow : OpenClaim := { program := "ytiighhmgegkemaa", sum := "6e29d4ae4f9a04610e9c5495730b493b7cbb71b27dcca0ec0d355f3a573d5b74", func := "knotwork/knotworkkeep.GaussBack", spec := "gaussBack", unfollowed := true, recurses := true, plainKeys := false, apart := false }
def GaussBackSaid : Prop := gaussBackRow.holds Try.pinned (OpenSpec.ofChange gaussBackSpec)

/-- ITS FALSE NEIGHBOUR: 'it returns false'. Refute it at one input. -/
def gaussBackWrong : ChangeSpec := { name := "gaussBack", fn := fun _ => fun
  | [d] => { results := [.lit (.bool false)], args := [d] }
  | _ => none }
def GaussBackWrongFalsely : Prop := gaussBackRow.holds Try.pinned (OpenSpec.ofChange gaussBackWrong)

/-- 'knotworklaw.CanonForms': WHATEVER THE INPUT: true; the input reads as it did. -/
def canonFormsSpec : ChangeSpec := { name := "canonForms", fn := fun _ => fun
  | [d1, d2] => { results := [.lit (.bool true)], args := [d1, d2] }
  | _ => none }
def canonFormsRow : OpenClaim := { program := "ytiighhmgegkemaa", sum := "6e29d4ae4f9a04610e9c5495730b493b7cbb71b27dcca0ec0d355f3a573d5b74", func := "knotwork/knotworklaw.CanonForms", spec := "canonForms", unfollowed := true, recurses := true, plainKeys := false, apart := false }
def CanonFormsSaid : Prop := canonFormsRow.holds Try.pinned (OpenSpec.ofChange canonFormsSpec)

/-- ITS FALSE NEIGHBOUR: 'it returns false'. Refute it at one input. -/
def canonFormsWrong : ChangeSpec := { name := "canonForms", fn := fun _ => fun
  | [d1, d2] => { results := [.lit (.bool false)], args := [d1, d2] }
  | _ => none }
def CanonFormsWrongFalsely : Prop := canonFormsRow.holds Try.pinned (OpenSpec.ofChange canonFormsWrong)

/-- 'knotworkkeep.CanonAny': WHATEVER THE INPUT: true; the input reads as it did. -/
def canonAnySpec : ChangeSpec := { name := "canonAny", fn := fun _ => fun
  | [d1, d2, d3] => { results := [.lit (.bool true)], args := [d1, d2, d3] }
  | _ => none }
def canonAnyRow : OpenClaim := { program := "ytiighhmgegkemaa", sum := "6e29d4ae4f9a04610e9c5495730b493b7cbb71b27dcca0ec0d355f3a573d5b74", func := "knotwork/knotworkkeep.CanonAny", spec := "canonAny", unfollowed := true, recurses := true, plainKeys := false, apart := false }
def CanonAnySaid : Prop := canonAnyRow.holds Try.pinned (OpenSpec.ofChange canonAnySpec)

/-- ITS FALSE NEIGHBOUR: 'it returns false'. Refute it at one input. -/
def canonAnyWrong : ChangeSpec := { name := "canonAny", fn := fun _ => fun
  | [d1, d2, d3] => { results := [.lit (.bool false)], args := [d1, d2, d3] }
  | _ => none }
def CanonAnyWrongFalsely : Prop := canonAnyRow.holds Try.pinned (OpenSpec.ofChange canonAnyWrong)

/-- 'knotworkkeep.CanonTwice': WHATEVER THE INPUT: true; the input reads as it did. -/
def canonTwiceSpec : ChangeSpec := { name := "canonTwice", fn := fun _ => fun
  | [d1, d2, d3, d4] => { results := [.lit (.bool true)], args := [d1, d2, d3, d4] }
  | _ => none }
def canonTwiceRow : OpenClaim := { program := "ytiighhmgegkemaa", sum := "6e29d4ae4f9a04610e9c5495730b493b7cbb71b27dcca0ec0d355f3a573d5b74", func := "knotwork/knotworkkeep.CanonTwice", spec := "canonTwice", unfollowed := true, recurses := true, plainKeys := false, apart := false }
def CanonTwiceSaid : Prop := canonTwiceRow.holds Try.pinned (OpenSpec.ofChange canonTwiceSpec)

/-- ITS FALSE NEIGHBOUR: 'it returns false'. Refute it at one input. -/
def canonTwiceWrong : ChangeSpec := { name := "canonTwice", fn := fun _ => fun
  | [d1, d2, d3, d4] => { results := [.lit (.bool false)], args := [d1, d2, d3, d4] }
  | _ => none }
def CanonTwiceWrongFalsely : Prop := canonTwiceRow.holds Try.pinned (OpenSpec.ofChange canonTwiceWrong)

/-- 'knotworklaw.MovesDo': WHATEVER THE INPUT: true; the input reads as it did. -/
def movesDoSpec : ChangeSpec := { name := "movesDo", fn := fun _ => fun
  | [d1, d2] => { results := [.lit (.bool true)], args := [d1, d2] }
  | _ => none }
def movesDoRow : OpenClaim := { program := "ytiighhmgegkemaa", sum := "6e29d4ae4f9a04610e9c5495730b493b7cbb71b27dcca0ec0d355f3a573d5b74", func := "knotwork/knotworklaw.MovesDo", spec := "movesDo", unfollowed := true, recurses := true, plainKeys := false, apart := false }
def MovesDoSaid : Prop := movesDoRow.holds Try.pinned (OpenSpec.ofChange movesDoSpec)

/-- ITS FALSE NEIGHBOUR: 'it returns false'. Refute it at one input. -/
def movesDoWrong : ChangeSpec := { name := "movesDo", fn := fun _ => fun
  | [d1, d2] => { results := [.lit (.bool false)], args := [d1, d2] }
  | _ => none }
def MovesDoWrongFalsely : Prop := movesDoRow.holds Try.pinned (OpenSpec.ofChange movesDoWrong)

/-- 'knotworklaw.MovesRows': WHATEVER THE INPUT: true; the input reads as it did. -/
def movesRowsSpec : ChangeSpec := { name := "movesRows", fn := fun _ => fun
  | [d1, d2] => { results := [.lit (.bool true)], args := [d1, d2] }
  | _ => none }
def movesRowsRow : OpenClaim := { program := "ytiighhmgegkemaa", sum := "6e29d4ae4f9a04610e9c5495730b493b7cbb71b27dcca0ec0d355f3a573d5b74", func := "knotwork/knotworklaw.MovesRows", spec := "movesRows", unfollowed := true, recurses := true, plainKeys := false, apart := false }
def MovesRowsSaid : Prop := movesRowsRow.holds Try.pinned (OpenSpec.ofChange movesRowsSpec)

/-- ITS FALSE NEIGHBOUR: 'it returns false'. Refute it at one input. -/
def movesRowsWrong : ChangeSpec := { name := "movesRows", fn := fun _ => fun
  | [d1, d2] => { results := [.lit (.bool false)], args := [d1, d2] }
  | _ => none }
def MovesRowsWrongFalsely : Prop := movesRowsRow.holds Try.pinned (OpenSpec.ofChange movesRowsWrong)

/-- 'knotworklaw.MovesTake': WHATEVER THE INPUT: true; the input reads as it did. -/
def movesTakeSpec : ChangeSpec := { name := "movesTake", fn := fun _ => fun
  | [d] => { results := [.lit (.bool true)], args := [d] }
  | _ => none }
def movesTakeRow : OpenClaim := { program := "ytiighhmgegkemaa", sum := "6e29d4ae4f9a04610e9c5495730b493b7cbb71b27dcca0ec0d355f3a573d5b74", func := "knotwork/knotworklaw.MovesTake", spec := "movesTake", unfollowed := true, recurses := true, plainKeys := false, apart := false }
def MovesTakeSaid : Prop := movesTakeRow.holds Try.pinned (OpenSpec.ofChange movesTakeSpec)

/-- ITS FALSE NEIGHBOUR: 'it returns false'. Refute it at one input. -/
def movesTakeWrong : ChangeSpec := { name := "movesTake", fn := fun _ => fun
  | [d] => { results := [.lit (.bool false)], args := [d] }
  | _ => none }
def MovesTakeWrongFalsely : Prop := movesTakeRow.holds Try.pinned (OpenSpec.ofChange movesTakeWrong)

/-- 'knotworkkeep.MovesBack': WHATEVER THE INPUT: true; the input reads as it did. -/
def movesBackSpec : ChangeSpec := { name := "movesBack", fn := fun _ => fun
  | [d1, d2] => { results := [.lit (.bool true)], args := [d1, d2] }
  | _ => none }
def movesBackRow : OpenClaim := { program := "ytiighhmgegkemaa", sum := "6e29d4ae4f9a04610e9c5495730b493b7cbb71b27dcca0ec0d355f3a573d5b74", func := "knotwork/knotworkkeep.MovesBack", spec := "movesBack", unfollowed := true, recurses := true, plainKeys := false, apart := false }
def MovesBackSaid : Prop := movesBackRow.holds Try.pinned (OpenSpec.ofChange movesBackSpec)

/-- ITS FALSE NEIGHBOUR: 'it returns false'. Refute it at one input. -/
def movesBackWrong : ChangeSpec := { name := "movesBack", fn := fun _ => fun
  | [d1, d2] => { results := [.lit (.bool false)], args := [d1, d2] }
  | _ => none }
def MovesBackWrongFalsely : Prop := movesBackRow.holds Try.pinned (OpenSpec.ofChange movesBackWrong)

/-- 'knotworkkeep.MovesSimple': WHATEVER THE INPUT: true; the input reads as it did. -/
def movesSimpleSpec : ChangeSpec := { name := "movesSimple", fn := fun _ => fun
  | [d] => { results := [.lit (.bool true)], args := [d] }
  | _ => none }
def movesSimpleRow : OpenClaim := { program := "ytiighhmgegkemaa", sum := "6e29d4ae4f9a04610e9c5495730b493b7cbb71b27dcca0ec0d355f3a573d5b74", func := "knotwork/knotworkkeep.MovesSimple", spec := "movesSimple", unfollowed := true, recurses := true, plainKeys := false, apart := false }
def MovesSimpleSaid : Prop := movesSimpleRow.holds Try.pinned (OpenSpec.ofChange movesSimpleSpec)

/-- ITS FALSE NEIGHBOUR: 'it returns false'. Refute it at one input. -/
def movesSimpleWrong : ChangeSpec := { name := "movesSimple", fn := fun _ => fun
  | [d] => { results := [.lit (.bool false)], args := [d] }
  | _ => none }
def MovesSimpleWrongFalsely : Prop := movesSimpleRow.holds Try.pinned (OpenSpec.ofChange movesSimpleWrong)

/-- 'knotworklaw.WindGenus': WHATEVER THE INPUT: true; the input reads as it did. -/
def windGenusSpec : ChangeSpec := { name := "windGenus", fn := fun _ => fun
  | [d] => { results := [.lit (.bool true)], args := [d] }
  | _ => none }
def windGenusRow : OpenClaim := { program := "ytiighhmgegkemaa", sum := "6e29d4ae4f9a04610e9c5495730b493b7cbb71b27dcca0ec0d355f3a573d5b74", func := "knotwork/knotworklaw.WindGenus", spec := "windGenus", unfollowed := true, recurses := true, plainKeys := false, apart := false }
def WindGenusSaid : Prop := windGenusRow.holds Try.pinned (OpenSpec.ofChange windGenusSpec)

/-- ITS FALSE NEIGHBOUR: 'it returns false'. Refute it at one input. -/
def windGenusWrong : ChangeSpec := { name := "windGenus", fn := fun _ => fun
  | [d] => { results := [.lit (.bool false)], args := [d] }
  | _ => none }
def WindGenusWrongFalsely : Prop := windGenusRow.holds Try.pinned (OpenSpec.ofChange windGenusWrong)

/-- 'knotworklaw.AlexTables': WHATEVER THE INPUT: true; the input reads as it did. -/
def alexTablesSpec : ChangeSpec := { name := "alexTables", fn := fun _ => fun
  | [d] => { results := [.lit (.bool true)], args := [d] }
  | _ => none }
def alexTablesRow : OpenClaim := { program := "ytiighhmgegkemaa", sum := "6e29d4ae4f9a04610e9c5495730b493b7cbb71b27dcca0ec0d355f3a573d5b74", func := "knotwork/knotworklaw.AlexTables", spec := "alexTables", unfollowed := true, recurses := true, plainKeys := false, apart := false }
def AlexTablesSaid : Prop := alexTablesRow.holds Try.pinned (OpenSpec.ofChange alexTablesSpec)

/-- ITS FALSE NEIGHBOUR: 'it returns false'. Refute it at one input. -/
def alexTablesWrong : ChangeSpec := { name := "alexTables", fn := fun _ => fun
  | [d] => { results := [.lit (.bool false)], args := [d] }
  | _ => none }
def AlexTablesWrongFalsely : Prop := alexTablesRow.holds Try.pinned (OpenSpec.ofChange alexTablesWrong)

/-- 'knotworklaw.AlexTells': WHATEVER THE INPUT: true; the input reads as it did. -/
def alexTellsSpec : ChangeSpec := { name := "alexTells", fn := fun _ => fun
  | [d] => { results := [.lit (.bool true)], args := [d] }
  | _ => none }
def alexTellsRow : OpenClaim := { program := "ytiighhmgegkemaa", sum := "6e29d4ae4f9a04610e9c5495730b493b7cbb71b27dcca0ec0d355f3a573d5b74", func := "knotwork/knotworklaw.AlexTells", spec := "alexTells", unfollowed := true, recurses := true, plainKeys := false, apart := false }
def AlexTellsSaid : Prop := alexTellsRow.holds Try.pinned (OpenSpec.ofChange alexTellsSpec)

/-- ITS FALSE NEIGHBOUR: 'it returns false'. Refute it at one input. -/
def alexTellsWrong : ChangeSpec := { name := "alexTells", fn := fun _ => fun
  | [d] => { results := [.lit (.bool false)], args := [d] }
  | _ => none }
def AlexTellsWrongFalsely : Prop := alexTellsRow.holds Try.pinned (OpenSpec.ofChange alexTellsWrong)

/-- 'knotworklaw.SignShades': WHATEVER THE INPUT: true; the input reads as it did. -/
def signShadesSpec : ChangeSpec := { name := "signShades", fn := fun _ => fun
  | [d1, d2] => { results := [.lit (.bool true)], args := [d1, d2] }
  | _ => none }
def signShadesRow : OpenClaim := { program := "ytiighhmgegkemaa", sum := "6e29d4ae4f9a04610e9c5495730b493b7cbb71b27dcca0ec0d355f3a573d5b74", func := "knotwork/knotworklaw.SignShades", spec := "signShades", unfollowed := true, recurses := true, plainKeys := false, apart := false }
def SignShadesSaid : Prop := signShadesRow.holds Try.pinned (OpenSpec.ofChange signShadesSpec)

/-- ITS FALSE NEIGHBOUR: 'it returns false'. Refute it at one input. -/
def signShadesWrong : ChangeSpec := { name := "signShades", fn := fun _ => fun
  | [d1, d2] => { results := [.lit (.bool false)], args := [d1, d2] }
  | _ => none }
def SignShadesWrongFalsely : Prop := signShadesRow.holds Try.pinned (OpenSpec.ofChange signShadesWrong)

/-- 'knotworklaw.SignTells': WHATEVER THE INPUT: true; the input reads as it did. -/
def signTellsSpec : ChangeSpec := { name := "signTells", fn := fun _ => fun
  | [d] => { results := [.lit (.bool true)], args := [d] }
  | _ => none }
def signTellsRow : OpenClaim := { program := "ytiighhmgegkemaa", sum := "6e29d4ae4f9a04610e9c5495730b493b7cbb71b27dcca0ec0d355f3a573d5b74", func := "knotwork/knotworklaw.SignTells", spec := "signTells", unfollowed := true, recurses := true, plainKeys := false, apart := false }
def SignTellsSaid : Prop := signTellsRow.holds Try.pinned (OpenSpec.ofChange signTellsSpec)

/-- ITS FALSE NEIGHBOUR: 'it returns false'. Refute it at one input. -/
def signTellsWrong : ChangeSpec := { name := "signTells", fn := fun _ => fun
  | [d] => { results := [.lit (.bool false)], args := [d] }
  | _ => none }
def SignTellsWrongFalsely : Prop := signTellsRow.holds Try.pinned (OpenSpec.ofChange signTellsWrong)

/- THE SECOND FORM. 'bulk': how many values and letters a reading holds, each counted each time it is reached (what is shared counts as often as it is met; a slice's spare places count too). A statement '..UptoSaid' is the law's where the arguments, and the package variables that the reading takes, are together of bulk at most 1048576: NARROWER than '..Said'. Prove '..Said' where nothing that the law and all that it calls make is longer than what came in: it says more and counts as full. Else prove '..UptoSaid'. A law counts once. -/
mutual
def uptoBulk {H : Type} : DataW H → Nat
  | .lit (.string bytes) => bytes.length + 1
  | .lit _ => 1
  | .nil => 1
  | .ptr d => uptoBulk d + 1
  | .slice elems spare => uptoBulkAll elems + uptoBulkAll spare + 1
  | .agg parts => uptoBulkAll parts + 1
  | .iface _ d => uptoBulk d + 1
  | .map entries => uptoBulkEntries entries + 1
  | .held _ => 1
def uptoBulkAll {H : Type} : List (DataW H) → Nat
  | [] => 0
  | d :: r => uptoBulk d + uptoBulkAll r
def uptoBulkEntries {H : Type} : List (Lit × DataW H) → Nat
  | [] => 0
  | x :: r => uptoBulkEntry x + uptoBulkEntries r
def uptoBulkEntry {H : Type} : Lit × DataW H → Nat
  | (.string bytes, d) => bytes.length + uptoBulk d + 1
  | (_, d) => uptoBulk d + 1
 end
def uptoSmall : (H : Type) → List (DataW H) → Bool := fun _ ds => decide (uptoBulkAll ds ≤ 1048576)
def OpenSpec.upto (s : _root_.Go.ChangeSpec) : _root_.Go.OpenSpec := { _root_.Go.OpenSpec.ofChange s with cond := some uptoSmall }

/-- 'knotworklaw.PolyTables', WHERE WHAT IT READS IS OF BULK AT MOST 1048576: true; the input reads as it did. -/
def polyTablesUptoRow : OpenClaim := { program := "ytiighhmgegkemaa", sum := "6e29d4ae4f9a04610e9c5495730b493b7cbb71b27dcca0ec0d355f3a573d5b74", func := "knotwork/knotworklaw.PolyTables", spec := "polyTables", unfollowed := true, recurses := true, plainKeys := false, apart := false, narrowed := true }
def PolyTablesUptoSaid : Prop := polyTablesUptoRow.holds Try.pinned (OpenSpec.upto polyTablesSpec)

/-- 'knotworkkeep.CodeDarts', WHERE WHAT IT READS IS OF BULK AT MOST 1048576: true; the input reads as it did. -/
def codeDartsUptoRow : OpenClaim := { program := "ytiighhmgegkemaa", sum := "6e29d4ae4f9a04610e9c5495730b493b7cbb71b27dcca0ec0d355f3a573d5b74", func := "knotwork/knotworkkeep.CodeDarts", spec := "codeDarts", unfollowed := true, recurses := true, plainKeys := false, apart := false, narrowed := true }
def CodeDartsUptoSaid : Prop := codeDartsUptoRow.holds Try.pinned (OpenSpec.upto codeDartsSpec)

/-- 'knotworkkeep.GaussBack', WHERE WHAT IT READS IS OF BULK AT MOST 1048576: true; the input reads as it did. -/
def gaussBackUptoRow : OpenClaim := { program := "ytiighhmgegkemaa", sum := "6e29d4ae4f9a04610e9c5495730b493b7cbb71b27dcca0ec0d355f3a573d5b74", func := "knotwork/knotworkkeep.GaussBack", spec := "gaussBack", unfollowed := true, recurses := true, plainKeys := false, apart := false, narrowed := true }
def GaussBackUptoSaid : Prop := gaussBackUptoRow.holds Try.pinned (OpenSpec.upto gaussBackSpec)

/-- 'knotworklaw.CanonForms', WHERE WHAT IT READS IS OF BULK AT MOST 1048576: true; the input reads as it did. -/
def canonFormsUptoRow : OpenClaim := { program := "ytiighhmgegkemaa", sum := "6e29d4ae4f9a04610e9c5495730b493b7cbb71b27dcca0ec0d355f3a573d5b74", func := "knotwork/knotworklaw.CanonForms", spec := "canonForms", unfollowed := true, recurses := true, plainKeys := false, apart := false, narrowed := true }
def CanonFormsUptoSaid : Prop := canonFormsUptoRow.holds Try.pinned (OpenSpec.upto canonFormsSpec)

/-- 'knotworkkeep.CanonAny', WHERE WHAT IT READS IS OF BULK AT MOST 1048576: true; the input reads as it did. -/
def canonAnyUptoRow : OpenClaim := { program := "ytiighhmgegkemaa", sum := "6e29d4ae4f9a04610e9c5495730b493b7cbb71b27dcca0ec0d355f3a573d5b74", func := "knotwork/knotworkkeep.CanonAny", spec := "canonAny", unfollowed := true, recurses := true, plainKeys := false, apart := false, narrowed := true }
def CanonAnyUptoSaid : Prop := canonAnyUptoRow.holds Try.pinned (OpenSpec.upto canonAnySpec)

/-- 'knotworkkeep.CanonTwice', WHERE WHAT IT READS IS OF BULK AT MOST 1048576: true; the input reads as it did. -/
def canonTwiceUptoRow : OpenClaim := { program := "ytiighhmgegkemaa", sum := "6e29d4ae4f9a04610e9c5495730b493b7cbb71b27dcca0ec0d355f3a573d5b74", func := "knotwork/knotworkkeep.CanonTwice", spec := "canonTwice", unfollowed := true, recurses := true, plainKeys := false, apart := false, narrowed := true }
def CanonTwiceUptoSaid : Prop := canonTwiceUptoRow.holds Try.pinned (OpenSpec.upto canonTwiceSpec)

/-- 'knotworklaw.MovesDo', WHERE WHAT IT READS IS OF BULK AT MOST 1048576: true; the input reads as it did. -/
def movesDoUptoRow : OpenClaim := { program := "ytiighhmgegkemaa", sum := "6e29d4ae4f9a04610e9c5495730b493b7cbb71b27dcca0ec0d355f3a573d5b74", func := "knotwork/knotworklaw.MovesDo", spec := "movesDo", unfollowed := true, recurses := true, plainKeys := false, apart := false, narrowed := true }
def MovesDoUptoSaid : Prop := movesDoUptoRow.holds Try.pinned (OpenSpec.upto movesDoSpec)

/-- 'knotworklaw.MovesRows', WHERE WHAT IT READS IS OF BULK AT MOST 1048576: true; the input reads as it did. -/
def movesRowsUptoRow : OpenClaim := { program := "ytiighhmgegkemaa", sum := "6e29d4ae4f9a04610e9c5495730b493b7cbb71b27dcca0ec0d355f3a573d5b74", func := "knotwork/knotworklaw.MovesRows", spec := "movesRows", unfollowed := true, recurses := true, plainKeys := false, apart := false, narrowed := true }
def MovesRowsUptoSaid : Prop := movesRowsUptoRow.holds Try.pinned (OpenSpec.upto movesRowsSpec)

/-- 'knotworklaw.MovesTake', WHERE WHAT IT READS IS OF BULK AT MOST 1048576: true; the input reads as it did. -/
def movesTakeUptoRow : OpenClaim := { program := "ytiighhmgegkemaa", sum := "6e29d4ae4f9a04610e9c5495730b493b7cbb71b27dcca0ec0d355f3a573d5b74", func := "knotwork/knotworklaw.MovesTake", spec := "movesTake", unfollowed := true, recurses := true, plainKeys := false, apart := false, narrowed := true }
def MovesTakeUptoSaid : Prop := movesTakeUptoRow.holds Try.pinned (OpenSpec.upto movesTakeSpec)

/-- 'knotworkkeep.MovesBack', WHERE WHAT IT READS IS OF BULK AT MOST 1048576: true; the input reads as it did. -/
def movesBackUptoRow : OpenClaim := { program := "ytiighhmgegkemaa", sum := "6e29d4ae4f9a04610e9c5495730b493b7cbb71b27dcca0ec0d355f3a573d5b74", func := "knotwork/knotworkkeep.MovesBack", spec := "movesBack", unfollowed := true, recurses := true, plainKeys := false, apart := false, narrowed := true }
def MovesBackUptoSaid : Prop := movesBackUptoRow.holds Try.pinned (OpenSpec.upto movesBackSpec)

/-- 'knotworkkeep.MovesSimple', WHERE WHAT IT READS IS OF BULK AT MOST 1048576: true; the input reads as it did. -/
def movesSimpleUptoRow : OpenClaim := { program := "ytiighhmgegkemaa", sum := "6e29d4ae4f9a04610e9c5495730b493b7cbb71b27dcca0ec0d355f3a573d5b74", func := "knotwork/knotworkkeep.MovesSimple", spec := "movesSimple", unfollowed := true, recurses := true, plainKeys := false, apart := false, narrowed := true }
def MovesSimpleUptoSaid : Prop := movesSimpleUptoRow.holds Try.pinned (OpenSpec.upto movesSimpleSpec)

/-- 'knotworklaw.WindGenus', WHERE WHAT IT READS IS OF BULK AT MOST 1048576: true; the input reads as it did. -/
def windGenusUptoRow : OpenClaim := { program := "ytiighhmgegkemaa", sum := "6e29d4ae4f9a04610e9c5495730b493b7cbb71b27dcca0ec0d355f3a573d5b74", func := "knotwork/knotworklaw.WindGenus", spec := "windGenus", unfollowed := true, recurses := true, plainKeys := false, apart := false, narrowed := true }
def WindGenusUptoSaid : Prop := windGenusUptoRow.holds Try.pinned (OpenSpec.upto windGenusSpec)

/-- 'knotworklaw.AlexTables', WHERE WHAT IT READS IS OF BULK AT MOST 1048576: true; the input reads as it did. -/
def alexTablesUptoRow : OpenClaim := { program := "ytiighhmgegkemaa", sum := "6e29d4ae4f9a04610e9c5495730b493b7cbb71b27dcca0ec0d355f3a573d5b74", func := "knotwork/knotworklaw.AlexTables", spec := "alexTables", unfollowed := true, recurses := true, plainKeys := false, apart := false, narrowed := true }
def AlexTablesUptoSaid : Prop := alexTablesUptoRow.holds Try.pinned (OpenSpec.upto alexTablesSpec)

/-- 'knotworklaw.AlexTells', WHERE WHAT IT READS IS OF BULK AT MOST 1048576: true; the input reads as it did. -/
def alexTellsUptoRow : OpenClaim := { program := "ytiighhmgegkemaa", sum := "6e29d4ae4f9a04610e9c5495730b493b7cbb71b27dcca0ec0d355f3a573d5b74", func := "knotwork/knotworklaw.AlexTells", spec := "alexTells", unfollowed := true, recurses := true, plainKeys := false, apart := false, narrowed := true }
def AlexTellsUptoSaid : Prop := alexTellsUptoRow.holds Try.pinned (OpenSpec.upto alexTellsSpec)

/-- 'knotworklaw.SignShades', WHERE WHAT IT READS IS OF BULK AT MOST 1048576: true; the input reads as it did. -/
def signShadesUptoRow : OpenClaim := { program := "ytiighhmgegkemaa", sum := "6e29d4ae4f9a04610e9c5495730b493b7cbb71b27dcca0ec0d355f3a573d5b74", func := "knotwork/knotworklaw.SignShades", spec := "signShades", unfollowed := true, recurses := true, plainKeys := false, apart := false, narrowed := true }
def SignShadesUptoSaid : Prop := signShadesUptoRow.holds Try.pinned (OpenSpec.upto signShadesSpec)

/-- 'knotworklaw.SignTells', WHERE WHAT IT READS IS OF BULK AT MOST 1048576: true; the input reads as it did. -/
def signTellsUptoRow : OpenClaim := { program := "ytiighhmgegkemaa", sum := "6e29d4ae4f9a04610e9c5495730b493b7cbb71b27dcca0ec0d355f3a573d5b74", func := "knotwork/knotworklaw.SignTells", spec := "signTells", unfollowed := true, recurses := true, plainKeys := false, apart := false, narrowed := true }
def SignTellsUptoSaid : Prop := signTellsUptoRow.holds Try.pinned (OpenSpec.upto signTellsSpec)

end Rows
end Go.Proofs.Ytiighhmgegkemaa
