/-
  No cell of these rows narrows 'for every input' (looked for: loops, veiled, ifaces, maps, wideKeys, modest, calm, conditions, laid).
  DERIVED. THE GIVEN ROWS OF THIS SEAT. 11 by the template 'for every input the law returns true; each argument reads behind the call as it read before'; 0 by the template 'total and deterministic' (their statements: YtnmgeegmiijflaaTotals.lean).
  GIVEN WITH THE SEED: the statements are not yours to turn. If you find one false, say at which input.
  Laid BY PROGRAM, IN A SANDBOX (cutbox-rows.mjs): the forced cells as the released guide's own fill.sh prints them over the translation 1d1e18bd6c1fa74f… (all of the seat's roots in one cut). By AI agents, Wed Nov 11 2026. No macro, syntax, notation, axiom, sorry.
-/
import Derived.Test.YtnmgeegmiijflaaChecked
import GoSem.Claim
import GoSem.ClaimJoined
import GoSem.ClaimMapViews
import Derived.JoinedTies
import Derived.KernelRfl
namespace Go.Proofs.Ytnmgeegmiijflaa
/- THE CELL 'sum', in the pinned program and in every row, IS THE sha256 OF THE DUMP (.gsa) THAT YtnmgeegmiijflaaProg.lean LOADS. Nothing in Lean hashes anything: it is a label: what it is worth is what the hold of that sum in a sandbox is worth. -/
noncomputable def Try.pinned : Pinned := { name := "ytnmgeegmiijflaa", sum := "1d1e18bd6c1fa74f626002b5e3173f2db0f51529b2ba11da165b595dfa565090", checked := Try.checked }
namespace Rows
def none {H : Type} : Left H := { results := [], args := [] }

/-- 'knotworklaw.CodeFaces': WHATEVER THE INPUT: true; the input reads as it did. -/
def codeFacesSpec : ChangeSpec := { name := "codeFaces", fn := fun _ => fun
  | [d] => { results := [.lit (.bool true)], args := [d] }
  | _ => none }
def codeFacesRow : OpenClaim := { program := "ytnmgeegmiijflaa", sum := "1d1e18bd6c1fa74f626002b5e3173f2db0f51529b2ba11da165b595dfa565090", func := "knotwork/knotworklaw.CodeFaces", spec := "codeFaces", unfollowed := true, recurses := true, apart := false }
def CodeFacesSaid : Prop := codeFacesRow.holds Try.pinned (OpenSpec.ofChange codeFacesSpec)

/-- ITS FALSE NEIGHBOUR: 'it returns false'. Refute it at one input. -/
def codeFacesWrong : ChangeSpec := { name := "codeFaces", fn := fun _ => fun
  | [d] => { results := [.lit (.bool false)], args := [d] }
  | _ => none }
def CodeFacesWrongFalsely : Prop := codeFacesRow.holds Try.pinned (OpenSpec.ofChange codeFacesWrong)

/-- 'knotworklaw.GaussTells': WHATEVER THE INPUT: true; the input reads as it did. -/
def gaussTellsSpec : ChangeSpec := { name := "gaussTells", fn := fun _ => fun
  | [d] => { results := [.lit (.bool true)], args := [d] }
  | _ => none }
def gaussTellsRow : OpenClaim := { program := "ytnmgeegmiijflaa", sum := "1d1e18bd6c1fa74f626002b5e3173f2db0f51529b2ba11da165b595dfa565090", func := "knotwork/knotworklaw.GaussTells", spec := "gaussTells", apart := false }
def GaussTellsSaid : Prop := gaussTellsRow.holds Try.pinned (OpenSpec.ofChange gaussTellsSpec)

/-- ITS FALSE NEIGHBOUR: 'it returns false'. Refute it at one input. -/
def gaussTellsWrong : ChangeSpec := { name := "gaussTells", fn := fun _ => fun
  | [d] => { results := [.lit (.bool false)], args := [d] }
  | _ => none }
def GaussTellsWrongFalsely : Prop := gaussTellsRow.holds Try.pinned (OpenSpec.ofChange gaussTellsWrong)

/-- 'knotworklaw.GaussBuilds': WHATEVER THE INPUT: true; the input reads as it did. -/
def gaussBuildsSpec : ChangeSpec := { name := "gaussBuilds", fn := fun _ => fun
  | [d1, d2, d3] => { results := [.lit (.bool true)], args := [d1, d2, d3] }
  | _ => none }
def gaussBuildsRow : OpenClaim := { program := "ytnmgeegmiijflaa", sum := "1d1e18bd6c1fa74f626002b5e3173f2db0f51529b2ba11da165b595dfa565090", func := "knotwork/knotworklaw.GaussBuilds", spec := "gaussBuilds", apart := false }
def GaussBuildsSaid : Prop := gaussBuildsRow.holds Try.pinned (OpenSpec.ofChange gaussBuildsSpec)

/-- ITS FALSE NEIGHBOUR: 'it returns false'. Refute it at one input. -/
def gaussBuildsWrong : ChangeSpec := { name := "gaussBuilds", fn := fun _ => fun
  | [d1, d2, d3] => { results := [.lit (.bool false)], args := [d1, d2, d3] }
  | _ => none }
def GaussBuildsWrongFalsely : Prop := gaussBuildsRow.holds Try.pinned (OpenSpec.ofChange gaussBuildsWrong)

/-- 'knotworklaw.GaussDowker': WHATEVER THE INPUT: true; the input reads as it did. -/
def gaussDowkerSpec : ChangeSpec := { name := "gaussDowker", fn := fun _ => fun
  | [d] => { results := [.lit (.bool true)], args := [d] }
  | _ => none }
def gaussDowkerRow : OpenClaim := { program := "ytnmgeegmiijflaa", sum := "1d1e18bd6c1fa74f626002b5e3173f2db0f51529b2ba11da165b595dfa565090", func := "knotwork/knotworklaw.GaussDowker", spec := "gaussDowker", apart := false }
def GaussDowkerSaid : Prop := gaussDowkerRow.holds Try.pinned (OpenSpec.ofChange gaussDowkerSpec)

/-- ITS FALSE NEIGHBOUR: 'it returns false'. Refute it at one input. -/
def gaussDowkerWrong : ChangeSpec := { name := "gaussDowker", fn := fun _ => fun
  | [d] => { results := [.lit (.bool false)], args := [d] }
  | _ => none }
def GaussDowkerWrongFalsely : Prop := gaussDowkerRow.holds Try.pinned (OpenSpec.ofChange gaussDowkerWrong)

/-- 'knotworkkeep.CodeDarts': WHATEVER THE INPUT: true; the input reads as it did. -/
def codeDartsSpec : ChangeSpec := { name := "codeDarts", fn := fun _ => fun
  | [d] => { results := [.lit (.bool true)], args := [d] }
  | _ => none }
def codeDartsRow : OpenClaim := { program := "ytnmgeegmiijflaa", sum := "1d1e18bd6c1fa74f626002b5e3173f2db0f51529b2ba11da165b595dfa565090", func := "knotwork/knotworkkeep.CodeDarts", spec := "codeDarts", unfollowed := true, recurses := true, apart := false }
def CodeDartsSaid : Prop := codeDartsRow.holds Try.pinned (OpenSpec.ofChange codeDartsSpec)

/-- ITS FALSE NEIGHBOUR: 'it returns false'. Refute it at one input. -/
def codeDartsWrong : ChangeSpec := { name := "codeDarts", fn := fun _ => fun
  | [d] => { results := [.lit (.bool false)], args := [d] }
  | _ => none }
def CodeDartsWrongFalsely : Prop := codeDartsRow.holds Try.pinned (OpenSpec.ofChange codeDartsWrong)

/-- 'knotworkkeep.GaussBack': WHATEVER THE INPUT: true; the input reads as it did. -/
def gaussBackSpec : ChangeSpec := { name := "gaussBack", fn := fun _ => fun
  | [d] => { results := [.lit (.bool true)], args := [d] }
  | _ => none }
def gaussBackRow : OpenClaim := { program := "ytnmgeegmiijflaa", sum := "1d1e18bd6c1fa74f626002b5e3173f2db0f51529b2ba11da165b595dfa565090", func := "knotwork/knotworkkeep.GaussBack", spec := "gaussBack", unfollowed := true, recurses := true, apart := false }
def GaussBackSaid : Prop := gaussBackRow.holds Try.pinned (OpenSpec.ofChange gaussBackSpec)

/-- ITS FALSE NEIGHBOUR: 'it returns false'. Refute it at one input. -/
def gaussBackWrong : ChangeSpec := { name := "gaussBack", fn := fun _ => fun
  | [d] => { results := [.lit (.bool false)], args := [d] }
  | _ => none }
def GaussBackWrongFalsely : Prop := gaussBackRow.holds Try.pinned (OpenSpec.ofChange gaussBackWrong)

/-- 'knotworklaw.CanonForms': WHATEVER THE INPUT: true; the input reads as it did. -/
def canonFormsSpec : ChangeSpec := { name := "canonForms", fn := fun _ => fun
  | [d1, d2] => { results := [.lit (.bool true)], args := [d1, d2] }
  | _ => none }
def canonFormsRow : OpenClaim := { program := "ytnmgeegmiijflaa", sum := "1d1e18bd6c1fa74f626002b5e3173f2db0f51529b2ba11da165b595dfa565090", func := "knotwork/knotworklaw.CanonForms", spec := "canonForms", unfollowed := true, recurses := true, apart := false }
def CanonFormsSaid : Prop := canonFormsRow.holds Try.pinned (OpenSpec.ofChange canonFormsSpec)

/-- ITS FALSE NEIGHBOUR: 'it returns false'. Refute it at one input. -/
def canonFormsWrong : ChangeSpec := { name := "canonForms", fn := fun _ => fun
  | [d1, d2] => { results := [.lit (.bool false)], args := [d1, d2] }
  | _ => none }
def CanonFormsWrongFalsely : Prop := canonFormsRow.holds Try.pinned (OpenSpec.ofChange canonFormsWrong)

/-- 'knotworklaw.CanonTurns': WHATEVER THE INPUT: true; the input reads as it did. -/
def canonTurnsSpec : ChangeSpec := { name := "canonTurns", fn := fun _ => fun
  | [d1, d2] => { results := [.lit (.bool true)], args := [d1, d2] }
  | _ => none }
def canonTurnsRow : OpenClaim := { program := "ytnmgeegmiijflaa", sum := "1d1e18bd6c1fa74f626002b5e3173f2db0f51529b2ba11da165b595dfa565090", func := "knotwork/knotworklaw.CanonTurns", spec := "canonTurns", apart := false }
def CanonTurnsSaid : Prop := canonTurnsRow.holds Try.pinned (OpenSpec.ofChange canonTurnsSpec)

/-- ITS FALSE NEIGHBOUR: 'it returns false'. Refute it at one input. -/
def canonTurnsWrong : ChangeSpec := { name := "canonTurns", fn := fun _ => fun
  | [d1, d2] => { results := [.lit (.bool false)], args := [d1, d2] }
  | _ => none }
def CanonTurnsWrongFalsely : Prop := canonTurnsRow.holds Try.pinned (OpenSpec.ofChange canonTurnsWrong)

/-- 'knotworklaw.CanonSums': WHATEVER THE INPUT: true; the input reads as it did. -/
def canonSumsSpec : ChangeSpec := { name := "canonSums", fn := fun _ => fun
  | [d1, d2, d3, d4] => { results := [.lit (.bool true)], args := [d1, d2, d3, d4] }
  | _ => none }
def canonSumsRow : OpenClaim := { program := "ytnmgeegmiijflaa", sum := "1d1e18bd6c1fa74f626002b5e3173f2db0f51529b2ba11da165b595dfa565090", func := "knotwork/knotworklaw.CanonSums", spec := "canonSums", unfollowed := true, recurses := true, apart := false }
def CanonSumsSaid : Prop := canonSumsRow.holds Try.pinned (OpenSpec.ofChange canonSumsSpec)

/-- ITS FALSE NEIGHBOUR: 'it returns false'. Refute it at one input. -/
def canonSumsWrong : ChangeSpec := { name := "canonSums", fn := fun _ => fun
  | [d1, d2, d3, d4] => { results := [.lit (.bool false)], args := [d1, d2, d3, d4] }
  | _ => none }
def CanonSumsWrongFalsely : Prop := canonSumsRow.holds Try.pinned (OpenSpec.ofChange canonSumsWrong)

/-- 'knotworkkeep.CanonAny': WHATEVER THE INPUT: true; the input reads as it did. -/
def canonAnySpec : ChangeSpec := { name := "canonAny", fn := fun _ => fun
  | [d1, d2, d3] => { results := [.lit (.bool true)], args := [d1, d2, d3] }
  | _ => none }
def canonAnyRow : OpenClaim := { program := "ytnmgeegmiijflaa", sum := "1d1e18bd6c1fa74f626002b5e3173f2db0f51529b2ba11da165b595dfa565090", func := "knotwork/knotworkkeep.CanonAny", spec := "canonAny", unfollowed := true, recurses := true, apart := false }
def CanonAnySaid : Prop := canonAnyRow.holds Try.pinned (OpenSpec.ofChange canonAnySpec)

/-- ITS FALSE NEIGHBOUR: 'it returns false'. Refute it at one input. -/
def canonAnyWrong : ChangeSpec := { name := "canonAny", fn := fun _ => fun
  | [d1, d2, d3] => { results := [.lit (.bool false)], args := [d1, d2, d3] }
  | _ => none }
def CanonAnyWrongFalsely : Prop := canonAnyRow.holds Try.pinned (OpenSpec.ofChange canonAnyWrong)

/-- 'knotworkkeep.CanonTwice': WHATEVER THE INPUT: true; the input reads as it did. -/
def canonTwiceSpec : ChangeSpec := { name := "canonTwice", fn := fun _ => fun
  | [d1, d2, d3, d4] => { results := [.lit (.bool true)], args := [d1, d2, d3, d4] }
  | _ => none }
def canonTwiceRow : OpenClaim := { program := "ytnmgeegmiijflaa", sum := "1d1e18bd6c1fa74f626002b5e3173f2db0f51529b2ba11da165b595dfa565090", func := "knotwork/knotworkkeep.CanonTwice", spec := "canonTwice", unfollowed := true, recurses := true, apart := false }
def CanonTwiceSaid : Prop := canonTwiceRow.holds Try.pinned (OpenSpec.ofChange canonTwiceSpec)

/-- ITS FALSE NEIGHBOUR: 'it returns false'. Refute it at one input. -/
def canonTwiceWrong : ChangeSpec := { name := "canonTwice", fn := fun _ => fun
  | [d1, d2, d3, d4] => { results := [.lit (.bool false)], args := [d1, d2, d3, d4] }
  | _ => none }
def CanonTwiceWrongFalsely : Prop := canonTwiceRow.holds Try.pinned (OpenSpec.ofChange canonTwiceWrong)

/- THE SECOND FORM. 'bulk': how many values and letters a reading holds, each counted each time it is reached (what is shared counts as often as it is met; a slice's spare places count too). A statement '..UptoSaid' is the law's where the arguments, and the package variables that the reading takes, are together of bulk at most 1048576: NARROWER than '..Said'. Prove '..Said' where nothing that the law and all that it calls make is longer than what came in: it says more and counts as full. Else prove '..UptoSaid'. A law counts once. -/
mutual
def uptoBulk {H : Type} : DataW H → Nat
  | .lit (.string bytes) => bytes.length + 1
  | .lit _ => 1
  | .nil => 1
  | .ptr d => uptoBulk d + 1
  | .slice elems spare => uptoBulkAll elems + uptoBulkAll spare + 1
  | .agg parts => uptoBulkAll parts + 1
  | .iface _ d => uptoBulk d + 1
  | .map entries => uptoBulkEntries entries + 1
  | .held _ => 1
def uptoBulkAll {H : Type} : List (DataW H) → Nat
  | [] => 0
  | d :: r => uptoBulk d + uptoBulkAll r
def uptoBulkEntries {H : Type} : List (Lit × DataW H) → Nat
  | [] => 0
  | x :: r => uptoBulkEntry x + uptoBulkEntries r
def uptoBulkEntry {H : Type} : Lit × DataW H → Nat
  | (.string bytes, d) => bytes.length + uptoBulk d + 1
  | (_, d) => uptoBulk d + 1
 end
def uptoSmall : (H : Type) → List (DataW H) → Bool := fun _ ds => decide (uptoBulkAll ds ≤ 1048576)
def OpenSpec.upto (s : _root_.Go.ChangeSpec) : _root_.Go.OpenSpec := { _root_.Go.OpenSpec.ofChange s with cond := some uptoSmall }

/-- 'knotworklaw.CodeFaces', WHERE WHAT IT READS IS OF BULK AT MOST 1048576: true; the input reads as it did. -/
def codeFacesUptoRow : OpenClaim := { program := "ytnmgeegmiijflaa", sum := "1d1e18bd6c1fa74f626002b5e3173f2db0f51529b2ba11da165b595dfa565090", func := "knotwork/knotworklaw.CodeFaces", spec := "codeFaces", unfollowed := true, recurses := true, apart := false, narrowed := true }
def CodeFacesUptoSaid : Prop := codeFacesUptoRow.holds Try.pinned (OpenSpec.upto codeFacesSpec)

/-- 'knotworklaw.GaussTells', WHERE WHAT IT READS IS OF BULK AT MOST 1048576: true; the input reads as it did. -/
def gaussTellsUptoRow : OpenClaim := { program := "ytnmgeegmiijflaa", sum := "1d1e18bd6c1fa74f626002b5e3173f2db0f51529b2ba11da165b595dfa565090", func := "knotwork/knotworklaw.GaussTells", spec := "gaussTells", apart := false, narrowed := true }
def GaussTellsUptoSaid : Prop := gaussTellsUptoRow.holds Try.pinned (OpenSpec.upto gaussTellsSpec)

/-- 'knotworklaw.GaussBuilds', WHERE WHAT IT READS IS OF BULK AT MOST 1048576: true; the input reads as it did. -/
def gaussBuildsUptoRow : OpenClaim := { program := "ytnmgeegmiijflaa", sum := "1d1e18bd6c1fa74f626002b5e3173f2db0f51529b2ba11da165b595dfa565090", func := "knotwork/knotworklaw.GaussBuilds", spec := "gaussBuilds", apart := false, narrowed := true }
def GaussBuildsUptoSaid : Prop := gaussBuildsUptoRow.holds Try.pinned (OpenSpec.upto gaussBuildsSpec)

/-- 'knotworklaw.GaussDowker', WHERE WHAT IT READS IS OF BULK AT MOST 1048576: true; the input reads as it did. -/
def gaussDowkerUptoRow : OpenClaim := { program := "ytnmgeegmiijflaa", sum := "1d1e18bd6c1fa74f626002b5e3173f2db0f51529b2ba11da165b595dfa565090", func := "knotwork/knotworklaw.GaussDowker", spec := "gaussDowker", apart := false, narrowed := true }
def GaussDowkerUptoSaid : Prop := gaussDowkerUptoRow.holds Try.pinned (OpenSpec.upto gaussDowkerSpec)

/-- 'knotworkkeep.CodeDarts', WHERE WHAT IT READS IS OF BULK AT MOST 1048576: true; the input reads as it did. -/
def codeDartsUptoRow : OpenClaim := { program := "ytnmgeegmiijflaa", sum := "1d1e18bd6c1fa74f626002b5e3173f2db0f51529b2ba11da165b595dfa565090", func := "knotwork/knotworkkeep.CodeDarts", spec := "codeDarts", unfollowed := true, recurses := true, apart := false, narrowed := true }
def CodeDartsUptoSaid : Prop := codeDartsUptoRow.holds Try.pinned (OpenSpec.upto codeDartsSpec)

/-- 'knotworkkeep.GaussBack', WHERE WHAT IT READS IS OF BULK AT MOST 1048576: true; the input reads as it did. -/
def gaussBackUptoRow : OpenClaim := { program := "ytnmgeegmiijflaa", sum := "1d1e18bd6c1fa74f626002b5e3173f2db0f51529b2ba11da165b595dfa565090", func := "knotwork/knotworkkeep.GaussBack", spec := "gaussBack", unfollowed := true, recurses := true, apart := false, narrowed := true }
def GaussBackUptoSaid : Prop := gaussBackUptoRow.holds Try.pinned (OpenSpec.upto gaussBackSpec)

/-- 'knotworklaw.CanonForms', WHERE WHAT IT READS IS OF BULK AT MOST 1048576: true; the input reads as it did. -/
def canonFormsUptoRow : OpenClaim := { program := "ytnmgeegmiijflaa", sum := "1d1e18bd6c1fa74f626002b5e3173f2db0f51529b2ba11da165b595dfa565090", func := "knotwork/knotworklaw.CanonForms", spec := "canonForms", unfollowed := true, recurses := true, apart := false, narrowed := true }
def CanonFormsUptoSaid : Prop := canonFormsUptoRow.holds Try.pinned (OpenSpec.upto canonFormsSpec)

/-- 'knotworklaw.CanonTurns', WHERE WHAT IT READS IS OF BULK AT MOST 1048576: true; the input reads as it did. -/
def canonTurnsUptoRow : OpenClaim := { program := "ytnmgeegmiijflaa", sum := "1d1e18bd6c1fa74f626002b5e3173f2db0f51529b2ba11da165b595dfa565090", func := "knotwork/knotworklaw.CanonTurns", spec := "canonTurns", apart := false, narrowed := true }
def CanonTurnsUptoSaid : Prop := canonTurnsUptoRow.holds Try.pinned (OpenSpec.upto canonTurnsSpec)

/-- 'knotworklaw.CanonSums', WHERE WHAT IT READS IS OF BULK AT MOST 1048576: true; the input reads as it did. -/
def canonSumsUptoRow : OpenClaim := { program := "ytnmgeegmiijflaa", sum := "1d1e18bd6c1fa74f626002b5e3173f2db0f51529b2ba11da165b595dfa565090", func := "knotwork/knotworklaw.CanonSums", spec := "canonSums", unfollowed := true, recurses := true, apart := false, narrowed := true }
def CanonSumsUptoSaid : Prop := canonSumsUptoRow.holds Try.pinned (OpenSpec.upto canonSumsSpec)

/-- 'knotworkkeep.CanonAny', WHERE WHAT IT READS IS OF BULK AT MOST 1048576: true; the input reads as it did. -/
def canonAnyUptoRow : OpenClaim := { program := "ytnmgeegmiijflaa", sum := "1d1e18bd6c1fa74f626002b5e3173f2db0f51529b2ba11da165b595dfa565090", func := "knotwork/knotworkkeep.CanonAny", spec := "canonAny", unfollowed := true, recurses := true, apart := false, narrowed := true }
def CanonAnyUptoSaid : Prop := canonAnyUptoRow.holds Try.pinned (OpenSpec.upto canonAnySpec)

/-- 'knotworkkeep.CanonTwice', WHERE WHAT IT READS IS OF BULK AT MOST 1048576: true; the input reads as it did. -/
def canonTwiceUptoRow : OpenClaim := { program := "ytnmgeegmiijflaa", sum := "1d1e18bd6c1fa74f626002b5e3173f2db0f51529b2ba11da165b595dfa565090", func := "knotwork/knotworkkeep.CanonTwice", spec := "canonTwice", unfollowed := true, recurses := true, apart := false, narrowed := true }
def CanonTwiceUptoSaid : Prop := canonTwiceUptoRow.holds Try.pinned (OpenSpec.upto canonTwiceSpec)

end Rows
end Go.Proofs.Ytnmgeegmiijflaa
