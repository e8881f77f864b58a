/-
  No cell of these rows narrows 'for every input' (looked for: loops, veiled, ifaces, maps, wideKeys, modest, calm, conditions, laid).
  DERIVED. THE GIVEN ROWS OF THIS SEAT. 3 by the template 'for every input the law returns true; each argument reads behind the call as it read before'; 0 by the template 'total and deterministic' (their statements: YtdlmhcickcgnfaaTotals.lean).
  GIVEN WITH THE SEED: the statements are not yours to turn. If you find one false, say at which input.
  Laid BY PROGRAM, IN A SANDBOX (cutbox-rows.mjs): the forced cells as the released guide's own fill.sh prints them over the translation ab029d0971a8f1ef… (all of the seat's roots in one cut). By AI agents, Wed Nov 11 2026. No macro, syntax, notation, axiom, sorry.
-/
import Derived.Test.YtdlmhcickcgnfaaChecked
import GoSem.Claim
import GoSem.ClaimJoined
import GoSem.ClaimMapViews
import Derived.JoinedTies
import Derived.KernelRfl
namespace Go.Proofs.Ytdlmhcickcgnfaa
/- THE CELL 'sum', in the pinned program and in every row, IS THE sha256 OF THE DUMP (.gsa) THAT YtdlmhcickcgnfaaProg.lean LOADS. Nothing in Lean hashes anything: it is a label: what it is worth is what the hold of that sum in a sandbox is worth. -/
noncomputable def Try.pinned : Pinned := { name := "ytdlmhcickcgnfaa", sum := "ab029d0971a8f1ef18a2a9b91e3153aa5123bd5fb914c28afb6769df3639ad55", checked := Try.checked }
namespace Rows
def none {H : Type} : Left H := { results := [], args := [] }

/-- 'knotworklaw.BraidEquals': WHATEVER THE INPUT: true; the input reads as it did. -/
def braidEqualsSpec : ChangeSpec := { name := "braidEquals", fn := fun _ => fun
  | [d1, d2, d3] => { results := [.lit (.bool true)], args := [d1, d2, d3] }
  | _ => none }
def braidEqualsRow : OpenClaim := { program := "ytdlmhcickcgnfaa", sum := "ab029d0971a8f1ef18a2a9b91e3153aa5123bd5fb914c28afb6769df3639ad55", func := "knotwork/knotworklaw.BraidEquals", spec := "braidEquals", unfollowed := true, recurses := true, apart := false }
def BraidEqualsSaid : Prop := braidEqualsRow.holds Try.pinned (OpenSpec.ofChange braidEqualsSpec)

/-- ITS FALSE NEIGHBOUR: 'it returns false'. Refute it at one input. -/
def braidEqualsWrong : ChangeSpec := { name := "braidEquals", fn := fun _ => fun
  | [d1, d2, d3] => { results := [.lit (.bool false)], args := [d1, d2, d3] }
  | _ => none }
def BraidEqualsWrongFalsely : Prop := braidEqualsRow.holds Try.pinned (OpenSpec.ofChange braidEqualsWrong)

/-- 'knotworkkeep.BraidFaithful': WHATEVER THE INPUT: true; the input reads as it did. -/
def braidFaithfulSpec : ChangeSpec := { name := "braidFaithful", fn := fun _ => fun
  | [d1, d2, d3] => { results := [.lit (.bool true)], args := [d1, d2, d3] }
  | _ => none }
def braidFaithfulRow : OpenClaim := { program := "ytdlmhcickcgnfaa", sum := "ab029d0971a8f1ef18a2a9b91e3153aa5123bd5fb914c28afb6769df3639ad55", func := "knotwork/knotworkkeep.BraidFaithful", spec := "braidFaithful", unfollowed := true, recurses := true, apart := false }
def BraidFaithfulSaid : Prop := braidFaithfulRow.holds Try.pinned (OpenSpec.ofChange braidFaithfulSpec)

/-- ITS FALSE NEIGHBOUR: 'it returns false'. Refute it at one input. -/
def braidFaithfulWrong : ChangeSpec := { name := "braidFaithful", fn := fun _ => fun
  | [d1, d2, d3] => { results := [.lit (.bool false)], args := [d1, d2, d3] }
  | _ => none }
def BraidFaithfulWrongFalsely : Prop := braidFaithfulRow.holds Try.pinned (OpenSpec.ofChange braidFaithfulWrong)

/-- 'knotworkkeep.BraidRelations': WHATEVER THE INPUT: true; the input reads as it did. -/
def braidRelationsSpec : ChangeSpec := { name := "braidRelations", fn := fun _ => fun
  | [d1, d2, d3, d4, d5] => { results := [.lit (.bool true)], args := [d1, d2, d3, d4, d5] }
  | _ => none }
def braidRelationsRow : OpenClaim := { program := "ytdlmhcickcgnfaa", sum := "ab029d0971a8f1ef18a2a9b91e3153aa5123bd5fb914c28afb6769df3639ad55", func := "knotwork/knotworkkeep.BraidRelations", spec := "braidRelations", unfollowed := true, recurses := true, apart := false }
def BraidRelationsSaid : Prop := braidRelationsRow.holds Try.pinned (OpenSpec.ofChange braidRelationsSpec)

/-- ITS FALSE NEIGHBOUR: 'it returns false'. Refute it at one input. -/
def braidRelationsWrong : ChangeSpec := { name := "braidRelations", fn := fun _ => fun
  | [d1, d2, d3, d4, d5] => { results := [.lit (.bool false)], args := [d1, d2, d3, d4, d5] }
  | _ => none }
def BraidRelationsWrongFalsely : Prop := braidRelationsRow.holds Try.pinned (OpenSpec.ofChange braidRelationsWrong)

/- THE SECOND FORM. 'bulk': how many values and letters a reading holds, each counted each time it is reached (what is shared counts as often as it is met; a slice's spare places count too). A statement '..UptoSaid' is the law's where the arguments, and the package variables that the reading takes, are together of bulk at most 1048576: NARROWER than '..Said'. Prove '..Said' where nothing that the law and all that it calls make is longer than what came in: it says more and counts as full. Else prove '..UptoSaid'. A law counts once. -/
mutual
def uptoBulk {H : Type} : DataW H → Nat
  | .lit (.string bytes) => bytes.length + 1
  | .lit _ => 1
  | .nil => 1
  | .ptr d => uptoBulk d + 1
  | .slice elems spare => uptoBulkAll elems + uptoBulkAll spare + 1
  | .agg parts => uptoBulkAll parts + 1
  | .iface _ d => uptoBulk d + 1
  | .map entries => uptoBulkEntries entries + 1
  | .held _ => 1
def uptoBulkAll {H : Type} : List (DataW H) → Nat
  | [] => 0
  | d :: r => uptoBulk d + uptoBulkAll r
def uptoBulkEntries {H : Type} : List (Lit × DataW H) → Nat
  | [] => 0
  | x :: r => uptoBulkEntry x + uptoBulkEntries r
def uptoBulkEntry {H : Type} : Lit × DataW H → Nat
  | (.string bytes, d) => bytes.length + uptoBulk d + 1
  | (_, d) => uptoBulk d + 1
 end
def uptoSmall : (H : Type) → List (DataW H) → Bool := fun _ ds => decide (uptoBulkAll ds ≤ 1048576)
def OpenSpec.upto (s : _root_.Go.ChangeSpec) : _root_.Go.OpenSpec := { _root_.Go.OpenSpec.ofChange s with cond := some uptoSmall }

/-- 'knotworklaw.BraidEquals', WHERE WHAT IT READS IS OF BULK AT MOST 1048576: true; the input reads as it did. -/
def braidEqualsUptoRow : OpenClaim := { program := "ytdlmhcickcgnfaa", sum := "ab029d0971a8f1ef18a2a9b91e3153aa5123bd5fb914c28afb6769df3639ad55", func := "knotwork/knotworklaw.BraidEquals", spec := "braidEquals", unfollowed := true, recurses := true, apart := false, narrowed := true }
def BraidEqualsUptoSaid : Prop := braidEqualsUptoRow.holds Try.pinned (OpenSpec.upto braidEqualsSpec)

/-- 'knotworkkeep.BraidFaithful', WHERE WHAT IT READS IS OF BULK AT MOST 1048576: true; the input reads as it did. -/
def braidFaithfulUptoRow : OpenClaim := { program := "ytdlmhcickcgnfaa", sum := "ab029d0971a8f1ef18a2a9b91e3153aa5123bd5fb914c28afb6769df3639ad55", func := "knotwork/knotworkkeep.BraidFaithful", spec := "braidFaithful", unfollowed := true, recurses := true, apart := false, narrowed := true }
def BraidFaithfulUptoSaid : Prop := braidFaithfulUptoRow.holds Try.pinned (OpenSpec.upto braidFaithfulSpec)

/-- 'knotworkkeep.BraidRelations', WHERE WHAT IT READS IS OF BULK AT MOST 1048576: true; the input reads as it did. -/
def braidRelationsUptoRow : OpenClaim := { program := "ytdlmhcickcgnfaa", sum := "ab029d0971a8f1ef18a2a9b91e3153aa5123bd5fb914c28afb6769df3639ad55", func := "knotwork/knotworkkeep.BraidRelations", spec := "braidRelations", unfollowed := true, recurses := true, apart := false, narrowed := true }
def BraidRelationsUptoSaid : Prop := braidRelationsUptoRow.holds Try.pinned (OpenSpec.upto braidRelationsSpec)

end Rows
end Go.Proofs.Ytdlmhcickcgnfaa
