/-
  No cell of these rows narrows 'for every input' (looked for: loops, veiled, ifaces, maps, wideKeys, modest, calm, conditions, laid).
  DERIVED. THE GIVEN ROWS OF THIS SEAT. 6 by the template 'for every input the law returns true; each argument reads behind the call as it read before'; 0 by the template 'total and deterministic' (their statements: YtagaajlbkfkaiaaTotals.lean).
  GIVEN WITH THE SEED: the statements are not yours to turn. If you find one false, say at which input.
  Laid BY PROGRAM, IN A SANDBOX (cutbox-rows.mjs): the forced cells as the released guide's own fill.sh prints them over the translation 6a819c1e19eb5a5e… (all of the seat's roots in one cut). By AI agents, Wed Nov 11 2026. No macro, syntax, notation, axiom, sorry.
-/
import Derived.Test.YtagaajlbkfkaiaaChecked
import GoSem.Claim
import GoSem.ClaimJoined
import GoSem.ClaimMapViews
import Derived.JoinedTies
import Derived.KernelRfl
namespace Go.Proofs.Ytagaajlbkfkaiaa
/- THE CELL 'sum', in the pinned program and in every row, IS THE sha256 OF THE DUMP (.gsa) THAT YtagaajlbkfkaiaaProg.lean LOADS. Nothing in Lean hashes anything: it is a label: what it is worth is what the hold of that sum in a sandbox is worth. -/
noncomputable def Try.pinned : Pinned := { name := "ytagaajlbkfkaiaa", sum := "6a819c1e19eb5a5e84d5cea13afb0c8ee41ed874db0c1f6e61079e62e395d7f5", checked := Try.checked }
namespace Rows
def none {H : Type} : Left H := { results := [], args := [] }

/-- 'knotworklaw.MovesDo': WHATEVER THE INPUT: true; the input reads as it did. -/
def movesDoSpec : ChangeSpec := { name := "movesDo", fn := fun _ => fun
  | [d1, d2] => { results := [.lit (.bool true)], args := [d1, d2] }
  | _ => none }
def movesDoRow : OpenClaim := { program := "ytagaajlbkfkaiaa", sum := "6a819c1e19eb5a5e84d5cea13afb0c8ee41ed874db0c1f6e61079e62e395d7f5", func := "knotwork/knotworklaw.MovesDo", spec := "movesDo", unfollowed := true, recurses := true, plainKeys := false, apart := false }
def MovesDoSaid : Prop := movesDoRow.holds Try.pinned (OpenSpec.ofChange movesDoSpec)

/-- ITS FALSE NEIGHBOUR: 'it returns false'. Refute it at one input. -/
def movesDoWrong : ChangeSpec := { name := "movesDo", fn := fun _ => fun
  | [d1, d2] => { results := [.lit (.bool false)], args := [d1, d2] }
  | _ => none }
def MovesDoWrongFalsely : Prop := movesDoRow.holds Try.pinned (OpenSpec.ofChange movesDoWrong)

/-- 'knotworklaw.MovesRows': WHATEVER THE INPUT: true; the input reads as it did. -/
def movesRowsSpec : ChangeSpec := { name := "movesRows", fn := fun _ => fun
  | [d1, d2] => { results := [.lit (.bool true)], args := [d1, d2] }
  | _ => none }
def movesRowsRow : OpenClaim := { program := "ytagaajlbkfkaiaa", sum := "6a819c1e19eb5a5e84d5cea13afb0c8ee41ed874db0c1f6e61079e62e395d7f5", func := "knotwork/knotworklaw.MovesRows", spec := "movesRows", unfollowed := true, recurses := true, plainKeys := false, apart := false }
def MovesRowsSaid : Prop := movesRowsRow.holds Try.pinned (OpenSpec.ofChange movesRowsSpec)

/-- ITS FALSE NEIGHBOUR: 'it returns false'. Refute it at one input. -/
def movesRowsWrong : ChangeSpec := { name := "movesRows", fn := fun _ => fun
  | [d1, d2] => { results := [.lit (.bool false)], args := [d1, d2] }
  | _ => none }
def MovesRowsWrongFalsely : Prop := movesRowsRow.holds Try.pinned (OpenSpec.ofChange movesRowsWrong)

/-- 'knotworklaw.MovesTake': WHATEVER THE INPUT: true; the input reads as it did. -/
def movesTakeSpec : ChangeSpec := { name := "movesTake", fn := fun _ => fun
  | [d] => { results := [.lit (.bool true)], args := [d] }
  | _ => none }
def movesTakeRow : OpenClaim := { program := "ytagaajlbkfkaiaa", sum := "6a819c1e19eb5a5e84d5cea13afb0c8ee41ed874db0c1f6e61079e62e395d7f5", func := "knotwork/knotworklaw.MovesTake", spec := "movesTake", unfollowed := true, recurses := true, plainKeys := false, apart := false }
def MovesTakeSaid : Prop := movesTakeRow.holds Try.pinned (OpenSpec.ofChange movesTakeSpec)

/-- ITS FALSE NEIGHBOUR: 'it returns false'. Refute it at one input. -/
def movesTakeWrong : ChangeSpec := { name := "movesTake", fn := fun _ => fun
  | [d] => { results := [.lit (.bool false)], args := [d] }
  | _ => none }
def MovesTakeWrongFalsely : Prop := movesTakeRow.holds Try.pinned (OpenSpec.ofChange movesTakeWrong)

/-- 'knotworkkeep.MovesBack': WHATEVER THE INPUT: true; the input reads as it did. -/
def movesBackSpec : ChangeSpec := { name := "movesBack", fn := fun _ => fun
  | [d1, d2] => { results := [.lit (.bool true)], args := [d1, d2] }
  | _ => none }
def movesBackRow : OpenClaim := { program := "ytagaajlbkfkaiaa", sum := "6a819c1e19eb5a5e84d5cea13afb0c8ee41ed874db0c1f6e61079e62e395d7f5", func := "knotwork/knotworkkeep.MovesBack", spec := "movesBack", unfollowed := true, recurses := true, plainKeys := false, apart := false }
def MovesBackSaid : Prop := movesBackRow.holds Try.pinned (OpenSpec.ofChange movesBackSpec)

/-- ITS FALSE NEIGHBOUR: 'it returns false'. Refute it at one input. -/
def movesBackWrong : ChangeSpec := { name := "movesBack", fn := fun _ => fun
  | [d1, d2] => { results := [.lit (.bool false)], args := [d1, d2] }
  | _ => none }
def MovesBackWrongFalsely : Prop := movesBackRow.holds Try.pinned (OpenSpec.ofChange movesBackWrong)

/-- 'knotworkkeep.MovesSimple': WHATEVER THE INPUT: true; the input reads as it did. -/
def movesSimpleSpec : ChangeSpec := { name := "movesSimple", fn := fun _ => fun
  | [d] => { results := [.lit (.bool true)], args := [d] }
  | _ => none }
def movesSimpleRow : OpenClaim := { program := "ytagaajlbkfkaiaa", sum := "6a819c1e19eb5a5e84d5cea13afb0c8ee41ed874db0c1f6e61079e62e395d7f5", func := "knotwork/knotworkkeep.MovesSimple", spec := "movesSimple", unfollowed := true, recurses := true, plainKeys := false, apart := false }
def MovesSimpleSaid : Prop := movesSimpleRow.holds Try.pinned (OpenSpec.ofChange movesSimpleSpec)

/-- ITS FALSE NEIGHBOUR: 'it returns false'. Refute it at one input. -/
def movesSimpleWrong : ChangeSpec := { name := "movesSimple", fn := fun _ => fun
  | [d] => { results := [.lit (.bool false)], args := [d] }
  | _ => none }
def MovesSimpleWrongFalsely : Prop := movesSimpleRow.holds Try.pinned (OpenSpec.ofChange movesSimpleWrong)

/-- 'knotworklaw.SignShades': WHATEVER THE INPUT: true; the input reads as it did. -/
def signShadesSpec : ChangeSpec := { name := "signShades", fn := fun _ => fun
  | [d1, d2] => { results := [.lit (.bool true)], args := [d1, d2] }
  | _ => none }
def signShadesRow : OpenClaim := { program := "ytagaajlbkfkaiaa", sum := "6a819c1e19eb5a5e84d5cea13afb0c8ee41ed874db0c1f6e61079e62e395d7f5", func := "knotwork/knotworklaw.SignShades", spec := "signShades", unfollowed := true, recurses := true, plainKeys := false, apart := false }
def SignShadesSaid : Prop := signShadesRow.holds Try.pinned (OpenSpec.ofChange signShadesSpec)

/-- ITS FALSE NEIGHBOUR: 'it returns false'. Refute it at one input. -/
def signShadesWrong : ChangeSpec := { name := "signShades", fn := fun _ => fun
  | [d1, d2] => { results := [.lit (.bool false)], args := [d1, d2] }
  | _ => none }
def SignShadesWrongFalsely : Prop := signShadesRow.holds Try.pinned (OpenSpec.ofChange signShadesWrong)

/- THE SECOND FORM. 'bulk': how many values and letters a reading holds, each counted each time it is reached (what is shared counts as often as it is met; a slice's spare places count too). A statement '..UptoSaid' is the law's where the arguments, and the package variables that the reading takes, are together of bulk at most 1048576: NARROWER than '..Said'. Prove '..Said' where nothing that the law and all that it calls make is longer than what came in: it says more and counts as full. Else prove '..UptoSaid'. A law counts once. -/
mutual
def uptoBulk {H : Type} : DataW H → Nat
  | .lit (.string bytes) => bytes.length + 1
  | .lit _ => 1
  | .nil => 1
  | .ptr d => uptoBulk d + 1
  | .slice elems spare => uptoBulkAll elems + uptoBulkAll spare + 1
  | .agg parts => uptoBulkAll parts + 1
  | .iface _ d => uptoBulk d + 1
  | .map entries => uptoBulkEntries entries + 1
  | .held _ => 1
def uptoBulkAll {H : Type} : List (DataW H) → Nat
  | [] => 0
  | d :: r => uptoBulk d + uptoBulkAll r
def uptoBulkEntries {H : Type} : List (Lit × DataW H) → Nat
  | [] => 0
  | x :: r => uptoBulkEntry x + uptoBulkEntries r
def uptoBulkEntry {H : Type} : Lit × DataW H → Nat
  | (.string bytes, d) => bytes.length + uptoBulk d + 1
  | (_, d) => uptoBulk d + 1
 end
def uptoSmall : (H : Type) → List (DataW H) → Bool := fun _ ds => decide (uptoBulkAll ds ≤ 1048576)
def OpenSpec.upto (s : _root_.Go.ChangeSpec) : _root_.Go.OpenSpec := { _root_.Go.OpenSpec.ofChange s with cond := some uptoSmall }

/-- 'knotworklaw.MovesDo', WHERE WHAT IT READS IS OF BULK AT MOST 1048576: true; the input reads as it did. -/
def movesDoUptoRow : OpenClaim := { program := "ytagaajlbkfkaiaa", sum := "6a819c1e19eb5a5e84d5cea13afb0c8ee41ed874db0c1f6e61079e62e395d7f5", func := "knotwork/knotworklaw.MovesDo", spec := "movesDo", unfollowed := true, recurses := true, plainKeys := false, apart := false, narrowed := true }
def MovesDoUptoSaid : Prop := movesDoUptoRow.holds Try.pinned (OpenSpec.upto movesDoSpec)

/-- 'knotworklaw.MovesRows', WHERE WHAT IT READS IS OF BULK AT MOST 1048576: true; the input reads as it did. -/
def movesRowsUptoRow : OpenClaim := { program := "ytagaajlbkfkaiaa", sum := "6a819c1e19eb5a5e84d5cea13afb0c8ee41ed874db0c1f6e61079e62e395d7f5", func := "knotwork/knotworklaw.MovesRows", spec := "movesRows", unfollowed := true, recurses := true, plainKeys := false, apart := false, narrowed := true }
def MovesRowsUptoSaid : Prop := movesRowsUptoRow.holds Try.pinned (OpenSpec.upto movesRowsSpec)

/-- 'knotworklaw.MovesTake', WHERE WHAT IT READS IS OF BULK AT MOST 1048576: true; the input reads as it did. -/
def movesTakeUptoRow : OpenClaim := { program := "ytagaajlbkfkaiaa", sum := "6a819c1e19eb5a5e84d5cea13afb0c8ee41ed874db0c1f6e61079e62e395d7f5", func := "knotwork/knotworklaw.MovesTake", spec := "movesTake", unfollowed := true, recurses := true, plainKeys := false, apart := false, narrowed := true }
def MovesTakeUptoSaid : Prop := movesTakeUptoRow.holds Try.pinned (OpenSpec.upto movesTakeSpec)

/-- 'knotworkkeep.MovesBack', WHERE WHAT IT READS IS OF BULK AT MOST 1048576: true; the input reads as it did. -/
def movesBackUptoRow : OpenClaim := { program := "ytagaajlbkfkaiaa", sum := "6a819c1e19eb5a5e84d5cea13afb0c8ee41ed874db0c1f6e61079e62e395d7f5", func := "knotwork/knotworkkeep.MovesBack", spec := "movesBack", unfollowed := true, recurses := true, plainKeys := false, apart := false, narrowed := true }
def MovesBackUptoSaid : Prop := movesBackUptoRow.holds Try.pinned (OpenSpec.upto movesBackSpec)

/-- 'knotworkkeep.MovesSimple', WHERE WHAT IT READS IS OF BULK AT MOST 1048576: true; the input reads as it did. -/
def movesSimpleUptoRow : OpenClaim := { program := "ytagaajlbkfkaiaa", sum := "6a819c1e19eb5a5e84d5cea13afb0c8ee41ed874db0c1f6e61079e62e395d7f5", func := "knotwork/knotworkkeep.MovesSimple", spec := "movesSimple", unfollowed := true, recurses := true, plainKeys := false, apart := false, narrowed := true }
def MovesSimpleUptoSaid : Prop := movesSimpleUptoRow.holds Try.pinned (OpenSpec.upto movesSimpleSpec)

/-- 'knotworklaw.SignShades', WHERE WHAT IT READS IS OF BULK AT MOST 1048576: true; the input reads as it did. -/
def signShadesUptoRow : OpenClaim := { program := "ytagaajlbkfkaiaa", sum := "6a819c1e19eb5a5e84d5cea13afb0c8ee41ed874db0c1f6e61079e62e395d7f5", func := "knotwork/knotworklaw.SignShades", spec := "signShades", unfollowed := true, recurses := true, plainKeys := false, apart := false, narrowed := true }
def SignShadesUptoSaid : Prop := signShadesUptoRow.holds Try.pinned (OpenSpec.upto signShadesSpec)

end Rows
end Go.Proofs.Ytagaajlbkfkaiaa
