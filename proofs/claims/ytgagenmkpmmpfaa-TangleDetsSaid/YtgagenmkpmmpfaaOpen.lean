/- Diagrams that come in: what an argument's datum says of the crossings in memory. -/
import Derived.Test.YtgagenmkpmmpfaaO0P
import Derived.ProofKit
import Derived.OpenShut
import Derived.SizedLaws
import Derived.Deep.Slices
namespace Go.Proofs.Ytgagenmkpmmpfaa
open Go.ChangeShapes Go.WideShapes Go.ChangeAt Go.RowKit
theorem own0:ownKnob Try.prog.godebug=none:=by kernel_rfl
theorem laidOut0:laidOutB Try.prog=true:=by kernel_rfl
theorem cellsInt:Try.prog.cellsOf 3=1:=by kernel_rfl
theorem wf_i64 {z:Int} (h:(Lit.int .i64 z).wf=true) : -9223372036854775808<=z/\z<=9223372036854775807:=by
 have hr:(decide (IntKind.i64.min<=z)&&decide (z<=IntKind.i64.max))=true:=h
 rw[Bool.and_eq_true,decide_eq_true_eq,decide_eq_true_eq]at hr
 exact hr
end Go.Proofs.Ytgagenmkpmmpfaa
