/- Moves: what is needed, and giving up. -/
import Derived.Test.YtagaajlbkfkaiaaW2P
import Derived.Defers
import Derived.Recover
import Derived.WalkLawsBesides
namespace Go.Proofs.Ytagaajlbkfkaiaa
open Go.RowKit
set_option maxHeartbeats 2000000
set_option maxRecDepth 100000
def QZ7 (why:Int):List PanicEntry:=[{ v:=.iface 29 (.int .i64 why),recovered:=false }]
theorem QZ3 (why:Int) (w:World):Calls Try.prog 41 #[.bool true,.int .i64 why] w fun e w'=>e=.returned (.tuple #[])/\w'=w:=by
 go_enter Try.func41,Try.ntmps41
 go_wp2
 exact bodyPost_end (v:=.tuple #[]) (results_none rfl _ _ _) rfl ⟨rfl,rfl⟩
theorem QK0 (why:Int) (w:World):Calls Try.prog 41 #[.bool false,.int .i64 why] w fun e w'=>e=.panicked (QZ7 why)/\w'=w:=by
 go_enter Try.func41,Try.ntmps41
 go_wp2
 exact⟨rfl,rfl,rfl⟩
theorem caught (p:Addr) (x why:Int) (older:List PanicEntry) (w:World) (hc:w.cell? p=some (.int .i64 x)) (hz:w.frozen? p=false):
    CallsD Try.prog 28 #[.pointer (some p)] (.panicking ({ v:=.iface 29 (.int .i64 why),recovered:=false }::older)) w fun e u' w'=>
     e=.returned (.tuple #[])/\u'=.panicking ({ v:=.iface 29 (.int .i64 why),recovered:=true }::older)/\w'=w.setCell p (.int .i64 why):=by
 refine callsD_of_wpS Try.func28 rfl fun c₀ cs hu=>?_
 apply wpS_seq
 apply wpS_region
 simp[wpOpsS,go_sem,recoverD,hu,Try.ntmps28,Exit.thenS]
 apply wpS_seq
 apply wpS_region
 simp[wpOpsS,go_sem,Exit.thenS,Array.replicate]
 refine wpS_cond (t:=true) (by simp[Act.eval]) ?_
 simp only[if_true]
 apply wpS_region
 have hta:Sem.run Try.prog (Instr.typeAssert (Value.iface 29 (Value.int IntKind.i64 why)) 20 29 false) w=.ok (.int .i64 why) w:=by rfl
 simp[wpOpsS,go_sem,hta,hc,hz,bodyPostS,results,Try.results28]
theorem uncaught (p:Addr) (w:World):
    CallsD Try.prog 28 #[.pointer (some p)] .returning w fun e u' w'=>e=.returned (.tuple #[])/\u'=.returning/\w'=w:=by
 refine callsD_of_wpS Try.func28 rfl fun c₀ cs hu=>?_
 apply wpS_seq
 apply wpS_region
 simp[wpOpsS,go_sem,recoverD,hu,Try.ntmps28,Exit.thenS]
 apply wpS_seq
 apply wpS_region
 simp[wpOpsS,go_sem,Exit.thenS,Array.replicate]
 refine wpS_cond (t:=false) (by simp[Act.eval]) ?_
 simp only[Bool.false_eq_true,if_false]
 refine wpS_of_wp (wp_skip ?_)
 cases c₀
 simp_all [bodyPostS,results,Try.results28]
end Go.Proofs.Ytagaajlbkfkaiaa
