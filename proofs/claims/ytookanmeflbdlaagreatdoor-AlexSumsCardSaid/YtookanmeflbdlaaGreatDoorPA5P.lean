/- Several texts of the proof, one behind the other. -/
import Derived.Test.YtookanmeflbdlaaGreatDoorPT4
import Derived.Laws.StructEq
/- The walks of knotworklaw.sameTerms, knotworkref.AtOf and poly.At. -/
namespace Go.Proofs.YtookanmeflbdlaaGreatDoor.Poly
open Go.RowKit
theorem JF6 (a b c d:Int) (w:World):(Op.equalIn 10000 45 (.agg #[.int .i64 a,.int .i64 b]) (.agg #[.int .i64 c,.int .i64 d])).run Tryz.prog w=.ok (a==c&&b==d) w:=by
 have u3:=Tryz.underlying3
 have a3:=Tryz.isAgg3
 have z3:=Tryz.sizeOf3
 have hS:Tryz.prog.underlying 45=some (.struct (Tryz.prog.fieldsOf 45)):=by kernel_rfl
 have hp:Tryz.prog.stoodInHeld 45=false:=by kernel_rfl
 rw[show(10000:Nat)=9999+1 from rfl,run_equalIn_agg w 9999 45 _ _ hS hp]
 simp only[Program.fieldsOf,Tryz.underlying45]
 go_simp
 by_cases h1:a=c<;>by_cases h2:b=d<;>simp[h1,h2]
theorem JB6 (a b c d:Int) (w:World):(binOp .neq 45 (.agg #[.int .i64 a,.int .i64 b]) (.agg #[.int .i64 c,.int .i64 d])).run Tryz.prog w=.ok (.bool (!(a==c&&b==d))) w:=by
 rw[run_neq_struct,JF6]
 rfl
theorem XC0 {l m:List (Int×Int)} (hl:l.length=m.length) (h:∀ i,i<l.length->(l.getD i (0,0)).1=(m.getD i (0,0)).1/\(l.getD i (0,0)).2=(m.getD i (0,0)).2):l=m:=by
 apply List.ext_getElem hl
 intro i h1 h2
 have:=h i h1
 simp only[List.getD,List.getElem?_eq_getElem h1,List.getElem?_eq_getElem h2,Option.getD_some]at this
 exact Prod.ext this.1 this.2
theorem Poly.slice {w:World} {B:Nat} {v:Value} {l:List (Int×Int)} (h:Poly w B v l):∃ a cap,v=.slice a l.length cap/\(0<l.length->∃ b off,a=some ⟨b,off,none⟩/\b<B/\TermsAt w b off l):=by
 rcases h with⟨rfl,rfl⟩|⟨a,cap,rfl,rfl⟩|⟨b,off,cap,rfl,hlt,hT⟩
 · exact⟨none,0,rfl,fun h=>absurd h (by simp)⟩
 · exact⟨some a,cap,rfl,fun h=>absurd h (by simp)⟩
 · exact⟨some ⟨b,off,none⟩,cap,rfl,fun _=>⟨b,off,rfl,hlt,hT⟩⟩
end Go.Proofs.YtookanmeflbdlaaGreatDoor.Poly
/- The walks of knotworkref.AtOf and poly.At: the value at 1 or -1. -/
namespace Go.Proofs.YtookanmeflbdlaaGreatDoor.Poly
open Go.RowKit
set_option maxHeartbeats 400000
set_option maxRecDepth 100000
theorem ret_int {k:IntKind} {a b:Int} (h:a=b):Ending.returned (.int k a)=.returned (.int k b):=by rw[h]
theorem XZ3 (a:Option Addr) (cap:Nat) (w:World):Calls Tryz.prog 23 #[.slice a 0 cap] w fun e w'=>e=.returned (.bool true)/\Below w.heap.size w w':=by
 go_enter Tryz.func23,Tryz.ntmps23
 go_wp2
 go_loopw [10] (fun i wr=>i=.int .i64 0/\Below w.heap.size w wr) (fun _ _=>0)
 case atStart=>exact⟨rfl,Below.refl _ _⟩
 case round=>
  obtain⟨rfl,hb⟩:=hrel
  go_wp2
  go_ret
  exact⟨rfl,hb⟩
theorem Qz0 (v : Value) (l : List (Int × Int)) (w : World) (hl : l.length ≤ maxLen) (hP : Poly w w.heap.size v l) :
    Calls Tryz.prog 23 #[v] w fun e w'=>e=.returned (.bool (mayB l))/\Below w.heap.size w w':=by
 rcases hP with⟨rfl,rfl⟩|⟨a,cap,rfl,rfl⟩|⟨b,off,cap,rfl,hlt,hT⟩
 · exact XZ3 none 0 w
 · exact XZ3 (some a) cap w
 · exact XZ4 b off cap l w hl hlt hT
theorem Poly.up {w w':World} {v:Value} {l:List (Int×Int)} (h:Poly w w.heap.size v l) (hb:Below w.heap.size w w'):Poly w' w'.heap.size v l:=(h.on hb).mono hb.size
end Go.Proofs.YtookanmeflbdlaaGreatDoor.Poly
