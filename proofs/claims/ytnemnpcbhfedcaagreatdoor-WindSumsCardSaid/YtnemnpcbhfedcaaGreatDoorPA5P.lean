/- Several texts of the proof, one behind the other. -/
import Derived.Test.YtnemnpcbhfedcaaGreatDoorPT4
import Derived.Laws.StructEq
/- The walks of knotworklaw.sameTerms, knotworkref.AtOf and poly.At. -/
namespace Go.Proofs.YtnemnpcbhfedcaaGreatDoor.Poly
open Go.RowKit
theorem Poly.slice {w:World} {B:Nat} {v:Value} {l:List (Int×Int)} (h:Poly w B v l):∃ a cap,v=.slice a l.length cap/\(0<l.length->∃ b off,a=some ⟨b,off,none⟩/\b<B/\TermsAt w b off l):=by
 rcases h with⟨rfl,rfl⟩|⟨a,cap,rfl,rfl⟩|⟨b,off,cap,rfl,hlt,hT⟩
 · exact⟨none,0,rfl,fun h=>absurd h (by simp)⟩
 · exact⟨some a,cap,rfl,fun h=>absurd h (by simp)⟩
 · exact⟨some ⟨b,off,none⟩,cap,rfl,fun _=>⟨b,off,rfl,hlt,hT⟩⟩
end Go.Proofs.YtnemnpcbhfedcaaGreatDoor.Poly
/- The walks of knotworkref.AtOf and poly.At: the value at 1 or -1. -/
namespace Go.Proofs.YtnemnpcbhfedcaaGreatDoor.Poly
open Go.RowKit
set_option maxHeartbeats 400000
set_option maxRecDepth 100000
theorem ret_int {k:IntKind} {a b:Int} (h:a=b):Ending.returned (.int k a)=.returned (.int k b):=by rw[h]
theorem mayBe_nil (a:Option Addr) (cap:Nat) (w:World):Calls Tryz.prog 53 #[.slice a 0 cap] w fun e w'=>e=.returned (.bool true)/\Below w.heap.size w w':=by
 go_enter Tryz.func53,Tryz.ntmps53
 go_wp2
 go_loopw [10] (fun i wr=>i=.int .i64 0/\Below w.heap.size w wr) (fun _ _=>0)
 case atStart=>exact⟨rfl,Below.refl _ _⟩
 case round=>
  obtain⟨rfl,hb⟩:=hrel
  go_wp2
  go_ret
  exact⟨rfl,hb⟩
theorem mayBe_poly (v : Value) (l : List (Int × Int)) (w : World) (hl : l.length ≤ maxLen) (hP : Poly w w.heap.size v l) :
    Calls Tryz.prog 53 #[v] w fun e w'=>e=.returned (.bool (mayB l))/\Below w.heap.size w w':=by
 rcases hP with⟨rfl,rfl⟩|⟨a,cap,rfl,rfl⟩|⟨b,off,cap,rfl,hlt,hT⟩
 · exact mayBe_nil none 0 w
 · exact mayBe_nil (some a) cap w
 · exact mayBe_any b off cap l w hl hlt hT
theorem Poly.up {w w':World} {v:Value} {l:List (Int×Int)} (h:Poly w w.heap.size v l) (hb:Below w.heap.size w w'):Poly w' w'.heap.size v l:=(h.on hb).mono hb.size
end Go.Proofs.YtnemnpcbhfedcaaGreatDoor.Poly
