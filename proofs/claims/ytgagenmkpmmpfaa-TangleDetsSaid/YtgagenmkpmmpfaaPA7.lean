/- The walks of knotworkref.UnitOf and knotworkref.FlipOf. -/
import Derived.Test.YtgagenmkpmmpfaaPA5P
import Derived.Deep.RegionLaw
namespace Go.Proofs.Ytgagenmkpmmpfaa.Poly
open Go.RowKit
theorem new_cells (W:World) (x y:Value):∀ j u,[x,y][j]?=some u->(W.alloc (.cells #[x,y] 95)).drew.cell? ((⟨W.heap.size,0,none⟩:Addr).add j)=some u:=by
 intro j u hj
 rw[Addr.add_lit,Nat.zero_add]
 have hh:(W.alloc (.cells #[x,y] 95)).drew.heap[W.heap.size]?=some (.cells #[x,y] 95 (0,0)):=Array.getElem?_push_size
 match j,hj with
 |0,hj=>simp at hj;subst hj;unfold World.cell?;rw[hh];rfl
 |1,hj=>simp at hj;subst hj;unfold World.cell?;rw[hh];rfl
theorem pair_one (a b:Int):∀ u∈[Value.int .i64 a,Value.int .i64 b],u.oneCell'=true:=by
 intro u hu
 simp at hu
 rcases hu with rfl|rfl<;>rfl
def unitL (l:List (Int×Int)):List (Int×Int):=l.map fun t=>(t.1-(l.getD 0 (0,0)).1,if(l.getD 0 (0,0)).2<0 then -t.2 else t.2)
end Go.Proofs.Ytgagenmkpmmpfaa.Poly
