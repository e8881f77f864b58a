/- The trefoil, and the walk of knotworkkeep's trefoil. -/
import Derived.Test.YtookanmeflbdlaaGreatDoorF12P
import Derived.Test.YtookanmeflbdlaaGreatDoorR1P
namespace Go.Proofs.YtookanmeflbdlaaGreatDoor
open Go.RowKit
set_option maxHeartbeats 2000000
set_option maxRecDepth 100000
def trC:List Cr:=[⟨1,4,2,5,false⟩,⟨3,6,4,1,false⟩,⟨5,2,6,3,false⟩]
theorem Xu9:QQ6 trC 0=true:=by decide +kernel
theorem XU7:QX6 trC=true:=by decide +kernel
theorem Xf1 (w:World):Calls Tryz.prog 11 #[] w fun e w'=>∃ a c,e=.returned (.agg #[.slice a trC.length c,.int .i64 0])/\Crs w' w'.heap.size (.slice a trC.length c) trC/\Below w.heap.size w w':=by
 go_enter Tryz.func11,Tryz.ntmps11
 go_wp2
 have hb0:((w.alloc (.cells #[.slice (some ⟨w.heap.size+1,0,none⟩) 3 3,.int .i64 0] 24)).alloc (.cells #[.int .i64 1,.int .i64 4,.int .i64 2,.int .i64 5,.bool false,.int .i64 3,.int .i64 6,.int .i64 4,.int .i64 1,.bool false,.int .i64 5,.int .i64 2,.int .i64 6,.int .i64 3,.bool false] 63)).heap[w.heap.size]?=some (.cells #[.slice (some ⟨w.heap.size+1,0,none⟩) 3 3,.int .i64 0] 24 (0,0)):=alloc_old (alloc_at rfl)
 have hb1:((w.alloc (.cells #[.slice (some ⟨w.heap.size+1,0,none⟩) 3 3,.int .i64 0] 24)).alloc (.cells #[.int .i64 1,.int .i64 4,.int .i64 2,.int .i64 5,.bool false,.int .i64 3,.int .i64 6,.int .i64 4,.int .i64 1,.bool false,.int .i64 5,.int .i64 2,.int .i64 6,.int .i64 3,.bool false] 63)).heap[w.heap.size+1]?=some (.cells #[.int .i64 1,.int .i64 4,.int .i64 2,.int .i64 5,.bool false,.int .i64 3,.int .i64 6,.int .i64 4,.int .i64 1,.bool false,.int .i64 5,.int .i64 2,.int .i64 6,.int .i64 3,.bool false] 63 (0,0)):=alloc_at (by simp)
 have hbw:=QW3 w (.cells #[.slice (some ⟨w.heap.size+1,0,none⟩) 3 3,.int .i64 0] 24) (.cells #[.int .i64 1,.int .i64 4,.int .i64 2,.int .i64 5,.bool false,.int .i64 3,.int .i64 6,.int .i64 4,.int .i64 1,.bool false,.int .i64 5,.int .i64 2,.int .i64 6,.int .i64 3,.bool false] 63)
 generalize (w.alloc (.cells #[.slice (some ⟨w.heap.size+1,0,none⟩) 3 3,.int .i64 0] 24)).alloc (.cells #[.int .i64 1,.int .i64 4,.int .i64 2,.int .i64 5,.bool false,.int .i64 3,.int .i64 6,.int .i64 4,.int .i64 1,.bool false,.int .i64 5,.int .i64 2,.int .i64 6,.int .i64 3,.bool false] 63)=X at hb0 hb1 hbw ⊢
 have x0:=QQ0 (i:=0) (v:=.slice (some ⟨w.heap.size+1,0,none⟩) 3 3) hb0 rfl
 have x1:=QQ0 (i:=1) (v:=.int .i64 0) hb0 rfl
 refine bodyPost_ret (v:=.agg #[.slice (some ⟨w.heap.size+1,0,none⟩) 3 3,.int .i64 0]) (by simp[results,Tryz.results11,go_sem,x0,x1]) rfl ⟨some ⟨w.heap.size+1,0,none⟩,3,rfl,?_,hbw⟩
 refine⟨_,_,rfl,by unfold maxLen;decide,fun _=>⟨w.heap.size+1,0,rfl,(Array.getElem?_eq_some_iff.1 hb1).1,fun i hi=>?_⟩⟩
 have hi3:i=0∨i=1∨i=2:=by have:i<3:=hi;omega
 rcases hi3 with rfl|rfl|rfl
 · exact⟨QQ0 hb1 rfl,QQ0 hb1 rfl,QQ0 hb1 rfl,QQ0 hb1 rfl,QQ0 hb1 rfl⟩
 · exact⟨QQ0 hb1 rfl,QQ0 hb1 rfl,QQ0 hb1 rfl,QQ0 hb1 rfl,QQ0 hb1 rfl⟩
 · exact⟨QQ0 hb1 rfl,QQ0 hb1 rfl,QQ0 hb1 rfl,QQ0 hb1 rfl,QQ0 hb1 rfl⟩
theorem QK4:QQ8:=fun a cap C loops gF cF gT cT w hm hD=>Qx0 a cap C loops gF cF gT cT w hm hD
end Go.Proofs.YtookanmeflbdlaaGreatDoor
