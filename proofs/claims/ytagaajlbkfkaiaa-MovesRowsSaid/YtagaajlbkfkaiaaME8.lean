/- The walk of ref.laid: a crossing told by the compass. Made by genme8.py. -/
import Derived.Test.YtagaajlbkfkaiaaMW1P
import Derived.Deep.RegionHeld
import Derived.BigRegion
namespace Go.Proofs.Ytagaajlbkfkaiaa
open Go.RowKit
set_option maxHeartbeats 4000000
set_option maxRecDepth 100000
theorem res_laid {W:World} {g:Nat} {a b c d e:Value} {tm:Array Value} (h:W.heap[g]?=some (.cells #[a,b,c,d,e] 71 (0,0))) (h2:tm[14]?=some (.pointer (some ⟨g,0,none⟩))):(results Try.f69 tm).run Try.prog W=.ok (.agg #[a,b,c,d,e]) W:=by
 have e0:W.cell? ⟨g,0,none⟩=some a:=block_cell h rfl
 have e1:W.cell? ⟨g,1,none⟩=some b:=block_cell h rfl
 have e2:W.cell? ⟨g,2,none⟩=some c:=block_cell h rfl
 have e3:W.cell? ⟨g,3,none⟩=some d:=block_cell h rfl
 have e4:W.cell? ⟨g,4,none⟩=some e:=block_cell h rfl
 simp[results,Try.results69,go_sem,h2,e0,e1,e2,e3,e4]
theorem laid_000 (e n wa s:Int) (w:World):
    Calls Try.prog 69 #[.int .i64 e,.int .i64 n,.int .i64 wa,.int .i64 s,.bool false,.bool false,.bool false] w fun x w'=>x=.returned (.agg #[.int .i64 n,.int .i64 wa,.int .i64 s,.int .i64 e,.bool false])/\Below w.heap.size w w':=by
 obtain⟨V,hV⟩:∃ V,(w.alloc (.cells #[.int .i64 0,.int .i64 0,.int .i64 0,.int .i64 0,.bool false] 71)).alloc (.cells #[.int .i64 n,.int .i64 wa,.int .i64 s,.int .i64 e] 3)=V:=⟨_,rfl⟩
 have HB:=hidB (show Below w.heap.size w V by rw[<-hV];exact below2 _ _ _)
 have HK0:Hid (V.heap[w.heap.size]?=some (.cells #[.int .i64 0,.int .i64 0,.int .i64 0,.int .i64 0,.bool false] 71 (0,0))):=(by rw[<-hV];exact alloc_old (alloc_at rfl):V.heap[w.heap.size]?=_)
 have HK1:Hid (V.heap[w.heap.size+1]?=some (.cells #[.int .i64 n,.int .i64 wa,.int .i64 s,.int .i64 e] 3 (0,0))):=(by rw[<-hV];exact alloc_at (by simp):V.heap[w.heap.size+1]?=_)
 have lV:w.heap.size+1<V.heap.size:=by rw[<-hV];simp
 have HV:=hid_of hV
 clear hV
 go_enter Try.func69,Try.ntmps69
 go_upto_region 22 with(fail)
 rw[HV.out]
 have c0:=block_cell (i:=0) HK1.out rfl
 have c1:=block_cell (i:=1) HK1.out rfl
 have c2:=block_cell (i:=2) HK1.out rfl
 have c3:=block_cell (i:=3) HK1.out rfl
 have r0:=block_cell (i:=0) HK0.out rfl
 have z0:=block_frozen (i:=0) HK0.out
 have r1:=block_cell (i:=1) HK0.out rfl
 have z1:=block_frozen (i:=1) HK0.out
 have r2:=block_cell (i:=2) HK0.out rfl
 have z2:=block_frozen (i:=2) HK0.out
 have r3:=block_cell (i:=3) HK0.out rfl
 have z3:=block_frozen (i:=3) HK0.out
 have r4:=block_cell (i:=4) HK0.out rfl
 have z4:=block_frozen (i:=4) HK0.out
 have lw:w.heap.size<V.heap.size:=by omega
 go_big_region
 go_wp2
 exact bodyPost_ret (res_laid (st5c _ _ _ _ _ HK0.out) rfl) rfl ⟨rfl,(HB.out.grown (st5g _ _ _ _ _ _ _) HB.out.size (fun q hq=>by have:=Option.some.inj hq;omega)).drew⟩
theorem laid_001 (e n wa s:Int) (w:World):
    Calls Try.prog 69 #[.int .i64 e,.int .i64 n,.int .i64 wa,.int .i64 s,.bool false,.bool false,.bool true] w fun x w'=>x=.returned (.agg #[.int .i64 wa,.int .i64 s,.int .i64 e,.int .i64 n,.bool true])/\Below w.heap.size w w':=by
 obtain⟨V,hV⟩:∃ V,(w.alloc (.cells #[.int .i64 0,.int .i64 0,.int .i64 0,.int .i64 0,.bool false] 71)).alloc (.cells #[.int .i64 wa,.int .i64 s,.int .i64 e,.int .i64 n] 3)=V:=⟨_,rfl⟩
 have HB:=hidB (show Below w.heap.size w V by rw[<-hV];exact below2 _ _ _)
 have HK0:Hid (V.heap[w.heap.size]?=some (.cells #[.int .i64 0,.int .i64 0,.int .i64 0,.int .i64 0,.bool false] 71 (0,0))):=(by rw[<-hV];exact alloc_old (alloc_at rfl):V.heap[w.heap.size]?=_)
 have HK1:Hid (V.heap[w.heap.size+1]?=some (.cells #[.int .i64 wa,.int .i64 s,.int .i64 e,.int .i64 n] 3 (0,0))):=(by rw[<-hV];exact alloc_at (by simp):V.heap[w.heap.size+1]?=_)
 have lV:w.heap.size+1<V.heap.size:=by rw[<-hV];simp
 have HV:=hid_of hV
 clear hV
 go_enter Try.func69,Try.ntmps69
 go_upto_region 22 with(fail)
 rw[HV.out]
 have c0:=block_cell (i:=0) HK1.out rfl
 have c1:=block_cell (i:=1) HK1.out rfl
 have c2:=block_cell (i:=2) HK1.out rfl
 have c3:=block_cell (i:=3) HK1.out rfl
 have r0:=block_cell (i:=0) HK0.out rfl
 have z0:=block_frozen (i:=0) HK0.out
 have r1:=block_cell (i:=1) HK0.out rfl
 have z1:=block_frozen (i:=1) HK0.out
 have r2:=block_cell (i:=2) HK0.out rfl
 have z2:=block_frozen (i:=2) HK0.out
 have r3:=block_cell (i:=3) HK0.out rfl
 have z3:=block_frozen (i:=3) HK0.out
 have r4:=block_cell (i:=4) HK0.out rfl
 have z4:=block_frozen (i:=4) HK0.out
 have lw:w.heap.size<V.heap.size:=by omega
 go_big_region
 go_wp2
 exact bodyPost_ret (res_laid (st5c _ _ _ _ _ HK0.out) rfl) rfl ⟨rfl,(HB.out.grown (st5g _ _ _ _ _ _ _) HB.out.size (fun q hq=>by have:=Option.some.inj hq;omega)).drew⟩
theorem laid_010 (e n wa s:Int) (w:World):
    Calls Try.prog 69 #[.int .i64 e,.int .i64 n,.int .i64 wa,.int .i64 s,.bool false,.bool true,.bool false] w fun x w'=>x=.returned (.agg #[.int .i64 n,.int .i64 wa,.int .i64 s,.int .i64 e,.bool true])/\Below w.heap.size w w':=by
 obtain⟨V,hV⟩:∃ V,(w.alloc (.cells #[.int .i64 0,.int .i64 0,.int .i64 0,.int .i64 0,.bool false] 71)).alloc (.cells #[.int .i64 n,.int .i64 wa,.int .i64 s,.int .i64 e] 3)=V:=⟨_,rfl⟩
 have HB:=hidB (show Below w.heap.size w V by rw[<-hV];exact below2 _ _ _)
 have HK0:Hid (V.heap[w.heap.size]?=some (.cells #[.int .i64 0,.int .i64 0,.int .i64 0,.int .i64 0,.bool false] 71 (0,0))):=(by rw[<-hV];exact alloc_old (alloc_at rfl):V.heap[w.heap.size]?=_)
 have HK1:Hid (V.heap[w.heap.size+1]?=some (.cells #[.int .i64 n,.int .i64 wa,.int .i64 s,.int .i64 e] 3 (0,0))):=(by rw[<-hV];exact alloc_at (by simp):V.heap[w.heap.size+1]?=_)
 have lV:w.heap.size+1<V.heap.size:=by rw[<-hV];simp
 have HV:=hid_of hV
 clear hV
 go_enter Try.func69,Try.ntmps69
 go_upto_region 22 with(fail)
 rw[HV.out]
 have c0:=block_cell (i:=0) HK1.out rfl
 have c1:=block_cell (i:=1) HK1.out rfl
 have c2:=block_cell (i:=2) HK1.out rfl
 have c3:=block_cell (i:=3) HK1.out rfl
 have r0:=block_cell (i:=0) HK0.out rfl
 have z0:=block_frozen (i:=0) HK0.out
 have r1:=block_cell (i:=1) HK0.out rfl
 have z1:=block_frozen (i:=1) HK0.out
 have r2:=block_cell (i:=2) HK0.out rfl
 have z2:=block_frozen (i:=2) HK0.out
 have r3:=block_cell (i:=3) HK0.out rfl
 have z3:=block_frozen (i:=3) HK0.out
 have r4:=block_cell (i:=4) HK0.out rfl
 have z4:=block_frozen (i:=4) HK0.out
 have lw:w.heap.size<V.heap.size:=by omega
 go_big_region
 go_wp2
 exact bodyPost_ret (res_laid (st5c _ _ _ _ _ HK0.out) rfl) rfl ⟨rfl,(HB.out.grown (st5g _ _ _ _ _ _ _) HB.out.size (fun q hq=>by have:=Option.some.inj hq;omega)).drew⟩
theorem laid_011 (e n wa s:Int) (w:World):
    Calls Try.prog 69 #[.int .i64 e,.int .i64 n,.int .i64 wa,.int .i64 s,.bool false,.bool true,.bool true] w fun x w'=>x=.returned (.agg #[.int .i64 e,.int .i64 n,.int .i64 wa,.int .i64 s,.bool false])/\Below w.heap.size w w':=by
 obtain⟨V,hV⟩:∃ V,(w.alloc (.cells #[.int .i64 0,.int .i64 0,.int .i64 0,.int .i64 0,.bool false] 71)).alloc (.cells #[.int .i64 e,.int .i64 n,.int .i64 wa,.int .i64 s] 3)=V:=⟨_,rfl⟩
 have HB:=hidB (show Below w.heap.size w V by rw[<-hV];exact below2 _ _ _)
 have HK0:Hid (V.heap[w.heap.size]?=some (.cells #[.int .i64 0,.int .i64 0,.int .i64 0,.int .i64 0,.bool false] 71 (0,0))):=(by rw[<-hV];exact alloc_old (alloc_at rfl):V.heap[w.heap.size]?=_)
 have HK1:Hid (V.heap[w.heap.size+1]?=some (.cells #[.int .i64 e,.int .i64 n,.int .i64 wa,.int .i64 s] 3 (0,0))):=(by rw[<-hV];exact alloc_at (by simp):V.heap[w.heap.size+1]?=_)
 have lV:w.heap.size+1<V.heap.size:=by rw[<-hV];simp
 have HV:=hid_of hV
 clear hV
 go_enter Try.func69,Try.ntmps69
 go_upto_region 22 with(fail)
 rw[HV.out]
 have c0:=block_cell (i:=0) HK1.out rfl
 have c1:=block_cell (i:=1) HK1.out rfl
 have c2:=block_cell (i:=2) HK1.out rfl
 have c3:=block_cell (i:=3) HK1.out rfl
 have r0:=block_cell (i:=0) HK0.out rfl
 have z0:=block_frozen (i:=0) HK0.out
 have r1:=block_cell (i:=1) HK0.out rfl
 have z1:=block_frozen (i:=1) HK0.out
 have r2:=block_cell (i:=2) HK0.out rfl
 have z2:=block_frozen (i:=2) HK0.out
 have r3:=block_cell (i:=3) HK0.out rfl
 have z3:=block_frozen (i:=3) HK0.out
 have r4:=block_cell (i:=4) HK0.out rfl
 have z4:=block_frozen (i:=4) HK0.out
 have lw:w.heap.size<V.heap.size:=by omega
 go_big_region
 go_wp2
 exact bodyPost_ret (res_laid (st5c _ _ _ _ _ HK0.out) rfl) rfl ⟨rfl,(HB.out.grown (st5g _ _ _ _ _ _ _) HB.out.size (fun q hq=>by have:=Option.some.inj hq;omega)).drew⟩
theorem laid_100 (e n wa s:Int) (w:World):
    Calls Try.prog 69 #[.int .i64 e,.int .i64 n,.int .i64 wa,.int .i64 s,.bool true,.bool false,.bool false] w fun x w'=>x=.returned (.agg #[.int .i64 s,.int .i64 e,.int .i64 n,.int .i64 wa,.bool true])/\Below w.heap.size w w':=by
 obtain⟨V,hV⟩:∃ V,(w.alloc (.cells #[.int .i64 0,.int .i64 0,.int .i64 0,.int .i64 0,.bool false] 71)).alloc (.cells #[.int .i64 s,.int .i64 e,.int .i64 n,.int .i64 wa] 3)=V:=⟨_,rfl⟩
 have HB:=hidB (show Below w.heap.size w V by rw[<-hV];exact below2 _ _ _)
 have HK0:Hid (V.heap[w.heap.size]?=some (.cells #[.int .i64 0,.int .i64 0,.int .i64 0,.int .i64 0,.bool false] 71 (0,0))):=(by rw[<-hV];exact alloc_old (alloc_at rfl):V.heap[w.heap.size]?=_)
 have HK1:Hid (V.heap[w.heap.size+1]?=some (.cells #[.int .i64 s,.int .i64 e,.int .i64 n,.int .i64 wa] 3 (0,0))):=(by rw[<-hV];exact alloc_at (by simp):V.heap[w.heap.size+1]?=_)
 have lV:w.heap.size+1<V.heap.size:=by rw[<-hV];simp
 have HV:=hid_of hV
 clear hV
 go_enter Try.func69,Try.ntmps69
 go_upto_region 22 with(fail)
 rw[HV.out]
 have c0:=block_cell (i:=0) HK1.out rfl
 have c1:=block_cell (i:=1) HK1.out rfl
 have c2:=block_cell (i:=2) HK1.out rfl
 have c3:=block_cell (i:=3) HK1.out rfl
 have r0:=block_cell (i:=0) HK0.out rfl
 have z0:=block_frozen (i:=0) HK0.out
 have r1:=block_cell (i:=1) HK0.out rfl
 have z1:=block_frozen (i:=1) HK0.out
 have r2:=block_cell (i:=2) HK0.out rfl
 have z2:=block_frozen (i:=2) HK0.out
 have r3:=block_cell (i:=3) HK0.out rfl
 have z3:=block_frozen (i:=3) HK0.out
 have r4:=block_cell (i:=4) HK0.out rfl
 have z4:=block_frozen (i:=4) HK0.out
 have lw:w.heap.size<V.heap.size:=by omega
 go_big_region
 go_wp2
 exact bodyPost_ret (res_laid (st5c _ _ _ _ _ HK0.out) rfl) rfl ⟨rfl,(HB.out.grown (st5g _ _ _ _ _ _ _) HB.out.size (fun q hq=>by have:=Option.some.inj hq;omega)).drew⟩
theorem laid_101 (e n wa s:Int) (w:World):
    Calls Try.prog 69 #[.int .i64 e,.int .i64 n,.int .i64 wa,.int .i64 s,.bool true,.bool false,.bool true] w fun x w'=>x=.returned (.agg #[.int .i64 wa,.int .i64 s,.int .i64 e,.int .i64 n,.bool false])/\Below w.heap.size w w':=by
 obtain⟨V,hV⟩:∃ V,(w.alloc (.cells #[.int .i64 0,.int .i64 0,.int .i64 0,.int .i64 0,.bool false] 71)).alloc (.cells #[.int .i64 wa,.int .i64 s,.int .i64 e,.int .i64 n] 3)=V:=⟨_,rfl⟩
 have HB:=hidB (show Below w.heap.size w V by rw[<-hV];exact below2 _ _ _)
 have HK0:Hid (V.heap[w.heap.size]?=some (.cells #[.int .i64 0,.int .i64 0,.int .i64 0,.int .i64 0,.bool false] 71 (0,0))):=(by rw[<-hV];exact alloc_old (alloc_at rfl):V.heap[w.heap.size]?=_)
 have HK1:Hid (V.heap[w.heap.size+1]?=some (.cells #[.int .i64 wa,.int .i64 s,.int .i64 e,.int .i64 n] 3 (0,0))):=(by rw[<-hV];exact alloc_at (by simp):V.heap[w.heap.size+1]?=_)
 have lV:w.heap.size+1<V.heap.size:=by rw[<-hV];simp
 have HV:=hid_of hV
 clear hV
 go_enter Try.func69,Try.ntmps69
 go_upto_region 22 with(fail)
 rw[HV.out]
 have c0:=block_cell (i:=0) HK1.out rfl
 have c1:=block_cell (i:=1) HK1.out rfl
 have c2:=block_cell (i:=2) HK1.out rfl
 have c3:=block_cell (i:=3) HK1.out rfl
 have r0:=block_cell (i:=0) HK0.out rfl
 have z0:=block_frozen (i:=0) HK0.out
 have r1:=block_cell (i:=1) HK0.out rfl
 have z1:=block_frozen (i:=1) HK0.out
 have r2:=block_cell (i:=2) HK0.out rfl
 have z2:=block_frozen (i:=2) HK0.out
 have r3:=block_cell (i:=3) HK0.out rfl
 have z3:=block_frozen (i:=3) HK0.out
 have r4:=block_cell (i:=4) HK0.out rfl
 have z4:=block_frozen (i:=4) HK0.out
 have lw:w.heap.size<V.heap.size:=by omega
 go_big_region
 go_wp2
 exact bodyPost_ret (res_laid (st5c _ _ _ _ _ HK0.out) rfl) rfl ⟨rfl,(HB.out.grown (st5g _ _ _ _ _ _ _) HB.out.size (fun q hq=>by have:=Option.some.inj hq;omega)).drew⟩
theorem laid_110 (e n wa s:Int) (w:World):
    Calls Try.prog 69 #[.int .i64 e,.int .i64 n,.int .i64 wa,.int .i64 s,.bool true,.bool true,.bool false] w fun x w'=>x=.returned (.agg #[.int .i64 s,.int .i64 e,.int .i64 n,.int .i64 wa,.bool false])/\Below w.heap.size w w':=by
 obtain⟨V,hV⟩:∃ V,(w.alloc (.cells #[.int .i64 0,.int .i64 0,.int .i64 0,.int .i64 0,.bool false] 71)).alloc (.cells #[.int .i64 s,.int .i64 e,.int .i64 n,.int .i64 wa] 3)=V:=⟨_,rfl⟩
 have HB:=hidB (show Below w.heap.size w V by rw[<-hV];exact below2 _ _ _)
 have HK0:Hid (V.heap[w.heap.size]?=some (.cells #[.int .i64 0,.int .i64 0,.int .i64 0,.int .i64 0,.bool false] 71 (0,0))):=(by rw[<-hV];exact alloc_old (alloc_at rfl):V.heap[w.heap.size]?=_)
 have HK1:Hid (V.heap[w.heap.size+1]?=some (.cells #[.int .i64 s,.int .i64 e,.int .i64 n,.int .i64 wa] 3 (0,0))):=(by rw[<-hV];exact alloc_at (by simp):V.heap[w.heap.size+1]?=_)
 have lV:w.heap.size+1<V.heap.size:=by rw[<-hV];simp
 have HV:=hid_of hV
 clear hV
 go_enter Try.func69,Try.ntmps69
 go_upto_region 22 with(fail)
 rw[HV.out]
 have c0:=block_cell (i:=0) HK1.out rfl
 have c1:=block_cell (i:=1) HK1.out rfl
 have c2:=block_cell (i:=2) HK1.out rfl
 have c3:=block_cell (i:=3) HK1.out rfl
 have r0:=block_cell (i:=0) HK0.out rfl
 have z0:=block_frozen (i:=0) HK0.out
 have r1:=block_cell (i:=1) HK0.out rfl
 have z1:=block_frozen (i:=1) HK0.out
 have r2:=block_cell (i:=2) HK0.out rfl
 have z2:=block_frozen (i:=2) HK0.out
 have r3:=block_cell (i:=3) HK0.out rfl
 have z3:=block_frozen (i:=3) HK0.out
 have r4:=block_cell (i:=4) HK0.out rfl
 have z4:=block_frozen (i:=4) HK0.out
 have lw:w.heap.size<V.heap.size:=by omega
 go_big_region
 go_wp2
 exact bodyPost_ret (res_laid (st5c _ _ _ _ _ HK0.out) rfl) rfl ⟨rfl,(HB.out.grown (st5g _ _ _ _ _ _ _) HB.out.size (fun q hq=>by have:=Option.some.inj hq;omega)).drew⟩
theorem laid_111 (e n wa s:Int) (w:World):
    Calls Try.prog 69 #[.int .i64 e,.int .i64 n,.int .i64 wa,.int .i64 s,.bool true,.bool true,.bool true] w fun x w'=>x=.returned (.agg #[.int .i64 e,.int .i64 n,.int .i64 wa,.int .i64 s,.bool true])/\Below w.heap.size w w':=by
 obtain⟨V,hV⟩:∃ V,(w.alloc (.cells #[.int .i64 0,.int .i64 0,.int .i64 0,.int .i64 0,.bool false] 71)).alloc (.cells #[.int .i64 e,.int .i64 n,.int .i64 wa,.int .i64 s] 3)=V:=⟨_,rfl⟩
 have HB:=hidB (show Below w.heap.size w V by rw[<-hV];exact below2 _ _ _)
 have HK0:Hid (V.heap[w.heap.size]?=some (.cells #[.int .i64 0,.int .i64 0,.int .i64 0,.int .i64 0,.bool false] 71 (0,0))):=(by rw[<-hV];exact alloc_old (alloc_at rfl):V.heap[w.heap.size]?=_)
 have HK1:Hid (V.heap[w.heap.size+1]?=some (.cells #[.int .i64 e,.int .i64 n,.int .i64 wa,.int .i64 s] 3 (0,0))):=(by rw[<-hV];exact alloc_at (by simp):V.heap[w.heap.size+1]?=_)
 have lV:w.heap.size+1<V.heap.size:=by rw[<-hV];simp
 have HV:=hid_of hV
 clear hV
 go_enter Try.func69,Try.ntmps69
 go_upto_region 22 with(fail)
 rw[HV.out]
 have c0:=block_cell (i:=0) HK1.out rfl
 have c1:=block_cell (i:=1) HK1.out rfl
 have c2:=block_cell (i:=2) HK1.out rfl
 have c3:=block_cell (i:=3) HK1.out rfl
 have r0:=block_cell (i:=0) HK0.out rfl
 have z0:=block_frozen (i:=0) HK0.out
 have r1:=block_cell (i:=1) HK0.out rfl
 have z1:=block_frozen (i:=1) HK0.out
 have r2:=block_cell (i:=2) HK0.out rfl
 have z2:=block_frozen (i:=2) HK0.out
 have r3:=block_cell (i:=3) HK0.out rfl
 have z3:=block_frozen (i:=3) HK0.out
 have r4:=block_cell (i:=4) HK0.out rfl
 have z4:=block_frozen (i:=4) HK0.out
 have lw:w.heap.size<V.heap.size:=by omega
 go_big_region
 go_wp2
 exact bodyPost_ret (res_laid (st5c _ _ _ _ _ HK0.out) rfl) rfl ⟨rfl,(HB.out.grown (st5g _ _ _ _ _ _ _) HB.out.size (fun q hq=>by have:=Option.some.inj hq;omega)).drew⟩
theorem laid_any (e n wa s:Int) (north west standing:Bool) (w:World):
    Calls Try.prog 69 #[.int .i64 e,.int .i64 n,.int .i64 wa,.int .i64 s,.bool north,.bool west,.bool standing] w fun x w'=>x=.returned (.agg #[.int .i64 (laidX e n wa s north west standing).a,.int .i64 (laidX e n wa s north west standing).b,.int .i64 (laidX e n wa s north west standing).c,.int .i64 (laidX e n wa s north west standing).d,.bool (laidX e n wa s north west standing).plus])/\Below w.heap.size w w':=by
 cases north<;>cases west<;>cases standing
 · exact laid_000 e n wa s w
 · exact laid_001 e n wa s w
 · exact laid_010 e n wa s w
 · exact laid_011 e n wa s w
 · exact laid_100 e n wa s w
 · exact laid_101 e n wa s w
 · exact laid_110 e n wa s w
 · exact laid_111 e n wa s w
end Go.Proofs.Ytagaajlbkfkaiaa
