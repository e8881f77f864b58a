/- The walk of ref.curlOf, where it refuses. Made by genme4.py. -/
import Derived.Test.YtagaajlbkfkaiaaME3
import Derived.Test.YtagaajlbkfkaiaaMV6P
namespace Go.Proofs.Ytagaajlbkfkaiaa
open Go.RowKit
set_option maxHeartbeats 4000000
set_option maxRecDepth 100000
theorem res_curl {W:World} {g:Nat} {a b:Value} {x:Int} {tm:Array Value} (h:W.heap[g]?=some (.cells #[a,b] 24 (0,0))) (h2:tm[4]?=some (.pointer (some ⟨g,0,none⟩))) (h3:tm[5]?=some (.int .i64 x)):(results Try.f33 tm).run Try.prog W=.ok (.tuple #[.agg #[a,b],.int .i64 x]) W:=by
 have e0:W.cell? ⟨g,0,none⟩=some a:=block_cell h rfl
 have e1:W.cell? ⟨g,1,none⟩=some b:=block_cell h rfl
 simp[results,Try.results33,go_sem,h2,h3,e0,e1]
theorem curlOf_no (a:Option Addr) (cap:Nat) (C:List Cr) (loops:Int) (k x y ua va:Int) (ub vb ov:Bool) (err:Int) (w:World) (hl:C.length<=16) (h:(err=3/\(y<0∨3<y∨x<0∨2*(C.length:Int)<x∨(x=0/\loops=0)))∨(err=2/\0<=y/\y<=3/\0<=x/\x<=2*(C.length:Int)/\¬(x=0/\loops=0)/\C.length=16)):
    Calls Try.prog 33 #[.agg #[.slice a C.length cap,.int .i64 loops],.agg #[.int .i64 k,.int .i64 x,.int .i64 y,.int .i64 ua,.bool ub,.int .i64 va,.bool vb,.bool ov]] w fun e w'=>e=.returned (.tuple #[.agg #[.slice none 0 0,.int .i64 0],.int .i64 err])/\Below w.heap.size w w':=by
 have _u:=hl
 clear _u
 obtain⟨V,hV⟩:∃ V,((w.alloc (.cells #[.slice a C.length cap,.int .i64 loops] 24)).alloc (.cells #[.int .i64 k,.int .i64 x,.int .i64 y,.int .i64 ua,.bool ub,.int .i64 va,.bool vb,.bool ov] 28)).alloc (.cells #[.slice none 0 0,.int .i64 0] 24)=V:=⟨_,rfl⟩
 have HB:=hidB (show Below w.heap.size w V by rw[<-hV];exact below3 _ _ _ _)
 have k0:V.heap[w.heap.size]?=some (.cells #[.slice a C.length cap,.int .i64 loops] 24 (0,0)):=by rw[<-hV];exact alloc_old (alloc_old (alloc_at rfl))
 have k1:V.heap[w.heap.size+1]?=some (.cells #[.int .i64 k,.int .i64 x,.int .i64 y,.int .i64 ua,.bool ub,.int .i64 va,.bool vb,.bool ov] 28 (0,0)):=by rw[<-hV];exact alloc_old (alloc_at (by simp))
 have k2:V.heap[w.heap.size+1+1]?=some (.cells #[.slice none 0 0,.int .i64 0] 24 (0,0)):=by rw[<-hV];exact alloc_at (by simp)
 have hs:w.heap.size+3<=V.heap.size:=by rw[<-hV];simp
 have HV:=hid_of hV
 clear hV
 have b0:=block_cell (i:=0) k0 rfl
 have b1:=block_cell (i:=1) k0 rfl
 have m1:=block_cell (i:=1) k1 rfl
 have m2:=block_cell (i:=2) k1 rfl
 have r0:=block_cell (i:=0) k2 rfl
 have r1:=block_cell (i:=1) k2 rfl
 have f0:=block_frozen (i:=0) k2
 have f1:=block_frozen (i:=1) k2
 have HK2:=hid_of k2
 have lz:w.heap.size+1+1<V.heap.size:=by omega
 clear k0 k1 k2
 have hf:(err=3/\decide (y<0)=true)∨(err=3/\decide (y<0)=false/\decide (3<y)=true)∨(err=3/\decide (y<0)=false/\decide (3<y)=false/\decide (x<0)=true)∨(err=3/\decide (y<0)=false/\decide (3<y)=false/\decide (x<0)=false/\decide (2*(C.length:Int)<x)=true)∨(err=3/\decide (y<0)=false/\decide (3<y)=false/\decide (x<0)=false/\decide (2*(C.length:Int)<x)=false/\(x==0)=true/\(loops==0)=true)∨(err=2/\decide (y<0)=false/\decide (3<y)=false/\decide (x<0)=false/\decide (2*(C.length:Int)<x)=false/\(x==0)=false/\((C.length:Int)==16)=true)∨(err=2/\decide (y<0)=false/\decide (3<y)=false/\decide (x<0)=false/\decide (2*(C.length:Int)<x)=false/\(x==0)=true/\(loops==0)=false/\((C.length:Int)==16)=true):=by
  simp only[decide_eq_true_eq,decide_eq_false_iff_not,beq_iff_eq,beq_eq_false_iff_ne,ne_eq]
  omega
 clear h
 rcases hf with⟨rfl,t0⟩|⟨rfl,t0,t1⟩|⟨rfl,t0,t1,t2⟩|⟨rfl,t0,t1,t2,t3⟩|⟨rfl,t0,t1,t2,t3,t4,t5⟩|⟨rfl,t0,t1,t2,t3,t4,t5⟩|⟨rfl,t0,t1,t2,t3,t4,t5,t6⟩
 all_goals
  go_enter Try.func33,Try.ntmps33
  go_upto_region 1 with(fail)
  rw[HV.out]
  go_wp2
  exact bodyPost_ret (res_curl (set_block (set_block HK2.out)) rfl rfl) rfl ⟨rfl,HB.out.grown (st2_grown _ _ _ _ _) (by omega) (fun q hq=>by have:=Option.some.inj hq;omega)⟩
end Go.Proofs.Ytagaajlbkfkaiaa
