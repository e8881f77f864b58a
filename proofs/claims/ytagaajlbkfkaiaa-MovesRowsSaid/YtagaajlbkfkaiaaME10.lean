/- The walk of ref.pushOf. Made by genme10.py. -/
import Derived.Test.YtagaajlbkfkaiaaTkhP
import Derived.Test.YtagaajlbkfkaiaaME6P
import Derived.Test.YtagaajlbkfkaiaaME8
import Derived.Test.YtagaajlbkfkaiaaME9
import Derived.Test.YtagaajlbkfkaiaaMV9b
namespace Go.Proofs.Ytagaajlbkfkaiaa
open Go.RowKit
set_option maxHeartbeats 8000000
set_option maxRecDepth 100000
theorem res_push {W:World} {g:Nat} {a b:Value} {x:Int} {tm:Array Value} (h:W.heap[g]?=some (.cells #[a,b] 24 (0,0))) (h2:tm[4]?=some (.pointer (some ⟨g,0,none⟩))) (h3:tm[5]?=some (.int .i64 x)):(results Try.f37 tm).run Try.prog W=.ok (.tuple #[.agg #[a,b],.int .i64 x]) W:=by
 have e0:W.cell? ⟨g,0,none⟩=some a:=block_cell h rfl
 have e1:W.cell? ⟨g,1,none⟩=some b:=block_cell h rfl
 simp[results,Try.results37,go_sem,h2,h3,e0,e1]
theorem cutIn_any (B b off cap g c:Nat) (C D:List Cr) (loops lo:Int) (x:Nat) (f:Int) (bk:Bool) (w:World) (hm:mayD C loops=true) (hx1:1<=x) (hx2:x<=2*C.length) (hf:0<=f/\f<=1000) (hbw:b<w.heap.size) (hC:CrossAt w b off C) (hDC:D.length=C.length) (ho:w.ownsRow B 71 5 (.slice (some ⟨g,0,none⟩) D.length c) D.length (crossCells D)):
    Calls Try.prog 68 #[.agg #[.slice (some ⟨b,off,none⟩) C.length cap,.int .i64 loops],.agg #[.slice (some ⟨g,0,none⟩) D.length c,.int .i64 lo],.agg #[.int .i64 (x:Nat),.bool bk],.int .i64 f] w fun e w'=>e=.returned (.tuple #[.int .i64 (if bk then f+1 else(x:Int)),.int .i64 f,.int .i64 (if bk then(x:Int) else f+1)])/\w'.ownsRow B 71 5 (.slice (some ⟨g,0,none⟩) D.length c) D.length (crossCells (setL D (toC C x) (toS C x) (f+1)))/\w.grownBy w' (some g):=by
 cases bk with
 |false=>exact cutIn_false B b off cap g c C D loops lo x f w hm hx1 hx2 hf hbw hC hDC ho
 |true=>exact cutIn_true B b off cap g c C D loops lo x f w hm hx1 hx2 hf hbw hC hDC ho
theorem pushOf_no (a:Option Addr) (cap:Nat) (C:List Cr) (loops:Int) (k x y ua va:Int) (ub vb ov:Bool) (err:Int) (w:World) (hm:mayD C loops=true) (hD:CrsW w w.heap.size (.slice a C.length cap) C) (h:(err=3/\(ua<1∨2*(C.length:Int)<ua∨va<1∨2*(C.length:Int)<va))∨(err=8/\1<=ua/\ua<=2*(C.length:Int)/\1<=va/\va<=2*(C.length:Int)/\ua=va)):
    Calls Try.prog 37 #[.agg #[.slice a C.length cap,.int .i64 loops],.agg #[.int .i64 k,.int .i64 x,.int .i64 y,.int .i64 ua,.bool ub,.int .i64 va,.bool vb,.bool ov]] w fun e w'=>e=.returned (.tuple #[.agg #[.slice none 0 0,.int .i64 0],.int .i64 err])/\Below w.heap.size w w':=by
 have hl:C.length<=16:=may_len hm
 obtain⟨V,hV⟩:∃ V,((w.alloc (.cells #[.slice a C.length cap,.int .i64 loops] 24)).alloc (.cells #[.int .i64 k,.int .i64 x,.int .i64 y,.int .i64 ua,.bool ub,.int .i64 va,.bool vb,.bool ov] 28)).alloc (.cells #[.slice none 0 0,.int .i64 0] 24)=V:=⟨_,rfl⟩
 have HB:=hidB (show Below w.heap.size w V by rw[<-hV];exact below3 _ _ _ _)
 have k0:V.heap[w.heap.size]?=some (.cells #[.slice a C.length cap,.int .i64 loops] 24 (0,0)):=by rw[<-hV];exact alloc_old (alloc_old (alloc_at rfl))
 have k1:V.heap[w.heap.size+1]?=some (.cells #[.int .i64 k,.int .i64 x,.int .i64 y,.int .i64 ua,.bool ub,.int .i64 va,.bool vb,.bool ov] 28 (0,0)):=by rw[<-hV];exact alloc_old (alloc_at (by simp))
 have k2:V.heap[w.heap.size+1+1]?=some (.cells #[.slice none 0 0,.int .i64 0] 24 (0,0)):=by rw[<-hV];exact alloc_at (by simp)
 have hs:w.heap.size+3<=V.heap.size:=by rw[<-hV];simp
 have HV:=hid_of hV
 clear hV
 have HK0:=hid_of k0
 have HK1:=hid_of k1
 have HK2:=hid_of k2
 have HCW:Hid (∀ W,Below w.heap.size w W->CrsW W W.heap.size (.slice a C.length cap) C):=fun W hW=>hD.up hW
 clear k0 k1 k2 hD
 have b0:=block_cell (i:=0) HK0.out rfl
 have b1:=block_cell (i:=1) HK0.out rfl
 have m3:=block_cell (i:=3) HK1.out rfl
 have m4:=block_cell (i:=4) HK1.out rfl
 have m5:=block_cell (i:=5) HK1.out rfl
 have m6:=block_cell (i:=6) HK1.out rfl
 have m7:=block_cell (i:=7) HK1.out rfl
 have r0:=block_cell (i:=0) HK2.out rfl
 have r1:=block_cell (i:=1) HK2.out rfl
 have f0:=block_frozen (i:=0) HK2.out
 have f1:=block_frozen (i:=1) HK2.out
 have lz:w.heap.size+1+1<V.heap.size:=by omega
 have ly:w.heap.size+1<V.heap.size:=by omega
 have lx:w.heap.size<V.heap.size:=by omega
 have hf:(err=3/\decide (ua<1)=true)∨(err=3/\decide (ua<1)=false/\decide (2*(C.length:Int)<ua)=true)∨(err=3/\decide (ua<1)=false/\decide (2*(C.length:Int)<ua)=false/\decide (va<1)=true)∨(err=3/\decide (ua<1)=false/\decide (2*(C.length:Int)<ua)=false/\decide (va<1)=false/\decide (2*(C.length:Int)<va)=true)∨(err=8/\decide (ua<1)=false/\decide (2*(C.length:Int)<ua)=false/\decide (va<1)=false/\decide (2*(C.length:Int)<va)=false/\(ua==va)=true):=by
  simp only[decide_eq_true_eq,decide_eq_false_iff_not,beq_iff_eq]
  omega
 clear h
 rcases hf with⟨rfl,t0⟩|⟨rfl,t0,t1⟩|⟨rfl,t0,t1,t2⟩|⟨rfl,t0,t1,t2,t3⟩|⟨rfl,t0,t1,t2,t3,t4⟩
 all_goals
  go_enter Try.func37,Try.ntmps37
  go_upto_region 1 with(fail)
  rw[HV.out]
  go_wp2
  exact bodyPost_ret (res_push (set_block (set_block HK2.out)) rfl rfl) rfl ⟨rfl,HB.out.grown (st2_grown _ _ _ _ _) (by omega) (fun q hq=>by have:=Option.some.inj hq;omega)⟩
def pushR (C:List Cr) (un:Nat) (ub:Bool) (vn:Nat) (vb ov:Bool):List Cr:=
 setL (setL C (toC C un) (toS C un) (2*(C.length:Int)+1+1)) (toC C vn) (toS C vn) (2*(C.length:Int)+3+1)++[laidX (2*(C.length:Int)+3) (2*(C.length:Int)+1) (if vb then(vn:Int) else 2*(C.length:Int)+3+1) (if ub then 2*(C.length:Int)+1+1 else(un:Int)) (!ub) (!vb) ov]++[laidX (if vb then 2*(C.length:Int)+3+1 else(vn:Int)) (2*(C.length:Int)+1) (2*(C.length:Int)+3) (if ub then(un:Int) else 2*(C.length:Int)+1+1) ub (!vb) ov]
theorem pushOf_off (a:Option Addr) (cap:Nat) (C:List Cr) (loops:Int) (k x y:Int) (un vn:Nat) (ub vb ov:Bool) (bo:Bool) (err:Int) (w:World) (hm:mayD C loops=true) (hD:CrsW w w.heap.size (.slice a C.length cap) C) (hu1:1<=un) (hu2:un<=2*C.length) (hv1:1<=vn) (hv2:vn<=2*C.length) (hne:un≠vn) (hf:ofB C (mkD un ub) (mkD vn vb)=bo) (hbe:(bo=false/\err=8)∨(bo=true/\err=2/\¬ C.length+2<=16)):
    Calls Try.prog 37 #[.agg #[.slice a C.length cap,.int .i64 loops],.agg #[.int .i64 k,.int .i64 x,.int .i64 y,.int .i64 (un:Nat),.bool ub,.int .i64 (vn:Nat),.bool vb,.bool ov]] w fun e w'=>e=.returned (.tuple #[.agg #[.slice none 0 0,.int .i64 0],.int .i64 err])/\Below w.heap.size w w':=by
 have hl:C.length<=16:=may_len hm
 obtain⟨V,hV⟩:∃ V,((w.alloc (.cells #[.slice a C.length cap,.int .i64 loops] 24)).alloc (.cells #[.int .i64 k,.int .i64 x,.int .i64 y,.int .i64 (un:Nat),.bool ub,.int .i64 (vn:Nat),.bool vb,.bool ov] 28)).alloc (.cells #[.slice none 0 0,.int .i64 0] 24)=V:=⟨_,rfl⟩
 have HB:=hidB (show Below w.heap.size w V by rw[<-hV];exact below3 _ _ _ _)
 have k0:V.heap[w.heap.size]?=some (.cells #[.slice a C.length cap,.int .i64 loops] 24 (0,0)):=by rw[<-hV];exact alloc_old (alloc_old (alloc_at rfl))
 have k1:V.heap[w.heap.size+1]?=some (.cells #[.int .i64 k,.int .i64 x,.int .i64 y,.int .i64 (un:Nat),.bool ub,.int .i64 (vn:Nat),.bool vb,.bool ov] 28 (0,0)):=by rw[<-hV];exact alloc_old (alloc_at (by simp))
 have k2:V.heap[w.heap.size+1+1]?=some (.cells #[.slice none 0 0,.int .i64 0] 24 (0,0)):=by rw[<-hV];exact alloc_at (by simp)
 have hs:w.heap.size+3<=V.heap.size:=by rw[<-hV];simp
 have HV:=hid_of hV
 clear hV
 have HK0:=hid_of k0
 have HK1:=hid_of k1
 have HK2:=hid_of k2
 have HCW:Hid (∀ W,Below w.heap.size w W->CrsW W W.heap.size (.slice a C.length cap) C):=fun W hW=>hD.up hW
 clear k0 k1 k2 hD
 obtain⟨b,off,ea,hbw,hC⟩:∃ b off,a=some ⟨b,off,none⟩/\b<w.heap.size/\CrossAt w b off C:=by
  rcases HCW.out w (Below.refl _ _) with⟨h1,h2⟩|⟨ad,cp,h1,h2⟩|⟨b,off,cp,h1,h2,h3⟩
  · rw[h2]at hu2;simp at hu2;omega
  · rw[h2]at hu2;simp at hu2;omega
  · injection h1 with h4;exact⟨b,off,h4,h2,h3⟩
 subst ea
 have HC:=hid_of hC
 have HM:=hid_of hm
 have HOF:Hid (∀ W,Below w.heap.size w W->Calls Try.prog 67 #[.agg #[.slice (some ⟨b,off,none⟩) C.length cap,.int .i64 loops],.agg #[.int .i64 (un:Nat),.bool ub],.agg #[.int .i64 (vn:Nat),.bool vb]] W fun e w'=>e=.returned (.bool bo)/\Below W.heap.size W w'):=fun W hW=>by
  have h:=refOnOneFace_any b off cap C loops (mkD un ub) (mkD vn vb) W hm (mk_le (p:=ub) hu1 hu2).1 (mk_le (p:=vb) hv1 hv2).1 (Nat.lt_of_lt_of_le hbw hW.size) (hC.on hW hbw)
  rw[dA_mk hu1,dB_mk hu1,dA_mk hv1,dB_mk hv1,hf]at h
  exact h
 have b0:=block_cell (i:=0) HK0.out rfl
 have b1:=block_cell (i:=1) HK0.out rfl
 have m3:=block_cell (i:=3) HK1.out rfl
 have m4:=block_cell (i:=4) HK1.out rfl
 have m5:=block_cell (i:=5) HK1.out rfl
 have m6:=block_cell (i:=6) HK1.out rfl
 have m7:=block_cell (i:=7) HK1.out rfl
 have r0:=block_cell (i:=0) HK2.out rfl
 have r1:=block_cell (i:=1) HK2.out rfl
 have f0:=block_frozen (i:=0) HK2.out
 have f1:=block_frozen (i:=1) HK2.out
 have lz:w.heap.size+1+1<V.heap.size:=by omega
 have ly:w.heap.size+1<V.heap.size:=by omega
 have lx:w.heap.size<V.heap.size:=by omega
 have t0:decide ((un:Int)<1)=false:=decide_eq_false (by omega)
 have t1:decide (2*(C.length:Int)<(un:Int))=false:=decide_eq_false (by omega)
 have t2:decide ((vn:Int)<1)=false:=decide_eq_false (by omega)
 have t3:decide (2*(C.length:Int)<(vn:Int))=false:=decide_eq_false (by omega)
 have t4:((un:Int)==(vn:Int))=false:=beq_eq_false_iff_ne.2 (by omega)
 have hf9:(bo=false/\err=8)∨(bo=true/\err=2/\decide ((16:Int)<(C.length:Int)+2)=true):=by
  simp only[decide_eq_true_eq]
  rcases hbe with h|h
  · exact Or.inl h
  · exact Or.inr ⟨h.1,h.2.1,by omega⟩
 clear hbe
 rcases hf9 with⟨rfl,rfl⟩|⟨rfl,rfl,t9⟩
 all_goals
  clear hC hm hf
  go_enter Try.func37,Try.ntmps37
  go_upto_region 1 with(fail)
  rw[HV.out]
  go_wp2_with (go_at_call 67;refine(HOF.out _ HB.out).mono ?_;rintro e9 w2 ⟨rfl,hb2⟩
               have HB2:=hid_of hb2
               have hs2:=hb2.size
               clear b0 b1 m3 m4 m5 m6 m7 r0 r1 f0 f1 lz ly lx
               have q0:=(hb2.block w.heap.size (by omega)).trans HK0.out
               have q1:=(hb2.block (w.heap.size+1) (by omega)).trans HK1.out
               have q2:=(hb2.block (w.heap.size+1+1) (by omega)).trans HK2.out
               have b0:=block_cell (i:=0) q0 rfl
               have b1:=block_cell (i:=1) q0 rfl
               have m3:=block_cell (i:=3) q1 rfl
               have m4:=block_cell (i:=4) q1 rfl
               have m5:=block_cell (i:=5) q1 rfl
               have m6:=block_cell (i:=6) q1 rfl
               have m7:=block_cell (i:=7) q1 rfl
               have r0:=block_cell (i:=0) q2 rfl
               have r1:=block_cell (i:=1) q2 rfl
               have f0:=block_frozen (i:=0) q2
               have f1:=block_frozen (i:=1) q2
               have lz:w.heap.size+1+1<w2.heap.size:=by omega
               have ly:w.heap.size+1<w2.heap.size:=by omega
               have lx:w.heap.size<w2.heap.size:=by omega
               have HQ0:=hid_of q0
               have HQ1:=hid_of q1
               have HQ2:=hid_of q2
               clear q0 q1 q2 hb2)
  exact bodyPost_ret (res_push (set_block (set_block HQ2.out)) rfl rfl) rfl ⟨rfl,(HB.out.trans (HB2.out.mono (by omega))).grown (st2_grown _ _ _ _ _) (by have:=HB.out.size;omega) (fun q hq=>by have:=Option.some.inj hq;omega)⟩
theorem pushOf_yes (a:Option Addr) (cap:Nat) (C:List Cr) (loops:Int) (k x y:Int) (un vn:Nat) (ub vb ov:Bool) (w:World) (hm:mayD C loops=true) (hD:CrsW w w.heap.size (.slice a C.length cap) C) (hu1:1<=un) (hu2:un<=2*C.length) (hv1:1<=vn) (hv2:vn<=2*C.length) (hne:un≠vn) (hf:ofB C (mkD un ub) (mkD vn vb)=true) (hn:C.length+2<=16):
    Calls Try.prog 37 #[.agg #[.slice a C.length cap, .int .i64 loops], .agg #[.int .i64 k, .int .i64 x, .int .i64 y, .int .i64 (un : Nat), .bool ub, .int .i64 (vn : Nat), .bool vb, .bool ov]] w fun e w' => ∃ a' c', e = .returned (.tuple #[.agg #[.slice a' (C.length + 2) c', .int .i64 loops], .int .i64 0]) ∧ w'.ownsRow w.heap.size 71 5 (.slice a' (C.length + 2) c') (C.length + 2) (crossCells (pushR C un ub vn vb ov)) ∧ Below w.heap.size w w' := by
 have hl:C.length<=16:=may_len hm
 obtain⟨V,hV⟩:∃ V,((w.alloc (.cells #[.slice a C.length cap,.int .i64 loops] 24)).alloc (.cells #[.int .i64 k,.int .i64 x,.int .i64 y,.int .i64 (un:Nat),.bool ub,.int .i64 (vn:Nat),.bool vb,.bool ov] 28)).alloc (.cells #[.slice none 0 0,.int .i64 0] 24)=V:=⟨_,rfl⟩
 have HB:Hid (Below w.heap.size w V):=(by rw[<-hV];exact below3 _ _ _ _:Below w.heap.size w V)
 have k0:V.heap[w.heap.size]?=some (.cells #[.slice a C.length cap,.int .i64 loops] 24 (0,0)):=by rw[<-hV];exact alloc_old (alloc_old (alloc_at rfl))
 have k1:V.heap[w.heap.size+1]?=some (.cells #[.int .i64 k,.int .i64 x,.int .i64 y,.int .i64 (un:Nat),.bool ub,.int .i64 (vn:Nat),.bool vb,.bool ov] 28 (0,0)):=by rw[<-hV];exact alloc_old (alloc_at (by simp))
 have k2:V.heap[w.heap.size+1+1]?=some (.cells #[.slice none 0 0,.int .i64 0] 24 (0,0)):=by rw[<-hV];exact alloc_at (by simp)
 have hs:w.heap.size+3<=V.heap.size:=by rw[<-hV];simp
 have HV:=hid_of hV
 clear hV
 have HK0:=hid_of k0
 have HK1:=hid_of k1
 have HK2:=hid_of k2
 have HCW:Hid (∀ W,Below w.heap.size w W->CrsW W W.heap.size (.slice a C.length cap) C):=fun W hW=>hD.up hW
 clear k0 k1 k2 hD
 obtain⟨b,off,ea,hbw,hC⟩:∃ b off,a=some ⟨b,off,none⟩/\b<w.heap.size/\CrossAt w b off C:=by
  rcases HCW.out w (Below.refl _ _) with⟨h1,h2⟩|⟨ad,cp,h1,h2⟩|⟨b,off,cp,h1,h2,h3⟩
  · rw[h2]at hu2;simp at hu2;omega
  · rw[h2]at hu2;simp at hu2;omega
  · injection h1 with h4;exact⟨b,off,h4,h2,h3⟩
 subst ea
 have HC:=hid_of hC
 have HM:=hid_of hm
 have HOF:Hid (∀ W,Below w.heap.size w W->Calls Try.prog 67 #[.agg #[.slice (some ⟨b,off,none⟩) C.length cap,.int .i64 loops],.agg #[.int .i64 (un:Nat),.bool ub],.agg #[.int .i64 (vn:Nat),.bool vb]] W fun e w'=>e=.returned (.bool true)/\Below W.heap.size W w'):=fun W hW=>by
  have h:=refOnOneFace_any b off cap C loops (mkD un ub) (mkD vn vb) W hm (mk_le (p:=ub) hu1 hu2).1 (mk_le (p:=vb) hv1 hv2).1 (Nat.lt_of_lt_of_le hbw hW.size) (hC.on hW hbw)
  rw[dA_mk hu1,dB_mk hu1,dA_mk hv1,dB_mk hv1,hf]at h
  exact h
 have b0:V.cell? ⟨w.heap.size,0,none⟩=some (.slice (some ⟨b,off,none⟩) C.length cap):=block_cell HK0.out rfl
 have b1:V.cell? ⟨w.heap.size,1,none⟩=some (.int .i64 loops):=block_cell HK0.out rfl
 have m3:V.cell? ⟨w.heap.size+1,3,none⟩=some (.int .i64 (un:Nat)):=block_cell HK1.out rfl
 have m4:V.cell? ⟨w.heap.size+1,4,none⟩=some (.bool ub):=block_cell HK1.out rfl
 have m5:V.cell? ⟨w.heap.size+1,5,none⟩=some (.int .i64 (vn:Nat)):=block_cell HK1.out rfl
 have m6:V.cell? ⟨w.heap.size+1,6,none⟩=some (.bool vb):=block_cell HK1.out rfl
 have m7:V.cell? ⟨w.heap.size+1,7,none⟩=some (.bool ov):=block_cell HK1.out rfl
 have r0:V.cell? ⟨w.heap.size+1+1,0,none⟩=some (.slice none 0 0):=block_cell HK2.out rfl
 have r1:V.cell? ⟨w.heap.size+1+1,1,none⟩=some (.int .i64 0):=block_cell HK2.out rfl
 have f0:V.frozen? ⟨w.heap.size+1+1,0,none⟩=false:=block_frozen HK2.out
 have f1:V.frozen? ⟨w.heap.size+1+1,1,none⟩=false:=block_frozen HK2.out
 have lz:w.heap.size+1+1<V.heap.size:=by omega
 have ly:w.heap.size+1<V.heap.size:=by omega
 have lx:w.heap.size<V.heap.size:=by omega
 have t0:decide ((un:Int)<1)=false:=decide_eq_false (by omega)
 have t1:decide (2*(C.length:Int)<(un:Int))=false:=decide_eq_false (by omega)
 have t2:decide ((vn:Int)<1)=false:=decide_eq_false (by omega)
 have t3:decide (2*(C.length:Int)<(vn:Int))=false:=decide_eq_false (by omega)
 have t4:((un:Int)==(vn:Int))=false:=beq_eq_false_iff_ne.2 (by omega)
 have t9:decide ((16:Int)<(C.length:Int)+2)=false:=decide_eq_false (by omega)
 clear hC hm hf
 go_enter Try.func37,Try.ntmps37
 go_upto_region 1 with(fail)
 rw[HV.out]
 go_upto_region 8 with (go_at_call 67; refine (HOF.out _ HB.out).mono ?_; rintro e9 w2 ⟨rfl, hb2⟩
                        have HB2:=hid_of hb2
                        have hs2:=hb2.size
                        clear b0 b1 m3 m4 m5 m6 m7 r0 r1 f0 f1 lz ly lx
                        have q0:=(hb2.block w.heap.size (by omega)).trans HK0.out
                        have q1:=(hb2.block (w.heap.size+1) (by omega)).trans HK1.out
                        have q2:=(hb2.block (w.heap.size+1+1) (by omega)).trans HK2.out
                        have b0:w2.cell? ⟨w.heap.size,0,none⟩=some (.slice (some ⟨b,off,none⟩) C.length cap):=block_cell q0 rfl
                        have b1:w2.cell? ⟨w.heap.size,1,none⟩=some (.int .i64 loops):=block_cell q0 rfl
                        have m3:w2.cell? ⟨w.heap.size+1,3,none⟩=some (.int .i64 (un:Nat)):=block_cell q1 rfl
                        have m4:w2.cell? ⟨w.heap.size+1,4,none⟩=some (.bool ub):=block_cell q1 rfl
                        have m5:w2.cell? ⟨w.heap.size+1,5,none⟩=some (.int .i64 (vn:Nat)):=block_cell q1 rfl
                        have m6:w2.cell? ⟨w.heap.size+1,6,none⟩=some (.bool vb):=block_cell q1 rfl
                        have m7:w2.cell? ⟨w.heap.size+1,7,none⟩=some (.bool ov):=block_cell q1 rfl
                        have r0:w2.cell? ⟨w.heap.size+1+1,0,none⟩=some (.slice none 0 0):=block_cell q2 rfl
                        have r1:w2.cell? ⟨w.heap.size+1+1,1,none⟩=some (.int .i64 0):=block_cell q2 rfl
                        have f0:w2.frozen? ⟨w.heap.size+1+1,0,none⟩=false:=block_frozen q2
                        have f1:w2.frozen? ⟨w.heap.size+1+1,1,none⟩=false:=block_frozen q2
                        have lz:w.heap.size+1+1<w2.heap.size:=by omega
                        have ly:w.heap.size+1<w2.heap.size:=by omega
                        have lx:w.heap.size<w2.heap.size:=by omega
                        have HQ0:=hid_of q0
                        have HQ1:=hid_of q1
                        have HQ2:=hid_of q2
                        clear q0 q1 q2 hb2)
 have HWB:Hid (Below w.heap.size w w2):=HB.out.trans (HB2.out.mono (by omega))
 go_wp2_with (go_at_call 10;refine(diagramOf_ownW _ C loops _ (by omega) (HCW.out _ HWB.out)).mono ?_;rintro e9 w3 ⟨v3,rfl,hr3,hb3⟩;refine Hid.out ?_)
 refine Lib.hid ?_
 obtain⟨g,cc,ev⟩:=own_block'' hr3 (by omega)
 subst ev
 have hg:=hr3.lt g rfl
 have HB3:=hid_of hb3
 have HO3:=hid_of hr3
 have hs3:=hb3.size
 clear hr3 hb3 b0 b1 m3 m4 m5 m6 m7 r0 r1 f0 f1 lz ly lx
 obtain⟨X,hX⟩:∃ X,w3.alloc (.cells #[.slice (some ⟨g,0,none⟩) C.length cc,.int .i64 loops] 24)=X:=⟨_,rfl⟩
 have HX:=hid_of hX
 have HBX:Hid (Below w3.heap.size w3 X):=(by rw[<-hX];exact(Below.refl _ _).alloc (Nat.le_refl _) _:Below w3.heap.size w3 X)
 have HKX:Hid (X.heap[w3.heap.size]?=some (.cells #[.slice (some ⟨g,0,none⟩) C.length cc,.int .i64 loops] 24 (0,0))):=(by rw[<-hX];exact alloc_at rfl:X.heap[w3.heap.size]?=_)
 have hsX:w3.heap.size+1<=X.heap.size:=by rw[<-hX];simp
 clear hX
 have H2X:Hid (Below w2.heap.size w2 X):=HB3.out.trans (HBX.out.mono hs3)
 have HWX:Hid (Below w.heap.size w X):=HWB.out.trans (H2X.out.mono HWB.out.size)
 have HOX:Hid (X.ownsRow w2.heap.size 71 5 (.slice (some ⟨g,0,none⟩) C.length cc) C.length (crossCells C)):=own_any HO3.out (grown_below HBX.out none)
 have HQX:Hid (∀ W,X.grownBy W (some g)->W.heap[w.heap.size]?=some (.cells #[.slice (some ⟨b,off,none⟩) C.length cap,.int .i64 loops] 24 (0,0))/\W.heap[w.heap.size+1]?=some (.cells #[.int .i64 k,.int .i64 x,.int .i64 y,.int .i64 (un:Nat),.bool ub,.int .i64 (vn:Nat),.bool vb,.bool ov] 28 (0,0))/\W.heap[w.heap.size+1+1]?=some (.cells #[.slice none 0 0,.int .i64 0] 24 (0,0))/\W.heap[w3.heap.size]?=some (.cells #[.slice (some ⟨g,0,none⟩) C.length cc,.int .i64 loops] 24 (0,0))/\b<W.heap.size/\CrossAt W b off C):=fun W hW=>by
  have hbl:∀ q,q<w2.heap.size->W.heap[q]?=w2.heap[q]?:=fun q hq=>(hW.block q (by omega) (fun e=>by have:=Option.some.inj e;omega)).trans (H2X.out.block q hq)
  have hWW:Below w.heap.size w W:=HWX.out.grown hW HWX.out.size (fun q hq=>by have:=Option.some.inj hq;have:=HWB.out.size;omega)
  exact⟨(hbl _ (by omega)).trans HQ0.out,(hbl _ (by omega)).trans HQ1.out,(hbl _ (by omega)).trans HQ2.out,(hW.block w3.heap.size (by omega) (fun e=>by have:=Option.some.inj e;omega)).trans HKX.out,Nat.lt_of_lt_of_le hbw hWW.size,HC.out.on hWW hbw⟩
 obtain⟨D1,hD1⟩:∃ D,setL C (toC C un) (toS C un) (2*(C.length:Int)+1+1)=D:=⟨_,rfl⟩
 obtain⟨D2,hD2⟩:∃ D,setL D1 (toC C vn) (toS C vn) (2*(C.length:Int)+3+1)=D:=⟨_,rfl⟩
 have hl1:D1.length=C.length:=by rw[<-hD1,setL_len]
 have hl2:D2.length=C.length:=by rw[<-hD2,setL_len,hl1]
 have HCU:Hid (∀ W,X.grownBy W (some g)->W.ownsRow w2.heap.size 71 5 (.slice (some ⟨g,0,none⟩) C.length cc) C.length (crossCells C)->Calls Try.prog 68 #[.agg #[.slice (some ⟨b,off,none⟩) C.length cap,.int .i64 loops],.agg #[.slice (some ⟨g,0,none⟩) C.length cc,.int .i64 loops],.agg #[.int .i64 (un:Nat),.bool ub],.int .i64 (2*(C.length:Int)+1)] W fun e w'=>e=.returned (.tuple #[.int .i64 (if ub then 2*(C.length:Int)+1+1 else(un:Int)),.int .i64 (2*(C.length:Int)+1),.int .i64 (if ub then(un:Int) else 2*(C.length:Int)+1+1)])/\w'.ownsRow w2.heap.size 71 5 (.slice (some ⟨g,0,none⟩) C.length cc) C.length (crossCells D1)/\W.grownBy w' (some g)):=fun W hW ho=>by
  have q:=HQX.out W hW
  have h:=cutIn_any w2.heap.size b off cap g cc C C loops loops un (2*(C.length:Int)+1) ub W HM.out hu1 hu2 (by omega) q.2.2.2.2.1 q.2.2.2.2.2 rfl ho
  rw[hD1]at h
  exact h
 have HCV:Hid (∀ W,X.grownBy W (some g)->W.ownsRow w2.heap.size 71 5 (.slice (some ⟨g,0,none⟩) C.length cc) C.length (crossCells D1)->Calls Try.prog 68 #[.agg #[.slice (some ⟨b,off,none⟩) C.length cap,.int .i64 loops],.agg #[.slice (some ⟨g,0,none⟩) C.length cc,.int .i64 loops],.agg #[.int .i64 (vn:Nat),.bool vb],.int .i64 (2*(C.length:Int)+3)] W fun e w'=>e=.returned (.tuple #[.int .i64 (if vb then 2*(C.length:Int)+3+1 else(vn:Int)),.int .i64 (2*(C.length:Int)+3),.int .i64 (if vb then(vn:Int) else 2*(C.length:Int)+3+1)])/\w'.ownsRow w2.heap.size 71 5 (.slice (some ⟨g,0,none⟩) C.length cc) C.length (crossCells D2)/\W.grownBy w' (some g)):=fun W hW ho=>by
  have q:=HQX.out W hW
  have h:=cutIn_any w2.heap.size b off cap g cc C D1 loops loops vn (2*(C.length:Int)+3) vb W HM.out hv1 hv2 (by omega) q.2.2.2.2.1 q.2.2.2.2.2 hl1 (by rw[hl1];exact ho)
  rw[hl1,hD2]at h
  exact h
 have HDD:Hid (pushR C un ub vn vb ov=D2++[laidX (2*(C.length:Int)+3) (2*(C.length:Int)+1) (if vb then(vn:Int) else 2*(C.length:Int)+3+1) (if ub then 2*(C.length:Int)+1+1 else(un:Int)) (!ub) (!vb) ov]++[laidX (if vb then 2*(C.length:Int)+3+1 else(vn:Int)) (2*(C.length:Int)+1) (2*(C.length:Int)+3) (if ub then(un:Int) else 2*(C.length:Int)+1+1) ub (!vb) ov]):=(by rw[<-hD2,<-hD1];rfl:pushR C un ub vn vb ov=_)
 have HL2:=hid_of hl2
 clear hD1 hD2 hl1 hl2
 obtain⟨u0,hu0⟩:∃ z,(if ub then 2*(C.length:Int)+1+1 else(un:Int))=z:=⟨_,rfl⟩
 obtain⟨u2,hu2'⟩:∃ z,(if ub then(un:Int) else 2*(C.length:Int)+1+1)=z:=⟨_,rfl⟩
 obtain⟨y0,hv0⟩:∃ z,(if vb then 2*(C.length:Int)+3+1 else(vn:Int))=z:=⟨_,rfl⟩
 obtain⟨y2,hv2'⟩:∃ z,(if vb then(vn:Int) else 2*(C.length:Int)+3+1)=z:=⟨_,rfl⟩
 rw[hu0,hu2',hv0,hv2']at HDD
 rw[hu0,hu2']at HCU
 rw[hv0,hv2']at HCV
 clear hu0 hu2' hv0 hv2'
 have HGX:Hid (X.grownBy X (some g)):=grown_below (Below.refl _ _) _
 go_upto_region 9 with(fail)
 rw[HX.out]
 have q:=HQX.out X HGX.out
 have b0:X.cell? ⟨w.heap.size,0,none⟩=some (.slice (some ⟨b,off,none⟩) C.length cap):=block_cell q.1 rfl
 have b1:X.cell? ⟨w.heap.size,1,none⟩=some (.int .i64 loops):=block_cell q.1 rfl
 have m3:X.cell? ⟨w.heap.size+1,3,none⟩=some (.int .i64 (un:Nat)):=block_cell q.2.1 rfl
 have m4:X.cell? ⟨w.heap.size+1,4,none⟩=some (.bool ub):=block_cell q.2.1 rfl
 have m5:X.cell? ⟨w.heap.size+1,5,none⟩=some (.int .i64 (vn:Nat)):=block_cell q.2.1 rfl
 have m6:X.cell? ⟨w.heap.size+1,6,none⟩=some (.bool vb):=block_cell q.2.1 rfl
 have m7:X.cell? ⟨w.heap.size+1,7,none⟩=some (.bool ov):=block_cell q.2.1 rfl
 have d0:X.cell? ⟨w3.heap.size,0,none⟩=some (.slice (some ⟨g,0,none⟩) C.length cc):=block_cell q.2.2.2.1 rfl
 have d1:X.cell? ⟨w3.heap.size,1,none⟩=some (.int .i64 loops):=block_cell q.2.2.2.1 rfl
 have lx:w.heap.size<X.heap.size:=(Array.getElem?_eq_some_iff.1 q.1).1
 have ly:w.heap.size+1<X.heap.size:=(Array.getElem?_eq_some_iff.1 q.2.1).1
 have ld:w3.heap.size<X.heap.size:=(Array.getElem?_eq_some_iff.1 q.2.2.2.1).1
 clear q
 go_upto_region 10 with (go_at_call 68; refine (HCU.out _ HGX.out HOX.out).mono ?_; rintro e9 w4 ⟨rfl, ho4, hg4⟩
                         have HO4:=hid_of ho4
                         have HG4:=hid_of hg4
                         clear ho4 hg4 b0 b1 m3 m4 m5 m6 m7 d0 d1 lx ly ld
                         have q:=HQX.out w4 HG4.out
                         have b0:w4.cell? ⟨w.heap.size,0,none⟩=some (.slice (some ⟨b,off,none⟩) C.length cap):=block_cell q.1 rfl
                         have b1:w4.cell? ⟨w.heap.size,1,none⟩=some (.int .i64 loops):=block_cell q.1 rfl
                         have m3:w4.cell? ⟨w.heap.size+1,3,none⟩=some (.int .i64 (un:Nat)):=block_cell q.2.1 rfl
                         have m4:w4.cell? ⟨w.heap.size+1,4,none⟩=some (.bool ub):=block_cell q.2.1 rfl
                         have m5:w4.cell? ⟨w.heap.size+1,5,none⟩=some (.int .i64 (vn:Nat)):=block_cell q.2.1 rfl
                         have m6:w4.cell? ⟨w.heap.size+1,6,none⟩=some (.bool vb):=block_cell q.2.1 rfl
                         have m7:w4.cell? ⟨w.heap.size+1,7,none⟩=some (.bool ov):=block_cell q.2.1 rfl
                         have d0:w4.cell? ⟨w3.heap.size,0,none⟩=some (.slice (some ⟨g,0,none⟩) C.length cc):=block_cell q.2.2.2.1 rfl
                         have d1:w4.cell? ⟨w3.heap.size,1,none⟩=some (.int .i64 loops):=block_cell q.2.2.2.1 rfl
                         have lx:w.heap.size<w4.heap.size:=(Array.getElem?_eq_some_iff.1 q.1).1
                         have ly:w.heap.size+1<w4.heap.size:=(Array.getElem?_eq_some_iff.1 q.2.1).1
                         have ld:w3.heap.size<w4.heap.size:=(Array.getElem?_eq_some_iff.1 q.2.2.2.1).1
                         clear q
                         skip)
 go_upto_region 11 with (go_at_call 68; refine (HCV.out _ HG4.out HO4.out).mono ?_; rintro e9 w5 ⟨rfl, ho5, hg5⟩
                         have HO5:=hid_of ho5
                         have HG5:=hid_of (HG4.out.trans hg5)
                         clear ho5 hg5 b0 b1 m3 m4 m5 m6 m7 d0 d1 lx ly ld)
 clear HCU HCV HO4 HG4
 obtain⟨i0,hi,hz0,hz1,hz2⟩:=info_parts infoCross
 have H7w:Hid (w5.heap[w3.heap.size]?=some (.cells #[.slice (some ⟨g,0,none⟩) C.length cc,.int .i64 loops] 24 (0,0))):=(HQX.out _ HG5.out).2.2.2.1
 have HM5:=hid_of (HQX.out _ HG5.out).2.1
 have HR5:=hid_of (HQX.out _ HG5.out).2.2.1
 have HB5:Hid (Below w.heap.size w w5):=HWX.out.grown HG5.out HWX.out.size (fun q hq=>by have:=Option.some.inj hq;have:=HWB.out.size;omega)
 obtain⟨z1,hz1⟩:∃ z,laidX (2*(C.length:Int)+3) (2*(C.length:Int)+1) y2 u0 (!ub) (!vb) ov=z:=⟨_,rfl⟩
 rw[hz1]at HDD
 have HLAp:Hid (∀ W:World,Calls Try.prog 69 #[.int .i64 (2*(C.length:Int)+3),.int .i64 (2*(C.length:Int)+1),.int .i64 y2,.int .i64 u0,.bool (!ub),.bool (!vb),.bool ov] W fun x w'=>x=.returned (.agg #[.int .i64 z1.a,.int .i64 z1.b,.int .i64 z1.c,.int .i64 z1.d,.bool z1.plus])/\Below W.heap.size W w'):=fun W=>by
  have h:=laid_any (2*(C.length:Int)+3) (2*(C.length:Int)+1) y2 u0 (!ub) (!vb) ov W
  rw[hz1]at h
  exact h
 clear hz1
 have HMSp:Hid (∀ W:World,W.heap[w.heap.size+1]?=some (.cells #[.int .i64 k,.int .i64 x,.int .i64 y,.int .i64 (un:Nat),.bool ub,.int .i64 (vn:Nat),.bool vb,.bool ov] 28 (0,0))->(fun W:World=>W.cell? ⟨w.heap.size+1,4,none⟩=some (.bool ub)/\W.cell? ⟨w.heap.size+1,6,none⟩=some (.bool vb)/\W.cell? ⟨w.heap.size+1,7,none⟩=some (.bool ov)) W):=fun W q=>⟨block_cell q rfl,block_cell q rfl,block_cell q rfl⟩
 have HDp:Hid (Below w5.heap.size w5 w5.drew):=(Below.refl _ _).drew
 have lmp:w.heap.size+1<w5.heap.size:=(Array.getElem?_eq_some_iff.1 HM5.out).1
 have lrp:w.heap.size+1+1<w5.heap.size:=(Array.getElem?_eq_some_iff.1 HR5.out).1
 have l7p:w3.heap.size<w5.heap.size:=(Array.getElem?_eq_some_iff.1 H7w.out).1
 have HSBp:Hid (∀ W,Below w5.heap.size w5 W->(fun W:World=>W.cell? ⟨w.heap.size+1,4,none⟩=some (.bool ub)/\W.cell? ⟨w.heap.size+1,6,none⟩=some (.bool vb)/\W.cell? ⟨w.heap.size+1,7,none⟩=some (.bool ov)) W):=fun W hW=>HMSp.out W ((hW.block _ lmp).trans HM5.out)
 apply cut_one
 case h=>
  intro key
  refine wp_region_held_drew (S:=fun W:World=>W.cell? ⟨w.heap.size+1,4,none⟩=some (.bool ub)/\W.cell? ⟨w.heap.size+1,6,none⟩=some (.bool vb)/\W.cell? ⟨w.heap.size+1,7,none⟩=some (.bool ov)) (by kernel_rfl) (HSBp.out _ HDp.out) (fun hHeld=>?_)
  refine tk 0 (h:=?_)
  refine tk 2 (h:=?_)
  refine tk 3 (h:=?_)
  refine tk 4 (h:=?_)
  refine tk 5 (h:=?_)
  refine tk 6 (h:=?_)
  refine tk 7 (h:=?_)
  refine tk 8 (h:=?_)
  refine tk 9 (h:=?_)
  refine tk 10 (h:=?_)
  refine tk 11 (h:=?_)
  refine tk 12 (h:=?_)
  refine tk 13 (h:=?_)
  refine tk 14 (h:=?_)
  refine tk 15 (h:=?_)
  try simp only[Act.put]
  clear hHeld
  refine rd2 1 16 (fun K hK=>?_) (fun K hK=>?_)
  · have o0:w5.drew.cell? ⟨w3.heap.size,0,none⟩=some (.slice (some ⟨g,0,none⟩) C.length cc):=block_cell ((HDp.out.block _ l7p).trans H7w.out) rfl
    go_simp
    refine hK.out _ _ (HSBp.out _ HDp.out) (fun hHeld=>?_)
    clear hK K o0
    try simp only[Act.put]
    clear hHeld
    refine rd1 16 (fun K hK=>?_)
    go_simp
    go_wp2_with (go_at_call 69;refine(HLAp.out _).mono ?_;rintro e9 wA2 ⟨rfl,hbA2⟩)
    have HA2:Hid (Below w5.heap.size w5 wA2):=HDp.out.trans (hbA2.mono HDp.out.size)
    clear hbA2
    refine hK.out _ _ (HSBp.out _ HA2.out) (fun hHeld=>?_)
    clear hK K
    try simp only[Act.put]
    clear hHeld
    refine rd1 17 (fun K hK=>?_)
    go_simp
    refine hK.out _ _ (HSBp.out _ (HA2.out.alloc HA2.out.size _)) (fun hHeld=>?_)
    clear hK K
    try simp only[Act.put]
    refine wpAnyH_like (l':=#[true,true,true,true,true,true,true,true,true,true,true,true,true,true,true,true,true,true,false,false,false]) (by kernel_rfl) ?_
    clear hHeld
    revert HA2
    revert wA2
    exact key.out
  · go_simp
    go_wp2_with (go_at_call 69;refine(HLAp.out _).mono ?_;rintro e9 wA4 ⟨rfl,hbA4⟩)
    have HA4:Hid (Below w5.heap.size w5 wA4):=HDp.out.trans (hbA4.mono HDp.out.size)
    clear hbA4
    refine hK.out _ _ (HSBp.out _ HA4.out) (fun hHeld=>?_)
    clear hK K
    try simp only[Act.put]
    clear hHeld
    refine rd2 1 17 (fun K hK=>?_) (fun K hK=>?_)
    · have o0:wA4.cell? ⟨w3.heap.size,0,none⟩=some (.slice (some ⟨g,0,none⟩) C.length cc):=block_cell ((HA4.out.block _ l7p).trans H7w.out) rfl
      go_simp
      refine hK.out _ _ (HSBp.out _ HA4.out) (fun hHeld=>?_)
      clear hK K o0
      try simp only[Act.put]
      clear hHeld
      refine rd1 17 (fun K hK=>?_)
      go_simp
      refine hK.out _ _ (HSBp.out _ (HA4.out.alloc HA4.out.size _)) (fun hHeld=>?_)
      clear hK K
      try simp only[Act.put]
      refine wpAnyH_like (l':=#[true,true,true,true,true,true,true,true,true,true,true,true,true,true,true,true,true,true,false,false,false]) (by kernel_rfl) ?_
      exact key.out wA4 HA4
    · go_simp
      refine hK.out _ _ (HSBp.out _ (HA4.out.alloc HA4.out.size _)) (fun hHeld=>?_)
      clear hK K
      try simp only[Act.put]
      clear hHeld
      refine rd1 1 (fun K hK=>?_)
      have o0:(wA4.alloc (.cells #[.int .i64 z1.a,.int .i64 z1.b,.int .i64 z1.c,.int .i64 z1.d,.bool z1.plus] 71)).cell? ⟨w3.heap.size,0,none⟩=some (.slice (some ⟨g,0,none⟩) C.length cc):=block_cell (alloc_old ((HA4.out.block _ l7p).trans H7w.out)) rfl
      go_simp
      refine hK.out _ _ (HSBp.out _ (HA4.out.alloc HA4.out.size _)) (fun hHeld=>?_)
      clear hK K o0
      try simp only[Act.put]
      refine wpAnyH_like (l':=#[true,true,true,true,true,true,true,true,true,true,true,true,true,true,true,true,true,true,false,false,false]) (by kernel_rfl) ?_
      exact key.out wA4 HA4
 intro wA HA
 have HO7:=hid_of (own_any HO5.out (grown_below HA.out none))
 have HT:Hid (Below w5.heap.size w5 (wA.alloc (.cells #[.int .i64 z1.a,.int .i64 z1.b,.int .i64 z1.c,.int .i64 z1.d,.bool z1.plus] 71))):=HA.out.alloc HA.out.size _
 have hsA:=HA.out.size
 have hHeld:=HSBp.out _ HT.out
 refine rd1 18 (fun K hK=>?_)
 refine step_append_own rfl (.tmp 92) (.tmp 108) 22 rfl w2.heap.size 71 i0 (.agg #[.int .i64 0,.int .i64 0,.int .i64 0,.int .i64 0,.bool false]) 5 40 Try.underlying22 hi hz0 hz1 hz2 rfl (by decide) _ (C.length) _ (by simp[Act.eval]) (HO7.out.alloc _) ⟨wA.heap.size,0,none⟩ 1 1 [.int .i64 z1.a,.int .i64 z1.b,.int .i64 z1.c,.int .i64 z1.d,.bool z1.plus] (by simp[Act.eval]) rfl (new_cell5 _ _ _ _ _ _ _) (cells_one [z1]) (by unfold maxLen;omega) (by omega) (by simp;omega) ?_
 intro v8 w8 hown8 hg8
 obtain⟨ap,cp,rfl⟩:=own_capS hown8
 have HO8:=hid_of hown8
 have hs8:=hg8.size
 simp only[World.size_alloc]at hs8
 have hne:∀ q,(q<w2.heap.size∨q=w3.heap.size)->some q≠(.slice (some ⟨g,0,none⟩) C.length cc:Value).ownBlock:=fun q hq e=>by
  have h1:=HO5.out.lt q e.symm
  rcases hq with h2|h2
  · omega
  · exact own_apart HO5.out e.symm (h2▸H7w.out) (by decide)
 have hk8:∀ q,q<w5.heap.size->(q<w2.heap.size∨q=w3.heap.size)->w8.heap[q]?=w5.heap[q]?:=fun q hq h=>(hg8.block q (by simp;omega) (hne q h)).trans (HT.out.block q hq)
 have q1:=(hk8 _ lmp (Or.inl (by omega))).trans HM5.out
 have q2:=(hk8 _ lrp (Or.inl (by omega))).trans HR5.out
 have q7:=(hk8 _ l7p (Or.inr rfl)).trans H7w.out
 have HB8:Hid (Below w.heap.size w w8):=(HB5.out.trans (HT.out.mono HB5.out.size)).grown hg8 (by have:=HB5.out.size;simp;omega) (fun q hq=>by have:=(HO5.out.lt q hq).1;have:=HWB.out.size;omega)
 refine hK.out _ _ (HMSp.out _ q1) (fun hHeld=>?_)
 clear hK K hown8 hg8
 refine tk 19 (h:=?_)
 try simp only[Act.put]
 have o0:w8.cell? ⟨w3.heap.size,0,none⟩=some (.slice (some ⟨g,0,none⟩) C.length cc):=block_cell q7 rfl
 have of:w8.frozen? ⟨w3.heap.size,0,none⟩=false:=block_frozen q7
 have ol:w3.heap.size<w8.heap.size:=by omega
 obtain⟨Z1,hZ1⟩:∃ Z,w8.setCell ⟨w3.heap.size,0,none⟩ (.slice ap (C.length+1) cp)=Z:=⟨_,rfl⟩
 have HZ1:=hid_of hZ1
 have hgZ:w8.grownBy Z1 (some w3.heap.size):=by rw[<-hZ1];exact set_grown _ _ _ _
 have H7Z1:Hid (Z1.heap[w3.heap.size]?=some (.cells #[.slice ap (C.length+1) cp,.int .i64 loops] 24 (0,0))):=(by rw[<-hZ1,set_block q7];rfl:Z1.heap[w3.heap.size]?=_)
 have HMZ1:=hid_of ((hgZ.block (w.heap.size+1) (by omega) (fun e=>by have:=Option.some.inj e;omega)).trans q1)
 have HRZ1:=hid_of ((hgZ.block (w.heap.size+1+1) (by omega) (fun e=>by have:=Option.some.inj e;omega)).trans q2)
 have HBZ1:Hid (Below w.heap.size w Z1):=HB8.out.grown hgZ HB8.out.size (fun q hq=>by have:=Option.some.inj hq;have:=HWB.out.size;omega)
 have HOZ1:Hid (Z1.ownsRow w2.heap.size 71 5 (.slice ap (C.length+1) cp) (C.length+1) (crossCells (D2++[z1]))):=(by
  have e:∀ M:List Cr,crossCells (M++[z1])=crossCells M++[.int .i64 z1.a,.int .i64 z1.b,.int .i64 z1.c,.int .i64 z1.d,.bool z1.plus]:=fun M=>by simp[crossCells]
  rw[e]
  refine HO8.out.kept hgZ ?_
  cases hv:(Value.slice ap (C.length+1) cp).ownBlock with
  |none=>exact Or.inl rfl
  |some k=>exact Or.inr (fun e=>own_apart HO8.out hv ((Option.some.inj e)▸q7) (by decide)):Z1.ownsRow w2.heap.size 71 5 (.slice ap (C.length+1) cp) (C.length+1) (crossCells (D2++[z1])))
 clear hZ1 hgZ q1 q2 q7 hk8 hne
 refine rd1 20 (fun K hK=>?_)
 go_simp
 rw[HZ1.out]
 refine hK.out _ _ (HMSp.out _ HMZ1.out) (fun hHeld=>?_)
 clear hK K
 try simp only[Act.put]
 refine wpAnyH_done (by kernel_rfl) ?_ _
 clear hHeld o0 of HO7 HT HO8 HB8 HA HLAp HSBp
 go_upto_region 12 with(fail)
 obtain⟨z2,hz2⟩:∃ z,laidX y0 (2*(C.length:Int)+1) (2*(C.length:Int)+3) u2 ub (!vb) ov=z:=⟨_,rfl⟩
 rw[hz2]at HDD
 have HLAr:Hid (∀ W:World,Calls Try.prog 69 #[.int .i64 y0,.int .i64 (2*(C.length:Int)+1),.int .i64 (2*(C.length:Int)+3),.int .i64 u2,.bool ub,.bool (!vb),.bool ov] W fun x w'=>x=.returned (.agg #[.int .i64 z2.a,.int .i64 z2.b,.int .i64 z2.c,.int .i64 z2.d,.bool z2.plus])/\Below W.heap.size W w'):=fun W=>by
  have h:=laid_any y0 (2*(C.length:Int)+1) (2*(C.length:Int)+3) u2 ub (!vb) ov W
  rw[hz2]at h
  exact h
 clear hz2
 have HMSr:Hid (∀ W:World,W.heap[w.heap.size+1]?=some (.cells #[.int .i64 k,.int .i64 x,.int .i64 y,.int .i64 (un:Nat),.bool ub,.int .i64 (vn:Nat),.bool vb,.bool ov] 28 (0,0))->(fun W:World=>W.cell? ⟨w.heap.size+1,4,none⟩=some (.bool ub)/\W.cell? ⟨w.heap.size+1,6,none⟩=some (.bool vb)/\W.cell? ⟨w.heap.size+1,7,none⟩=some (.bool ov)) W):=fun W q=>⟨block_cell q rfl,block_cell q rfl,block_cell q rfl⟩
 have HDr:Hid (Below Z1.heap.size Z1 Z1.drew):=(Below.refl _ _).drew
 have lmr:w.heap.size+1<Z1.heap.size:=(Array.getElem?_eq_some_iff.1 HMZ1.out).1
 have lrr:w.heap.size+1+1<Z1.heap.size:=(Array.getElem?_eq_some_iff.1 HRZ1.out).1
 have l7r:w3.heap.size<Z1.heap.size:=(Array.getElem?_eq_some_iff.1 H7Z1.out).1
 have HSBr:Hid (∀ W,Below Z1.heap.size Z1 W->(fun W:World=>W.cell? ⟨w.heap.size+1,4,none⟩=some (.bool ub)/\W.cell? ⟨w.heap.size+1,6,none⟩=some (.bool vb)/\W.cell? ⟨w.heap.size+1,7,none⟩=some (.bool ov)) W):=fun W hW=>HMSr.out W ((hW.block _ lmr).trans HMZ1.out)
 apply cut_one
 case h=>
  intro key
  refine wp_region_held_drew (S:=fun W:World=>W.cell? ⟨w.heap.size+1,4,none⟩=some (.bool ub)/\W.cell? ⟨w.heap.size+1,6,none⟩=some (.bool vb)/\W.cell? ⟨w.heap.size+1,7,none⟩=some (.bool ov)) (by kernel_rfl) (HSBr.out _ HDr.out) (fun hHeld=>?_)
  refine tk 0 (h:=?_)
  refine tk 2 (h:=?_)
  refine tk 3 (h:=?_)
  refine tk 4 (h:=?_)
  refine tk 5 (h:=?_)
  refine tk 6 (h:=?_)
  refine tk 7 (h:=?_)
  refine tk 8 (h:=?_)
  refine tk 9 (h:=?_)
  refine tk 10 (h:=?_)
  refine tk 11 (h:=?_)
  refine tk 12 (h:=?_)
  refine tk 13 (h:=?_)
  refine tk 14 (h:=?_)
  try simp only[Act.put]
  clear hHeld
  refine rd2 1 15 (fun K hK=>?_) (fun K hK=>?_)
  · have o0:Z1.drew.cell? ⟨w3.heap.size,0,none⟩=some (.slice ap (C.length+1) cp):=block_cell ((HDr.out.block _ l7r).trans H7Z1.out) rfl
    go_simp
    refine hK.out _ _ (HSBr.out _ HDr.out) (fun hHeld=>?_)
    clear hK K o0
    try simp only[Act.put]
    clear hHeld
    refine rd1 15 (fun K hK=>?_)
    go_simp
    go_wp2_with (go_at_call 69;refine(HLAr.out _).mono ?_;rintro e9 wA2 ⟨rfl,hbA2⟩)
    have HA2:Hid (Below Z1.heap.size Z1 wA2):=HDr.out.trans (hbA2.mono HDr.out.size)
    clear hbA2
    refine hK.out _ _ (HSBr.out _ HA2.out) (fun hHeld=>?_)
    clear hK K
    try simp only[Act.put]
    clear hHeld
    refine rd1 16 (fun K hK=>?_)
    go_simp
    refine hK.out _ _ (HSBr.out _ (HA2.out.alloc HA2.out.size _)) (fun hHeld=>?_)
    clear hK K
    try simp only[Act.put]
    refine wpAnyH_like (l':=#[true,true,true,true,true,true,true,true,true,true,true,true,true,true,true,true,true,false,false,false]) (by kernel_rfl) ?_
    clear hHeld
    revert HA2
    revert wA2
    exact key.out
  · go_simp
    go_wp2_with (go_at_call 69;refine(HLAr.out _).mono ?_;rintro e9 wA4 ⟨rfl,hbA4⟩)
    have HA4:Hid (Below Z1.heap.size Z1 wA4):=HDr.out.trans (hbA4.mono HDr.out.size)
    clear hbA4
    refine hK.out _ _ (HSBr.out _ HA4.out) (fun hHeld=>?_)
    clear hK K
    try simp only[Act.put]
    clear hHeld
    refine rd2 1 16 (fun K hK=>?_) (fun K hK=>?_)
    · have o0:wA4.cell? ⟨w3.heap.size,0,none⟩=some (.slice ap (C.length+1) cp):=block_cell ((HA4.out.block _ l7r).trans H7Z1.out) rfl
      go_simp
      refine hK.out _ _ (HSBr.out _ HA4.out) (fun hHeld=>?_)
      clear hK K o0
      try simp only[Act.put]
      clear hHeld
      refine rd1 16 (fun K hK=>?_)
      go_simp
      refine hK.out _ _ (HSBr.out _ (HA4.out.alloc HA4.out.size _)) (fun hHeld=>?_)
      clear hK K
      try simp only[Act.put]
      refine wpAnyH_like (l':=#[true,true,true,true,true,true,true,true,true,true,true,true,true,true,true,true,true,false,false,false]) (by kernel_rfl) ?_
      exact key.out wA4 HA4
    · go_simp
      refine hK.out _ _ (HSBr.out _ (HA4.out.alloc HA4.out.size _)) (fun hHeld=>?_)
      clear hK K
      try simp only[Act.put]
      clear hHeld
      refine rd1 1 (fun K hK=>?_)
      have o0:(wA4.alloc (.cells #[.int .i64 z2.a,.int .i64 z2.b,.int .i64 z2.c,.int .i64 z2.d,.bool z2.plus] 71)).cell? ⟨w3.heap.size,0,none⟩=some (.slice ap (C.length+1) cp):=block_cell (alloc_old ((HA4.out.block _ l7r).trans H7Z1.out)) rfl
      go_simp
      refine hK.out _ _ (HSBr.out _ (HA4.out.alloc HA4.out.size _)) (fun hHeld=>?_)
      clear hK K o0
      try simp only[Act.put]
      refine wpAnyH_like (l':=#[true,true,true,true,true,true,true,true,true,true,true,true,true,true,true,true,true,false,false,false]) (by kernel_rfl) ?_
      exact key.out wA4 HA4
 intro wA HA
 have HO7:=hid_of (own_any HOZ1.out (grown_below HA.out none))
 have HT:Hid (Below Z1.heap.size Z1 (wA.alloc (.cells #[.int .i64 z2.a,.int .i64 z2.b,.int .i64 z2.c,.int .i64 z2.d,.bool z2.plus] 71))):=HA.out.alloc HA.out.size _
 have hsA:=HA.out.size
 have hHeld:=HSBr.out _ HT.out
 refine rd1 17 (fun K hK=>?_)
 refine step_append_own rfl (.tmp 112) (.tmp 127) 22 rfl w2.heap.size 71 i0 (.agg #[.int .i64 0,.int .i64 0,.int .i64 0,.int .i64 0,.bool false]) 5 40 Try.underlying22 hi hz0 hz1 hz2 rfl (by decide) _ (C.length+1) _ (by simp[Act.eval]) (HO7.out.alloc _) ⟨wA.heap.size,0,none⟩ 1 1 [.int .i64 z2.a,.int .i64 z2.b,.int .i64 z2.c,.int .i64 z2.d,.bool z2.plus] (by simp[Act.eval]) rfl (new_cell5 _ _ _ _ _ _ _) (cells_one [z2]) (by unfold maxLen;omega) (by omega) (by simp;omega) ?_
 intro v8 w8 hown8 hg8
 obtain⟨ar,cr,rfl⟩:=own_capS hown8
 have HO8:=hid_of hown8
 have hs8:=hg8.size
 simp only[World.size_alloc]at hs8
 have hne:∀ q,(q<w2.heap.size∨q=w3.heap.size)->some q≠(.slice ap (C.length+1) cp:Value).ownBlock:=fun q hq e=>by
  have h1:=HOZ1.out.lt q e.symm
  rcases hq with h2|h2
  · omega
  · exact own_apart HOZ1.out e.symm (h2▸H7Z1.out) (by decide)
 have hk8:∀ q,q<Z1.heap.size->(q<w2.heap.size∨q=w3.heap.size)->w8.heap[q]?=Z1.heap[q]?:=fun q hq h=>(hg8.block q (by simp;omega) (hne q h)).trans (HT.out.block q hq)
 have q1:=(hk8 _ lmr (Or.inl (by omega))).trans HMZ1.out
 have q2:=(hk8 _ lrr (Or.inl (by omega))).trans HRZ1.out
 have q7:=(hk8 _ l7r (Or.inr rfl)).trans H7Z1.out
 have HB8:Hid (Below w.heap.size w w8):=(HBZ1.out.trans (HT.out.mono HBZ1.out.size)).grown hg8 (by have:=HBZ1.out.size;simp;omega) (fun q hq=>by have:=(HOZ1.out.lt q hq).1;have:=HWB.out.size;omega)
 refine hK.out _ _ (HMSr.out _ q1) (fun hHeld=>?_)
 clear hK K hown8 hg8
 refine tk 18 (h:=?_)
 try simp only[Act.put]
 have o0:w8.cell? ⟨w3.heap.size,0,none⟩=some (.slice ap (C.length+1) cp):=block_cell q7 rfl
 have of:w8.frozen? ⟨w3.heap.size,0,none⟩=false:=block_frozen q7
 have ol:w3.heap.size<w8.heap.size:=by omega
 obtain⟨Z2,hZ2⟩:∃ Z,w8.setCell ⟨w3.heap.size,0,none⟩ (.slice ar (C.length+1+1) cr)=Z:=⟨_,rfl⟩
 have HZ2:=hid_of hZ2
 have hgZ:w8.grownBy Z2 (some w3.heap.size):=by rw[<-hZ2];exact set_grown _ _ _ _
 have H7Z2:Hid (Z2.heap[w3.heap.size]?=some (.cells #[.slice ar (C.length+1+1) cr,.int .i64 loops] 24 (0,0))):=(by rw[<-hZ2,set_block q7];rfl:Z2.heap[w3.heap.size]?=_)
 have HMZ2:=hid_of ((hgZ.block (w.heap.size+1) (by omega) (fun e=>by have:=Option.some.inj e;omega)).trans q1)
 have HRZ2:=hid_of ((hgZ.block (w.heap.size+1+1) (by omega) (fun e=>by have:=Option.some.inj e;omega)).trans q2)
 have HBZ2:Hid (Below w.heap.size w Z2):=HB8.out.grown hgZ HB8.out.size (fun q hq=>by have:=Option.some.inj hq;have:=HWB.out.size;omega)
 have HOZ2:Hid (Z2.ownsRow w2.heap.size 71 5 (.slice ar (C.length+1+1) cr) (C.length+1+1) (crossCells (D2++[z1]++[z2]))):=(by
  have e:∀ M:List Cr,crossCells (M++[z2])=crossCells M++[.int .i64 z2.a,.int .i64 z2.b,.int .i64 z2.c,.int .i64 z2.d,.bool z2.plus]:=fun M=>by simp[crossCells]
  rw[e]
  refine HO8.out.kept hgZ ?_
  cases hv:(Value.slice ar (C.length+1+1) cr).ownBlock with
  |none=>exact Or.inl rfl
  |some k=>exact Or.inr (fun e=>own_apart HO8.out hv ((Option.some.inj e)▸q7) (by decide)):Z2.ownsRow w2.heap.size 71 5 (.slice ar (C.length+1+1) cr) (C.length+1+1) (crossCells (D2++[z1]++[z2])))
 clear hZ2 hgZ q1 q2 q7 hk8 hne
 refine rd1 19 (fun K hK=>?_)
 go_simp
 rw[HZ2.out]
 refine hK.out _ _ (HMSr.out _ HMZ2.out) (fun hHeld=>?_)
 clear hK K
 try simp only[Act.put]
 refine wpAnyH_done (by kernel_rfl) ?_ _
 clear hHeld o0 of HO7 HT HO8 HB8 HA HLAr HSBr
 have g0:Z2.cell? ⟨w3.heap.size,0,none⟩=some (.slice ar (C.length+1+1) cr):=block_cell H7Z2.out rfl
 have g1:Z2.cell? ⟨w3.heap.size,1,none⟩=some (.int .i64 loops):=block_cell H7Z2.out rfl
 have r0:Z2.cell? ⟨w.heap.size+1+1,0,none⟩=some (.slice none 0 0):=block_cell HRZ2.out rfl
 have r1:Z2.cell? ⟨w.heap.size+1+1,1,none⟩=some (.int .i64 0):=block_cell HRZ2.out rfl
 have f2:Z2.frozen? ⟨w.heap.size+1+1,0,none⟩=false:=block_frozen HRZ2.out
 have f3:Z2.frozen? ⟨w.heap.size+1+1,1,none⟩=false:=block_frozen HRZ2.out
 have l3:w3.heap.size<Z2.heap.size:=(Array.getElem?_eq_some_iff.1 H7Z2.out).1
 have l4:w.heap.size+1+1<Z2.heap.size:=(Array.getElem?_eq_some_iff.1 HRZ2.out).1
 go_wp2
 have hgB:=st2_grown Z2 (w.heap.size+1+1) 0 (.slice ar (C.length+1+1) cr) (.int .i64 loops)
 refine bodyPost_ret (res_push (set_block (set_block HRZ2.out)) rfl rfl) rfl ⟨ar,cr,rfl,?_,?_⟩
 · rw[HDD.out]
   refine own_low (HOZ2.out.kept hgB ?_) HWB.out.size
   cases hv:(Value.slice ar (C.length+1+1) cr).ownBlock with
   |none=>exact Or.inl rfl
   |some k=>exact Or.inr (fun e=>by have:=(HOZ2.out.lt k hv).1;have:=Option.some.inj e;omega)
 · exact HBZ2.out.grown hgB HBZ2.out.size (fun q hq=>by have:=Option.some.inj hq;omega)
end Go.Proofs.Ytagaajlbkfkaiaa
