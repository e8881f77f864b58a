/- Moves: the walks of means and of bench.moved. Made by genmw5.py. -/
import Derived.Test.YtagaajlbkfkaiaaTkhP
import Derived.Test.YtagaajlbkfkaiaaMV6P
import Derived.Test.YtagaajlbkfkaiaaMW1P
import Derived.Deep.RegionHeld
namespace Go.Proofs.Ytagaajlbkfkaiaa
open Go.RowKit
set_option maxHeartbeats 4000000
set_option maxRecDepth 100000
def KF (k:Int) (fn:Nat):Prop:=(k=1/\fn=88)∨(k=2/\fn=89)∨(k=3/\fn=90)∨(k=4/\fn=91)∨(k=5/\fn=92)
theorem kf1:KF 1 88:=by unfold KF;simp
theorem kf2:KF 2 89:=by unfold KF;simp
theorem kf3:KF 3 90:=by unfold KF;simp
theorem kf4:KF 4 91:=by unfold KF;simp
theorem kf5:KF 5 92:=by unfold KF;simp
theorem means_of {k:Int} {fn:Nat} (hk:KF k fn) (w:World):Calls Try.prog 59 #[.int .i64 k] w fun e w'=>e=.returned (.func (.func fn) #[] #[])/\w'=w:=by
 rcases hk with⟨rfl,rfl⟩|⟨rfl,rfl⟩|⟨rfl,rfl⟩|⟨rfl,rfl⟩|⟨rfl,rfl⟩
 all_goals
  go_enter Try.func59,Try.ntmps59
  go_wp2
  go_ret
  exact⟨rfl,rfl⟩
theorem means_no (k:Int) (w:World) (h1:k≠1) (h2:k≠2) (h3:k≠3) (h4:k≠4) (h5:k≠5):Calls Try.prog 59 #[.int .i64 k] w fun e w'=>e=.panicked (QZ7 6)/\w'=w:=by
 have e1:(k==1)=false:=beq_eq_false_iff_ne.2 h1
 have e2:(k==2)=false:=beq_eq_false_iff_ne.2 h2
 have e3:(k==3)=false:=beq_eq_false_iff_ne.2 h3
 have e4:(k==4)=false:=beq_eq_false_iff_ne.2 h4
 have e5:(k==5)=false:=beq_eq_false_iff_ne.2 h5
 go_enter Try.func59,Try.ntmps59
 go_wp2
 exact⟨rfl,rfl,rfl⟩
theorem moved_kind (a:Option Addr) (cap:Nat) (C:List Cr) (loops:Int) (gF cF gT cT:Nat) (k x y ua va:Int) (ub vb ov:Bool) (w:World) (h1:k≠1) (h2:k≠2) (h3:k≠3) (h4:k≠4) (h5:k≠5):
    Calls Try.prog 30 #[drV a cap C loops gF cF gT cT,mvV k x y ua ub va vb ov] w fun e w'=>e=.panicked (QZ7 6)/\Below w.heap.size w w':=by
 have HME:Hid (∀ W,Calls Try.prog 59 #[.int .i64 k] W fun e w'=>e=.panicked (QZ7 6)/\w'=W):=fun W=>means_no k W h1 h2 h3 h4 h5
 unfold mvV
 obtain⟨Y,hY,hBY,hTY,hsY⟩:=bm_ex w a cap C loops gF cF gT cT k x y ua va ub vb ov
 have HBY:=QQ1 hBY
 have HCE:=QQ1 (bm_ce hTY)
 clear hBY hTY
 unfold drV
 have HDY:Hid (Below Y.heap.size Y Y.drew):=(Below.refl _ _).drew
 have HSV:Hid (∀ W,Below Y.heap.size Y W->(fun X:World=>X.cell? ⟨w.heap.size,0,none⟩=some (.slice a C.length cap)/\X.cell? ⟨w.heap.size,1,none⟩=some (.int .i64 loops)/\X.cell? ⟨w.heap.size,2,none⟩=some (.slice (some ⟨gF,0,none⟩) (2*C.length+1) cF)/\X.cell? ⟨w.heap.size,3,none⟩=some (.slice (some ⟨gT,0,none⟩) (2*C.length+1) cT)/\X.cell? ⟨w.heap.size+1,0,none⟩=some (.int .i64 k)/\X.cell? ⟨w.heap.size+1,1,none⟩=some (.int .i64 x)/\X.cell? ⟨w.heap.size+1,2,none⟩=some (.int .i64 y)/\X.cell? ⟨w.heap.size+1,3,none⟩=some (.int .i64 ua)/\X.cell? ⟨w.heap.size+1,4,none⟩=some (.bool ub)/\X.cell? ⟨w.heap.size+1,5,none⟩=some (.int .i64 va)/\X.cell? ⟨w.heap.size+1,6,none⟩=some (.bool vb)/\X.cell? ⟨w.heap.size+1,7,none⟩=some (.bool ov)) W):=fun W hW=>by
  obtain⟨⟨px,py,-⟩,-⟩:=HCE.out W hW
  exact⟨QQ0 px rfl,QQ0 px rfl,QQ0 px rfl,QQ0 px rfl,QQ0 py rfl,QQ0 py rfl,QQ0 py rfl,QQ0 py rfl,QQ0 py rfl,QQ0 py rfl,QQ0 py rfl,QQ0 py rfl⟩
 clear h1 h2 h3 h4 h5
 have HY:=QQ1 hY
 clear hY
 go_enter Try.func30,Try.ntmps30
 go_wp2
 rw[HY.out]
 refine rhd HSV HDY.out (fun hHeld=>?_)
 refine tk 0 (h:=?_)
 refine tk 1 (h:=?_)
 refine tk 3 (h:=?_)
 refine tk 4 (h:=?_)
 try simp only[Act.put]
 refine rd1 2 (fun K hK=>?_)
 go_simp
 go_wp2_with (go_at_call 59;refine(HME.out _).mono ?_;rintro e9 w4 ⟨rfl,e4⟩;obtain rfl:=e4.symm)
 exact⟨rfl,rfl,HBY.out.drew⟩
theorem QZ8 {k:Int} {fn:Nat} (hk:KF k fn) (a:Option Addr) (cap:Nat) (C:List Cr) (loops:Int) (gF cF gT cT:Nat) (why x y ua va:Int) (ub vb ov:Bool) (w:World) (hF:∀ W,Below w.heap.size w W->Calls Try.prog fn #[drV a cap C loops gF cF gT cT,mvV k x y ua ub va vb ov] W fun e w'=>e=.panicked (QZ7 why)/\Below W.heap.size W w'):
    Calls Try.prog 30 #[drV a cap C loops gF cF gT cT,mvV k x y ua ub va vb ov] w fun e w'=>e=.panicked (QZ7 why)/\Below w.heap.size w w':=by
 have HF:=QQ1 hF
 have HMN:=QQ1 (means_of hk)
 have HKF:=QQ1 hk
 clear hF hk
 unfold mvV at HF ⊢
 obtain⟨Y,hY,hBY,hTY,hsY⟩:=bm_ex w a cap C loops gF cF gT cT k x y ua va ub vb ov
 have HBY:=QQ1 hBY
 have HCE:=QQ1 (bm_ce hTY)
 clear hBY hTY
 unfold drV at HF ⊢
 have HDY:Hid (Below Y.heap.size Y Y.drew):=(Below.refl _ _).drew
 have HSV:Hid (∀ W,Below Y.heap.size Y W->(fun X:World=>X.cell? ⟨w.heap.size,0,none⟩=some (.slice a C.length cap)/\X.cell? ⟨w.heap.size,1,none⟩=some (.int .i64 loops)/\X.cell? ⟨w.heap.size,2,none⟩=some (.slice (some ⟨gF,0,none⟩) (2*C.length+1) cF)/\X.cell? ⟨w.heap.size,3,none⟩=some (.slice (some ⟨gT,0,none⟩) (2*C.length+1) cT)/\X.cell? ⟨w.heap.size+1,0,none⟩=some (.int .i64 k)/\X.cell? ⟨w.heap.size+1,1,none⟩=some (.int .i64 x)/\X.cell? ⟨w.heap.size+1,2,none⟩=some (.int .i64 y)/\X.cell? ⟨w.heap.size+1,3,none⟩=some (.int .i64 ua)/\X.cell? ⟨w.heap.size+1,4,none⟩=some (.bool ub)/\X.cell? ⟨w.heap.size+1,5,none⟩=some (.int .i64 va)/\X.cell? ⟨w.heap.size+1,6,none⟩=some (.bool vb)/\X.cell? ⟨w.heap.size+1,7,none⟩=some (.bool ov)) W):=fun W hW=>by
  obtain⟨⟨px,py,-⟩,-⟩:=HCE.out W hW
  exact⟨QQ0 px rfl,QQ0 px rfl,QQ0 px rfl,QQ0 px rfl,QQ0 py rfl,QQ0 py rfl,QQ0 py rfl,QQ0 py rfl,QQ0 py rfl,QQ0 py rfl,QQ0 py rfl,QQ0 py rfl⟩
 have HY:=QQ1 hY
 clear hY
 go_enter Try.func30,Try.ntmps30
 go_wp2
 rw[HY.out]
 refine rhd HSV HDY.out (fun hHeld=>?_)
 refine tk 0 (h:=?_)
 refine tk 1 (h:=?_)
 refine tk 3 (h:=?_)
 refine tk 4 (h:=?_)
 try simp only[Act.put]
 refine rd1 2 (fun K hK=>?_)
 go_simp
 go_wp2_with (go_at_call 59;refine(HMN.out _).mono ?_;rintro e9 w4 ⟨rfl,e4⟩;obtain rfl:=e4.symm)
 refine hK.out _ _ (HSV.out _ HDY.out) (fun hHeld=>?_)
 clear hK K
 try simp only[Act.put]
 have hk:=HKF.out
 clear HKF
 rcases hk with⟨rfl,rfl⟩|⟨rfl,rfl⟩|⟨rfl,rfl⟩|⟨rfl,rfl⟩|⟨rfl,rfl⟩
 all_goals
  refine rd1 5 (fun K hK=>?_)
  go_simp
  go_wp2_with ((first|go_at_call 88|go_at_call 89|go_at_call 90|go_at_call 91|go_at_call 92);refine(HF.out _ HBY.out.drew).mono ?_;rintro e9 w5 ⟨rfl,hb5⟩)
  exact⟨rfl,rfl,HBY.out.drew.trans (hb5.mono HBY.out.drew.size)⟩
theorem QU4 {k:Int} {fn:Nat} (hk:KF k fn) (a:Option Addr) (cap:Nat) (C:List Cr) (loops:Int) (gF cF gT cT:Nat) (x y ua va:Int) (ub vb ov:Bool) (w:World) (lo:Int) (D:List Cr) (hF:∀ W,Below w.heap.size w W->Calls Try.prog fn #[drV a cap C loops gF cF gT cT,mvV k x y ua ub va vb ov] W fun e w'=>∃ a2 c2,e=.returned (.agg #[.slice a2 D.length c2,.int .i64 lo])/\w'.ownsRow W.heap.size 71 5 (.slice a2 D.length c2) D.length (QQ4 D)/\Below W.heap.size W w'):
    Calls Try.prog 30 #[drV a cap C loops gF cF gT cT,mvV k x y ua ub va vb ov] w fun e w'=>∃ a2 c2,e=.returned (.agg #[.slice a2 D.length c2,.int .i64 lo])/\w'.ownsRow w.heap.size 71 5 (.slice a2 D.length c2) D.length (QQ4 D)/\Below w.heap.size w w':=by
 have HF:=QQ1 hF
 have HMN:=QQ1 (means_of hk)
 have HKF:=QQ1 hk
 clear hF hk
 unfold mvV at HF ⊢
 obtain⟨Y,hY,hBY,hTY,hsY⟩:=bm_ex w a cap C loops gF cF gT cT k x y ua va ub vb ov
 have HBY:=QQ1 hBY
 have HCE:=QQ1 (bm_ce hTY)
 clear hBY hTY
 unfold drV at HF ⊢
 have HDY:Hid (Below Y.heap.size Y Y.drew):=(Below.refl _ _).drew
 have HSV:Hid (∀ W,Below Y.heap.size Y W->(fun X:World=>X.cell? ⟨w.heap.size,0,none⟩=some (.slice a C.length cap)/\X.cell? ⟨w.heap.size,1,none⟩=some (.int .i64 loops)/\X.cell? ⟨w.heap.size,2,none⟩=some (.slice (some ⟨gF,0,none⟩) (2*C.length+1) cF)/\X.cell? ⟨w.heap.size,3,none⟩=some (.slice (some ⟨gT,0,none⟩) (2*C.length+1) cT)/\X.cell? ⟨w.heap.size+1,0,none⟩=some (.int .i64 k)/\X.cell? ⟨w.heap.size+1,1,none⟩=some (.int .i64 x)/\X.cell? ⟨w.heap.size+1,2,none⟩=some (.int .i64 y)/\X.cell? ⟨w.heap.size+1,3,none⟩=some (.int .i64 ua)/\X.cell? ⟨w.heap.size+1,4,none⟩=some (.bool ub)/\X.cell? ⟨w.heap.size+1,5,none⟩=some (.int .i64 va)/\X.cell? ⟨w.heap.size+1,6,none⟩=some (.bool vb)/\X.cell? ⟨w.heap.size+1,7,none⟩=some (.bool ov)) W):=fun W hW=>by
  obtain⟨⟨px,py,-⟩,-⟩:=HCE.out W hW
  exact⟨QQ0 px rfl,QQ0 px rfl,QQ0 px rfl,QQ0 px rfl,QQ0 py rfl,QQ0 py rfl,QQ0 py rfl,QQ0 py rfl,QQ0 py rfl,QQ0 py rfl,QQ0 py rfl,QQ0 py rfl⟩
 have HY:=QQ1 hY
 clear hY
 go_enter Try.func30,Try.ntmps30
 go_wp2
 rw[HY.out]
 refine rhd HSV HDY.out (fun hHeld=>?_)
 refine tk 0 (h:=?_)
 refine tk 1 (h:=?_)
 refine tk 3 (h:=?_)
 refine tk 4 (h:=?_)
 try simp only[Act.put]
 refine rd1 2 (fun K hK=>?_)
 go_simp
 go_wp2_with (go_at_call 59;refine(HMN.out _).mono ?_;rintro e9 w4 ⟨rfl,e4⟩;obtain rfl:=e4.symm)
 refine hK.out _ _ (HSV.out _ HDY.out) (fun hHeld=>?_)
 clear hK K
 try simp only[Act.put]
 have HZS:=QQ1 (fun(w5:World) (v0 v1:Value) (hB5:Below Y.heap.size Y w5)=>show(fun X:World=>X.cell? ⟨w.heap.size,0,none⟩=some (.slice a C.length cap)/\X.cell? ⟨w.heap.size,1,none⟩=some (.int .i64 loops)/\X.cell? ⟨w.heap.size,2,none⟩=some (.slice (some ⟨gF,0,none⟩) (2*C.length+1) cF)/\X.cell? ⟨w.heap.size,3,none⟩=some (.slice (some ⟨gT,0,none⟩) (2*C.length+1) cT)/\X.cell? ⟨w.heap.size+1,0,none⟩=some (.int .i64 k)/\X.cell? ⟨w.heap.size+1,1,none⟩=some (.int .i64 x)/\X.cell? ⟨w.heap.size+1,2,none⟩=some (.int .i64 y)/\X.cell? ⟨w.heap.size+1,3,none⟩=some (.int .i64 ua)/\X.cell? ⟨w.heap.size+1,4,none⟩=some (.bool ub)/\X.cell? ⟨w.heap.size+1,5,none⟩=some (.int .i64 va)/\X.cell? ⟨w.heap.size+1,6,none⟩=some (.bool vb)/\X.cell? ⟨w.heap.size+1,7,none⟩=some (.bool ov)) ((w5.setCell ⟨w.heap.size+1+1,0,none⟩ v0).setCell ⟨w.heap.size+1+1,1,none⟩ v1) by
  have hg:=QQ8 (QQ7 w5 (w.heap.size+1+1) 0 v0) (QQ7 (w5.setCell ⟨w.heap.size+1+1,0,none⟩ v0) (w.heap.size+1+1) 1 v1)
  obtain⟨⟨px,py,-⟩,-⟩:=HCE.out w5 hB5
  have px':=(hg.block _ (Array.getElem?_eq_some_iff.1 px).1 (fun e=>by have:=Option.some.inj e;omega)).trans px
  have py':=(hg.block _ (Array.getElem?_eq_some_iff.1 py).1 (fun e=>by have:=Option.some.inj e;omega)).trans py
  exact⟨QQ0 px' rfl,QQ0 px' rfl,QQ0 px' rfl,QQ0 px' rfl,QQ0 py' rfl,QQ0 py' rfl,QQ0 py' rfl,QQ0 py' rfl,QQ0 py' rfl,QQ0 py' rfl,QQ0 py' rfl,QQ0 py' rfl⟩)
 have hk:=HKF.out
 clear HKF
 rcases hk with⟨rfl,rfl⟩|⟨rfl,rfl⟩|⟨rfl,rfl⟩|⟨rfl,rfl⟩|⟨rfl,rfl⟩
 all_goals
  refine rd1 5 (fun K hK=>?_)
  go_simp
  go_wp2_with ((first|go_at_call 88|go_at_call 89|go_at_call 90|go_at_call 91|go_at_call 92);refine(HF.out _ HBY.out.drew).mono ?_;rintro e9 w5 ⟨a2,c2,rfl,ho5,hb5⟩)
  have HO5:=QQ1 ho5
  have HB5:=QQ1 (HDY.out.trans (hb5.mono HDY.out.size))
  have hs5:=hb5.size
  refine hK.out _ _ (HSV.out _ HB5.out) (fun hHeld=>?_)
  clear hK K ho5 hb5
  try simp only[Act.put]
  refine rd1 6 (fun K hK=>?_)
  have cql0:=QX3 (HCE.out w5 (HB5.out))
  have qZ:=QQ1 (HCE.out w5 (HB5.out)).1.2.2
  have HZ:=QQ1 (st2D (a:=.slice a2 D.length c2) (b:=.int .i64 lo) qZ.out)
  go_simp
  refine hK.out _ _ (HZS.out _ _ _ HB5.out) (fun hHeld=>?_)
  clear hK K HZS
  try simp only[Act.put]
  refine wpAnyH_done (by kernel_rfl) ?_ _
  clear hHeld
  go_wp2
  have x0:=QQ0 (i:=0) (v:=.slice a2 D.length c2) HZ.out rfl
  have x1:=QQ0 (i:=1) (v:=.int .i64 lo) HZ.out rfl
  refine bodyPost_ret (v:=.agg #[.slice a2 D.length c2,.int .i64 lo]) (by simp[results,Try.results30,go_sem,x0,x1]) rfl ⟨a2,c2,rfl,?_,?_⟩
  · exact QX4 (own_two HO5.out (by show w.heap.size+1+1<Y.heap.size;omega) _ _) (by show w.heap.size<=Y.heap.size;omega)
  · exact((HBY.out.trans (HB5.out.mono (by omega))).setCell (p:=⟨w.heap.size+1+1,0,none⟩) (by simp only;omega) _).setCell (p:=⟨w.heap.size+1+1,1,none⟩) (by simp only;omega) _
end Go.Proofs.Ytagaajlbkfkaiaa
