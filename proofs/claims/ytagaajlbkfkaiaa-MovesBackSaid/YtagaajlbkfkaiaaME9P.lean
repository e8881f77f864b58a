/- Several texts of the proof, one behind the other. -/
import Derived.Test.YtagaajlbkfkaiaaMW1P
import Derived.Test.YtagaajlbkfkaiaaMV8
import Derived.Test.YtagaajlbkfkaiaaME1P
import Derived.Deep.QuietTactic
import Derived.BigQuiet
import Derived.Test.YtagaajlbkfkaiaaMV9b
/- The walk of ref.onOneFace. Made by genme9.py. -/
namespace Go.Proofs.Ytagaajlbkfkaiaa
open Go.RowKit
end Go.Proofs.Ytagaajlbkfkaiaa
/- The walk of ref.pushOf. Made by genme10.py. -/
namespace Go.Proofs.Ytagaajlbkfkaiaa
open Go.RowKit
def pushR (C:List Cr) (un:Nat) (ub:Bool) (vn:Nat) (vb ov:Bool):List Cr:=
 setL (setL C (toC C un) (toS C un) (2*(C.length:Int)+1+1)) (toC C vn) (toS C vn) (2*(C.length:Int)+3+1)++[laidX (2*(C.length:Int)+3) (2*(C.length:Int)+1) (if vb then(vn:Int) else 2*(C.length:Int)+3+1) (if ub then 2*(C.length:Int)+1+1 else(un:Int)) (!ub) (!vb) ov]++[laidX (if vb then 2*(C.length:Int)+3+1 else(vn:Int)) (2*(C.length:Int)+1) (2*(C.length:Int)+3) (if ub then(un:Int) else 2*(C.length:Int)+1+1) ub (!vb) ov]
end Go.Proofs.Ytagaajlbkfkaiaa
/- Plain mathematics: two strands pushed across each other on a face: a diagram again, and planar if it was. -/
namespace Go.Proofs.Ytagaajlbkfkaiaa
structure Ins (f g:Nat->Nat) (M:Nat):Prop where
 bij:Bij g M
 cnt:cyA g M+1=cyA f M
 con:∀ x y,Con (eds f M) x y->Con (eds g M) x y
theorem fix_apart {f:Nat->Nat} {M:Nat} (h:Bij f M) {w z:Nat} (hz:z<M) (e:f z=z) (hne:w≠z):¬ Con (eds f M) w z:=fun hc=>by
 have hS:Closed (eds f M) (fun y=>y≠z):=closed_eds.2 fun i hi=>by
  constructor
  · intro q r
    exact q (h.2 i z hi hz (r.trans e.symm))
  · intro q r
    exact q (by rw[r];exact e)
 exact hc _ hS hne rfl
theorem ins_behind {f:Nat->Nat} {M:Nat} (h:Bij f M) {w z:Nat} (hw:w<M) (hz:z<M) (e:f z=z) (hne:w≠z):Ins f (tr f w z) M:=
 ⟨h.tr hw hz,QJ6 h hw hz e hne,fun x y hc=>(con_join h hw hz (fix_apart h hz e hne) x y).2 (con_sub (fun _ he=>Con.edge (List.mem_append_left _ he)) hc)⟩
def sw2 (u v z:Nat):Nat:=if z=u then v else if z=v then u else z
theorem sw2_u (u v:Nat):sw2 u v u=v:=by unfold sw2;rw[if_pos rfl]
theorem sw2_v (u v:Nat):sw2 u v v=u:=by
 unfold sw2
 by_cases h:v=u
 · rw[if_pos h,h]
 · rw[if_neg h,if_pos rfl]
theorem sw2_o {u v z:Nat} (h1:z≠u) (h2:z≠v):sw2 u v z=z:=by unfold sw2;rw[if_neg h1,if_neg h2]
theorem ins_ahead {f:Nat->Nat} {M:Nat} (h:Bij f M) {x z:Nat} (hx:x<M) (hz:z<M) (e:f z=z) (hne:x≠z):Ins f (fun w=>sw2 x z (f w)) M:=by
 obtain⟨p,hp,e1⟩:=h.onto hx
 have hpz:p≠z:=fun q=>hne (by rw[<-e1,q,e])
 have hE:∀ w,w<M->sw2 x z (f w)=tr f p z w:=fun w hw=>by
  by_cases h1:w=p
  · rw[h1,tr_a,e1,sw2_u,e]
  · by_cases h2:w=z
    · rw[h2,tr_b,e,sw2_v,e1]
    · rw[tr_o _ h1 h2]
      exact sw2_o (fun q=>h1 (h.2 w p hw hp (q.trans e1.symm))) (fun q=>h2 (h.2 w z hw hz (q.trans e.symm)))
 have hi:=ins_behind h hp hz e hpz
 refine⟨⟨fun w hw=>?_,fun w v hw hv q=>?_⟩,?_,fun a b hc=>?_⟩
 · rw[hE w hw]
   exact hi.bij.1 w hw
 · rw[hE w hw,hE v hv]at q
   exact hi.bij.2 w v hw hv q
 · rw[cyA_congr hE]
   exact hi.cnt
 · rw[eds_congr hE]
   exact hi.con a b hc
section
variable (n un vn:Nat) (ub vb:Bool)
def d0 (m a:Nat) (b:Bool):Nat:=if b=true then m+4 else 2*a-1
def d1 (m:Nat) (b:Bool):Nat:=if b=true then m+2 else m+1
def d2 (m a:Nat) (b:Bool):Nat:=if b=true then 2*a else m+3
def r0 (m a:Nat) (b:Bool):Nat:=if b=true then m+3 else 2*a
def r1 (m:Nat) (b:Bool):Nat:=if b=true then m+1 else m+2
def r2 (m a:Nat) (b:Bool):Nat:=if b=true then 2*a-1 else m+4
end
structure PushD (C D:List Cr) (un vn:Nat) (ub vb:Bool) (g h:Nat):Prop where
 len:D.length=C.length+2
 u1:1<=un
 u2:un<=2*C.length
 v1:1<=vn
 v2:vn<=2*C.length
 ne:un≠vn
 g4:g<4
 h4:h<4
 old:∀ k s,k<C.length->s<4->pd D (4*k+s)=if pd C (4*k+s)=2*un then 4*C.length+4 else if pd C (4*k+s)=2*vn then 4*C.length+8 else pd C (4*k+s)
 pe:pd D (4*C.length+g)=r1 (4*C.length+4) vb
 pn:pd D (4*C.length+(g+1)%4)=d1 (4*C.length) ub
 pw:pd D (4*C.length+(g+2)%4)=d2 (4*C.length+4) vn vb
 ps:pd D (4*C.length+(g+3)%4)=r0 (4*C.length) un ub
 qe:pd D (4*(C.length+1)+h)=r0 (4*C.length+4) vn vb
 qn:pd D (4*(C.length+1)+(h+1)%4)=r1 (4*C.length) ub
 qw:pd D (4*(C.length+1)+(h+2)%4)=d1 (4*C.length+4) vb
 qs:pd D (4*(C.length+1)+(h+3)%4)=d2 (4*C.length) un ub
 arc:∀ k s,k<D.length->s<4->1<=(D.getD k Cr.none).arc s/\(D.getD k Cr.none).arc s<=2*(D.length:Int)
section
variable {C D:List Cr} {lo l2:Int} {un vn:Nat} {ub vb:Bool} {g h:Nat}
theorem PushD.oldle (H:PushD C D un vn ub vb g h) (hm:mayD C lo=true) {k s:Nat} (hk:k<C.length) (hs:s<4):pd D (4*k+s)≠2*un/\pd D (4*k+s)≠2*vn/\(pd D (4*k+s)<=4*C.length∨pd D (4*k+s)=4*C.length+4∨pd D (4*k+s)=4*C.length+8)/\1<=pd D (4*k+s):=by
 obtain⟨-,-,-,h1,h2⟩:=pd_at hm k s hk hs
 have:=H.u2
 have:=H.v2
 rw[H.old k s hk hs]
 split
 · omega
 · split<;>omega
theorem PushD.newP (H:PushD C D un vn ub vb g h) {s:Nat} (hs:s<4):(s=g/\pd D (4*C.length+s)=r1 (4*C.length+4) vb)∨(s=(g+1)%4/\pd D (4*C.length+s)=d1 (4*C.length) ub)∨(s=(g+2)%4/\pd D (4*C.length+s)=d2 (4*C.length+4) vn vb)∨(s=(g+3)%4/\pd D (4*C.length+s)=r0 (4*C.length) un ub):=by
 rcases quarter hs H.g4 with e|e|e|e
 · exact Or.inl ⟨e,by rw[e];exact H.pe⟩
 · exact Or.inr (Or.inl ⟨e,by rw[e];exact H.pn⟩)
 · exact Or.inr (Or.inr (Or.inl ⟨e,by rw[e];exact H.pw⟩))
 · exact Or.inr (Or.inr (Or.inr ⟨e,by rw[e];exact H.ps⟩))
theorem PushD.newQ (H:PushD C D un vn ub vb g h) {s:Nat} (hs:s<4):(s=h/\pd D (4*(C.length+1)+s)=r0 (4*C.length+4) vn vb)∨(s=(h+1)%4/\pd D (4*(C.length+1)+s)=r1 (4*C.length) ub)∨(s=(h+2)%4/\pd D (4*(C.length+1)+s)=d1 (4*C.length+4) vb)∨(s=(h+3)%4/\pd D (4*(C.length+1)+s)=d2 (4*C.length) un ub):=by
 rcases quarter hs H.h4 with e|e|e|e
 · exact Or.inl ⟨e,by rw[e];exact H.qe⟩
 · exact Or.inr (Or.inl ⟨e,by rw[e];exact H.qn⟩)
 · exact Or.inr (Or.inr (Or.inl ⟨e,by rw[e];exact H.qw⟩))
 · exact Or.inr (Or.inr (Or.inr ⟨e,by rw[e];exact H.qs⟩))
theorem QU8 (m a:Nat) (b:Bool):(b=true/\d0 m a b=m+4/\d1 m b=m+2/\d2 m a b=2*a/\r0 m a b=m+3/\r1 m b=m+1/\r2 m a b=2*a-1)∨(b=false/\d0 m a b=2*a-1/\d1 m b=m+1/\d2 m a b=m+3/\r0 m a b=2*a/\r1 m b=m+2/\r2 m a b=m+4):=by
 cases b
 · exact Or.inr ⟨rfl,rfl,rfl,rfl,rfl,rfl,rfl⟩
 · exact Or.inl ⟨rfl,rfl,rfl,rfl,rfl,rfl,rfl⟩
theorem PushD.may (H:PushD C D un vn ub vb g h) (hm:mayD C lo=true) (hs:sizeB D l2=true):mayD D l2=true:=by
 refine may_pdT hs H.arc fun k s j u hk hs hj hu e=>?_
 have hl:=H.len
 have a1:=H.u1
 have a2:=H.u2
 have b1:=H.v1
 have b2:=H.v2
 have hne:=H.ne
 have hg:=H.g4
 have hh:=H.h4
 have cu:=QU8 (4*C.length) un ub
 have cv:=QU8 (4*C.length+4) vn vb
 have hk3:k<C.length∨k=C.length∨k=C.length+1:=by omega
 have hj3:j<C.length∨j=C.length∨j=C.length+1:=by omega
 rcases hk3 with q|rfl|rfl<;>rcases hj3 with r|rfl|rfl
 · rw[H.old k s q hs,H.old j u r hu]at e
   obtain⟨-,-,-,c1,c2⟩:=pd_at hm k s q hs
   obtain⟨-,-,-,d1,d2⟩:=pd_at hm j u r hu
   refine pd_inj hm r hu q hs ?_
   split at e<;>split at e<;>(try split at e)<;>(try split at e)<;>omega
 · have:=H.oldle hm q hs
   rcases H.newP hu with⟨-,f⟩|⟨-,f⟩|⟨-,f⟩|⟨-,f⟩<;>omega
 · have:=H.oldle hm q hs
   rcases H.newQ hu with⟨-,f⟩|⟨-,f⟩|⟨-,f⟩|⟨-,f⟩<;>omega
 · have:=H.oldle hm r hu
   rcases H.newP hs with⟨-,f⟩|⟨-,f⟩|⟨-,f⟩|⟨-,f⟩<;>omega
 · refine⟨rfl,?_⟩
   rcases H.newP hs with⟨e1,f⟩|⟨e1,f⟩|⟨e1,f⟩|⟨e1,f⟩<;>rcases H.newP hu with⟨e2,f'⟩|⟨e2,f'⟩|⟨e2,f'⟩|⟨e2,f'⟩<;>omega
 · exfalso
   rcases H.newP hs with⟨e1,f⟩|⟨e1,f⟩|⟨e1,f⟩|⟨e1,f⟩<;>rcases H.newQ hu with⟨e2,f'⟩|⟨e2,f'⟩|⟨e2,f'⟩|⟨e2,f'⟩<;>omega
 · have:=H.oldle hm r hu
   rcases H.newQ hs with⟨-,f⟩|⟨-,f⟩|⟨-,f⟩|⟨-,f⟩<;>omega
 · exfalso
   rcases H.newQ hs with⟨e1,f⟩|⟨e1,f⟩|⟨e1,f⟩|⟨e1,f⟩<;>rcases H.newP hu with⟨e2,f'⟩|⟨e2,f'⟩|⟨e2,f'⟩|⟨e2,f'⟩<;>omega
 · refine⟨rfl,?_⟩
   rcases H.newQ hs with⟨e1,f⟩|⟨e1,f⟩|⟨e1,f⟩|⟨e1,f⟩<;>rcases H.newQ hu with⟨e2,f'⟩|⟨e2,f'⟩|⟨e2,f'⟩|⟨e2,f'⟩<;>omega
end
end Go.Proofs.Ytagaajlbkfkaiaa
/- Plain mathematics: the faces of a push. -/
namespace Go.Proofs.Ytagaajlbkfkaiaa
def cutG (C:List Cr) (un vn:Nat) (w:Nat):Nat:=sw2 (2*vn) (4*C.length+8) (sw2 (2*un) (4*C.length+4) (tr (tr (xt C) (2*un-1) (4*C.length+3)) (2*vn-1) (4*C.length+7) w))
def sgP (n un vn z:Nat):Nat:=if z=2*un then 4*n+4 else if z=2*vn then 4*n+8 else z
section
variable {C D:List Cr} {lo l2:Int} {un vn:Nat} {ub vb:Bool} {g h:Nat}
theorem sw_sg {n z:Nat} (hz:z<=4*n) (hv:vn<=2*n):sw2 (2*vn) (4*n+8) (sw2 (2*un) (4*n+4) z)=sgP n un vn z:=by
 unfold sgP
 by_cases h1:z=2*un
 · rw[if_pos h1,h1,sw2_u,sw2_o (by omega) (by omega)]
 · rw[if_neg h1,sw2_o h1 (by omega)]
   by_cases h2:z=2*vn
   · rw[if_pos h2,h2,sw2_u]
   · rw[if_neg h2,sw2_o h2 (by omega)]
theorem cutG_at (hm:mayD C lo=true) (hu1:1<=un) (hu2:un<=2*C.length) (hv1:1<=vn) (hv2:vn<=2*C.length) (hne:un≠vn):
    cutG C un vn 0=0/\(∀ w,1<=w->w<=4*C.length->w≠2*un-1->w≠2*vn-1->cutG C un vn w=sgP C.length un vn (fd C w))/\
    cutG C un vn (2*un-1)=4*C.length+3/\cutG C un vn (4*C.length+3)=sgP C.length un vn (fd C (2*un-1))/\cutG C un vn (4*C.length+4)=2*un/\
    cutG C un vn (2*vn-1)=4*C.length+7/\cutG C un vn (4*C.length+7)=sgP C.length un vn (fd C (2*vn-1))/\cutG C un vn (4*C.length+8)=2*vn/\
    cutG C un vn (4*C.length+1)=4*C.length+1/\cutG C un vn (4*C.length+2)=4*C.length+2/\cutG C un vn (4*C.length+5)=4*C.length+5/\cutG C un vn (4*C.length+6)=4*C.length+6:=by
 have hf:∀ w,1<=w->w<=4*C.length->1<=fd C w/\fd C w<=4*C.length:=fun w h1 h2=>(fd_may hm w h1 h2).2.2
 unfold cutG
 refine⟨?_,fun w h1 h2 h3 h4=>?_,?_,?_,?_,?_,?_,?_,?_,?_,?_,?_⟩
 · rw[tr_o _ (by omega) (by omega),tr_o _ (by omega) (by omega),xt_zero,sw2_o (u:=2*un) (by omega) (by omega),sw2_o (u:=2*vn) (by omega) (by omega)]
 · rw[tr_o _ h4 (by omega),tr_o _ h3 (by omega),xt_low h1 h2]
   exact sw_sg (hf w h1 h2).2 hv2
 · rw[tr_o _ (by omega) (by omega),tr_a,QJ8 (by omega),sw2_o (u:=2*un) (by omega) (by omega),sw2_o (u:=2*vn) (by omega) (by omega)]
 · rw[tr_o _ (by omega) (by omega),tr_b,xt_low (by omega) (by omega)]
   exact sw_sg (hf _ (by omega) (by omega)).2 hv2
 · rw[tr_o _ (by omega) (by omega),tr_o _ (by omega) (by omega),QJ8 (by omega),sw2_v,sw2_o (by omega) (by omega)]
 · rw[tr_a,tr_o _ (by omega) (by omega),QJ8 (by omega),sw2_o (u:=2*un) (by omega) (by omega),sw2_o (u:=2*vn) (by omega) (by omega)]
 · rw[tr_b,tr_o _ (by omega) (by omega),xt_low (by omega) (by omega)]
   exact sw_sg (hf _ (by omega) (by omega)).2 hv2
 · rw[tr_o _ (by omega) (by omega),tr_o _ (by omega) (by omega),QJ8 (by omega),sw2_o (u:=2*un) (by omega) (by omega),sw2_v]
 all_goals rw[tr_o _ (by omega) (by omega),tr_o _ (by omega) (by omega),QJ8 (by omega),sw2_o (u:=2*un) (by omega) (by omega),sw2_o (u:=2*vn) (by omega) (by omega)]
theorem cutG_ins (hm:mayD C lo=true) (hu1:1<=un) (hu2:un<=2*C.length) (hv1:1<=vn) (hv2:vn<=2*C.length):
    Bij (cutG C un vn) (4*C.length+9)/\cyA (cutG C un vn) (4*C.length+9)=(QQ3 C).length+5/\∀ x y,Con (eds (up0 (fd C)) (4*C.length+1)) x y->Con (eds (cutG C un vn) (4*C.length+9)) x y:=by
 have b0:=xt_bij hm 8
 rw[show 4*C.length+1+8=4*C.length+9 by omega]at b0
 have c0:=xt_count hm 8
 rw[show 4*C.length+1+8=4*C.length+9 by omega]at c0
 have i1:=ins_behind b0 (w:=2*un-1) (z:=4*C.length+3) (by omega) (by omega) (QJ8 (by omega)) (by omega)
 have i2:=ins_behind i1.bij (w:=2*vn-1) (z:=4*C.length+7) (by omega) (by omega) (by rw[tr_o _ (by omega) (by omega)];exact QJ8 (by omega)) (by omega)
 have i3:=ins_ahead i2.bij (x:=2*un) (z:=4*C.length+4) (by omega) (by omega) (by rw[tr_o _ (by omega) (by omega),tr_o _ (by omega) (by omega)];exact QJ8 (by omega)) (by omega)
 have i4:=ins_ahead i3.bij (x:=2*vn) (z:=4*C.length+8) (by omega) (by omega) (by
  show sw2 _ _ _=_
  rw[tr_o _ (by omega) (by omega),tr_o _ (by omega) (by omega),QJ8 (by omega),sw2_o (by omega) (by omega)]) (by omega)
 have e1:=i1.cnt
 have e2:=i2.cnt
 have e3:=i3.cnt
 have e4:=i4.cnt
 refine⟨i4.bij,?_,fun x y hc=>i4.con x y (i3.con x y (i2.con x y (i1.con x y (con_sub (fun e he=>?_) hc))))⟩
 · show cyA (fun w=>sw2 (2*vn) (4*C.length+8) (sw2 (2*un) (4*C.length+4) (tr (tr (xt C) (2*un-1) (4*C.length+3)) (2*vn-1) (4*C.length+7) w))) (4*C.length+9)=_
   omega
 · obtain⟨i,hi,rfl⟩:=List.mem_map.1 he
   have hi':=List.mem_range.1 hi
   have:xt C i=up0 (fd C) i:=if_pos (by omega)
   show Con _ i (up0 (fd C) i)
   rw[<-this]
   exact con_f (by omega)
theorem face_con (hm:mayD C lo=true) {u v:Nat} (hf:ofB C u v=true):Con (eds (up0 (fd C)) (4*C.length+1)) u v:=by
 obtain⟨l,hl,hin⟩:=List.any_eq_true.1 hf
 rw[Bool.and_eq_true]at hin
 have h1:u∈l:=of_decide_eq_true hin.1
 have h2:v∈l:=of_decide_eq_true hin.2
 have hc:=(QV2 (QZ0 hm) (fun a b p q r s t=>fd_inj hm a b p q r s t) (4*C.length) (Nat.le_refl _)).2.2 l hl
 have hr:=(QV3 (QZ0 hm) (4*C.length) (Nat.le_refl _) l hl).2.2
 obtain⟨i,hi,ei⟩:=mem_atZ h1
 obtain⟨j,hj,ej⟩:=mem_atZ h2
 have ci:=ring_con hr hc.1 i hi
 have cj:=ring_con hr hc.1 j hj
 rw[ei]at ci
 rw[ej]at cj
 exact ci.symm.trans cj
def pushH (C:List Cr) (un vn:Nat) (ub vb:Bool):Nat->Nat:=
 tr (tr (tr (tr (cutG C un vn) (d0 (4*C.length) un ub) (d0 (4*C.length+4) vn vb)) (r2 (4*C.length) un ub) (d1 (4*C.length+4) vb)) (r2 (4*C.length+4) vn vb) (d1 (4*C.length) ub)) (r1 (4*C.length) ub) (r1 (4*C.length+4) vb)
theorem pushH_at (hm:mayD C lo=true) (hu1:1<=un) (hu2:un<=2*C.length) (hv1:1<=vn) (hv2:vn<=2*C.length) (hne:un≠vn):
    pushH C un vn ub vb 0=0/\(∀ w,1<=w->w<=4*C.length->w≠2*un-1->w≠2*vn-1->pushH C un vn ub vb w=sgP C.length un vn (fd C w))/\pushH C un vn ub vb (4*C.length+3)=sgP C.length un vn (fd C (2*un-1))/\pushH C un vn ub vb (4*C.length+7)=sgP C.length un vn (fd C (2*vn-1))/\
    pushH C un vn ub vb (d0 (4*C.length) un ub)=d2 (4*C.length+4) vn vb/\pushH C un vn ub vb (d0 (4*C.length+4) vn vb)=d2 (4*C.length) un ub/\pushH C un vn ub vb (r2 (4*C.length) un ub)=d1 (4*C.length+4) vb/\pushH C un vn ub vb (d1 (4*C.length+4) vb)=r0 (4*C.length) un ub/\
    pushH C un vn ub vb (r2 (4*C.length+4) vn vb)=d1 (4*C.length) ub/\pushH C un vn ub vb (d1 (4*C.length) ub)=r0 (4*C.length+4) vn vb/\pushH C un vn ub vb (r1 (4*C.length) ub)=r1 (4*C.length+4) vb/\pushH C un vn ub vb (r1 (4*C.length+4) vb)=r1 (4*C.length) ub:=by
 obtain⟨z0,zo,zu1,zu3,zu4,zv1,zv3,zv4,y1,y2,y5,y6⟩:=cutG_at hm hu1 hu2 hv1 hv2 hne
 have cu:=QU8 (4*C.length) un ub
 have cv:=QU8 (4*C.length+4) vn vb
 -- along each strand
 have gu:cutG C un vn (d0 (4*C.length) un ub)=d2 (4*C.length) un ub:=by
  rcases cu with⟨-,e0,-,e2,-⟩|⟨-,e0,-,e2,-⟩<;>rw[e0,e2]<;>assumption
 have gv:cutG C un vn (d0 (4*C.length+4) vn vb)=d2 (4*C.length+4) vn vb:=by
  rcases cv with⟨-,e0,-,e2,-⟩|⟨-,e0,-,e2,-⟩<;>rw[e0,e2]<;>assumption
 have hu:cutG C un vn (r2 (4*C.length) un ub)=r0 (4*C.length) un ub:=by
  rcases cu with⟨-,-,-,-,e0,-,e2⟩|⟨-,-,-,-,e0,-,e2⟩<;>rw[e0,e2]<;>assumption
 have hv:cutG C un vn (r2 (4*C.length+4) vn vb)=r0 (4*C.length+4) vn vb:=by
  rcases cv with⟨-,-,-,-,e0,-,e2⟩|⟨-,-,-,-,e0,-,e2⟩<;>rw[e0,e2]<;>assumption
 have fu1:cutG C un vn (d1 (4*C.length) ub)=d1 (4*C.length) ub:=by
  rcases cu with⟨-,-,e,-⟩|⟨-,-,e,-⟩<;>rw[e]<;>assumption
 have fv1:cutG C un vn (d1 (4*C.length+4) vb)=d1 (4*C.length+4) vb:=by
  rcases cv with⟨-,-,e,-⟩|⟨-,-,e,-⟩<;>rw[e]<;>assumption
 have ru1:cutG C un vn (r1 (4*C.length) ub)=r1 (4*C.length) ub:=by
  rcases cu with⟨-,-,-,-,-,e,-⟩|⟨-,-,-,-,-,e,-⟩<;>rw[e]<;>assumption
 have rv1:cutG C un vn (r1 (4*C.length+4) vb)=r1 (4*C.length+4) vb:=by
  rcases cv with⟨-,-,-,-,-,e,-⟩|⟨-,-,-,-,-,e,-⟩<;>rw[e]<;>assumption
 unfold pushH
 refine⟨?_,fun w h1 h2 h3 h4=>?_,?_,?_,?_,?_,?_,?_,?_,?_,?_,?_⟩
 · rw[tr_o _ (by omega) (by omega),tr_o _ (by omega) (by omega),tr_o _ (by omega) (by omega),tr_o _ (by omega) (by omega),z0]
 · rw[tr_o _ (by omega) (by omega),tr_o _ (by omega) (by omega),tr_o _ (by omega) (by omega),tr_o _ (by omega) (by omega),zo w h1 h2 h3 h4]
 · rw[tr_o _ (by omega) (by omega),tr_o _ (by omega) (by omega),tr_o _ (by omega) (by omega),tr_o _ (by omega) (by omega),zu3]
 · rw[tr_o _ (by omega) (by omega),tr_o _ (by omega) (by omega),tr_o _ (by omega) (by omega),tr_o _ (by omega) (by omega),zv3]
 · rw[tr_o _ (by omega) (by omega),tr_o _ (by omega) (by omega),tr_o _ (by omega) (by omega),tr_a,gv]
 · rw[tr_o _ (by omega) (by omega),tr_o _ (by omega) (by omega),tr_o _ (by omega) (by omega),tr_b,gu]
 · rw[tr_o _ (by omega) (by omega),tr_o _ (by omega) (by omega),tr_a,tr_o _ (by omega) (by omega),fv1]
 · rw[tr_o _ (by omega) (by omega),tr_o _ (by omega) (by omega),tr_b,tr_o _ (by omega) (by omega),hu]
 · rw[tr_o _ (by omega) (by omega),tr_a,tr_o _ (by omega) (by omega),tr_o _ (by omega) (by omega),fu1]
 · rw[tr_o _ (by omega) (by omega),tr_b,tr_o _ (by omega) (by omega),tr_o _ (by omega) (by omega),hv]
 · rw[tr_a,tr_o _ (by omega) (by omega),tr_o _ (by omega) (by omega),tr_o _ (by omega) (by omega),rv1]
 · rw[tr_b,tr_o _ (by omega) (by omega),tr_o _ (by omega) (by omega),tr_o _ (by omega) (by omega),ru1]
theorem pushH_count (hm:mayD C lo=true) (hu1:1<=un) (hu2:un<=2*C.length) (hv1:1<=vn) (hv2:vn<=2*C.length) (hne:un≠vn) (hf:ofB C (mkD un ub) (mkD vn vb)=true):cyA (pushH C un vn ub vb) (4*C.length+9)=(QQ3 C).length+3:=by
 obtain⟨b0,c0,hcon⟩:=cutG_ins hm hu1 hu2 hv1 hv2
 obtain⟨z0,zo,zu1,zu3,zu4,zv1,zv3,zv4,y1,y2,y5,y6⟩:=cutG_at hm hu1 hu2 hv1 hv2 hne
 have cu:=QU8 (4*C.length) un ub
 have cv:=QU8 (4*C.length+4) vn vb
 have fu1:cutG C un vn (d1 (4*C.length) ub)=d1 (4*C.length) ub:=by
  rcases cu with⟨-,-,e,-⟩|⟨-,-,e,-⟩<;>rw[e]<;>assumption
 have fv1:cutG C un vn (d1 (4*C.length+4) vb)=d1 (4*C.length+4) vb:=by
  rcases cv with⟨-,-,e,-⟩|⟨-,-,e,-⟩<;>rw[e]<;>assumption
 have rv1:cutG C un vn (r1 (4*C.length+4) vb)=r1 (4*C.length+4) vb:=by
  rcases cv with⟨-,-,-,-,-,e,-⟩|⟨-,-,-,-,-,e,-⟩<;>rw[e]<;>assumption
 have ku:Con (eds (cutG C un vn) (4*C.length+9)) (d0 (4*C.length) un ub) (mkD un ub):=by
  cases ub with
  |false=>exact Con.refl _ _
  |true=>
   have:=con_f (f:=cutG C un vn) (M:=4*C.length+9) (x:=4*C.length+4) (by omega)
   rw[zu4]at this
   exact this
 have kv:Con (eds (cutG C un vn) (4*C.length+9)) (d0 (4*C.length+4) vn vb) (mkD vn vb):=by
  cases vb with
  |false=>exact Con.refl _ _
  |true=>
   have:=con_f (f:=cutG C un vn) (M:=4*C.length+9) (x:=4*C.length+8) (by omega)
   rw[zv4]at this
   exact this
 have hc:=ku.trans ((hcon _ _ (face_con hm hf)).trans kv.symm)
 have b1:=b0.tr (a:=d0 (4*C.length) un ub) (b:=d0 (4*C.length+4) vn vb) (by omega) (by omega)
 have e1:=cyA_part b0 (a:=d0 (4*C.length) un ub) (b:=d0 (4*C.length+4) vn vb) (by omega) (by omega) (by omega) hc
 have b2:=b1.tr (a:=r2 (4*C.length) un ub) (b:=d1 (4*C.length+4) vb) (by omega) (by omega)
 have e2:=QJ6 b1 (w:=r2 (4*C.length) un ub) (z:=d1 (4*C.length+4) vb) (by omega) (by omega) (by rw[tr_o _ (by omega) (by omega),fv1]) (by omega)
 have b3:=b2.tr (a:=r2 (4*C.length+4) vn vb) (b:=d1 (4*C.length) ub) (by omega) (by omega)
 have e3:=QJ6 b2 (w:=r2 (4*C.length+4) vn vb) (z:=d1 (4*C.length) ub) (by omega) (by omega) (by rw[tr_o _ (by omega) (by omega),tr_o _ (by omega) (by omega),fu1]) (by omega)
 have e4:=QJ6 b3 (w:=r1 (4*C.length) ub) (z:=r1 (4*C.length+4) vb) (by omega) (by omega) (by rw[tr_o _ (by omega) (by omega),tr_o _ (by omega) (by omega),tr_o _ (by omega) (by omega),rv1]) (by omega)
 unfold pushH
 omega
theorem al_dr (m a:Nat) (b:Bool) (hm:m%2=0) (ha:1<=a):al (d1 m b)=r1 m b/\al (r1 m b)=d1 m b/\al (d2 m a b)=r2 m a b/\al (r0 m a b)=d0 m a b:=by
 have q1:al (m+1)=m+2:=by rw[show m+1=2*(m / 2)+1 by omega,al_odd];omega
 have q2:al (m+2)=m+1:=by rw[show m+2=2*(m / 2)+2 by omega,al_even];omega
 have q3:al (m+3)=m+4:=by rw[show m+3=2*(m / 2+1)+1 by omega,al_odd];omega
 have q4:al (2*a)=2*a-1:=(al_back' ha).1
 rcases QU8 m a b with⟨-,e0,e1,e2,f0,f1,f2⟩|⟨-,e0,e1,e2,f0,f1,f2⟩<;>rw[e0,e1,e2,f0,f1,f2]
 · exact⟨q2,q1,q4,q3⟩
 · exact⟨q1,q2,q3,q4⟩
theorem PushD.faces (H:PushD C D un vn ub vb g h) (hm:mayD C lo=true) (hm':mayD D l2=true) (hf:ofB C (mkD un ub) (mkD vn vb)=true):(QQ3 D).length=(QQ3 C).length+2:=by
 have hu1:=H.u1
 have hu2:=H.u2
 have hv1:=H.v1
 have hv2:=H.v2
 have hne:=H.ne
 have hl:=H.len
 have hg4:=H.g4
 have hh4:=H.h4
 obtain⟨z0,zo,z3,z7,a1,a2,a3,a4,a5,a6,a7,a8⟩:=pushH_at (ub:=ub) (vb:=vb) hm hu1 hu2 hv1 hv2 hne
 obtain⟨lu1,lu2,lu3,lu4⟩:=al_dr (4*C.length) un ub (by omega) hu1
 obtain⟨lv1,lv2,lv3,lv4⟩:=al_dr (4*C.length+4) vn vb (by omega) hv1
 have hold:∀ k s,k<C.length->s<4->pd D (4*k+s)=sgP C.length un vn (pd C (4*k+s)):=fun k s hk hs=>H.old k s hk hs
 have hc:=face_count hm' (pushH C un vn ub vb) z0 (fun k s hk hs=>?_)
 · rw[hl,show 4*(C.length+2)+1=4*C.length+9 by omega,pushH_count hm hu1 hu2 hv1 hv2 hne hf]at hc
   omega
 · have hk3:k<C.length∨k=C.length∨k=C.length+1:=by omega
   rcases hk3 with q|rfl|rfl
   · have hs3:(s+3)%4<4:=Nat.mod_lt _ (by decide)
     have hsig:=pd_sig hm k s q hs
     obtain⟨-,-,-,w1,w2⟩:=pd_at hm k s q hs
     have hw:=QW5 w1 w2
     rw[hold k s q hs,hold k _ q hs3]
     by_cases e1:pd C (4*k+s)=2*un
     · have e3:al (4*C.length+4)=4*C.length+3:=by rw[show 4*C.length+4=2*(2*C.length+1)+2 by omega,al_even];omega
       rw[e1,(al_back' hu1).1]at hsig
       rw[e1]
       unfold sgP
       rw[if_pos rfl,e3,z3,hsig]
       rfl
     · by_cases e2:pd C (4*k+s)=2*vn
       · have e3:al (4*C.length+8)=4*C.length+7:=by rw[show 4*C.length+8=2*(2*C.length+3)+2 by omega,al_even];omega
         rw[e2,(al_back' hv1).1]at hsig
         have es:sgP C.length un vn (pd C (4*k+s))=4*C.length+8:=by
          unfold sgP
          rw[if_neg e1,if_pos e2]
         rw[es,e3,z7,hsig]
       · have es:sgP C.length un vn (pd C (4*k+s))=pd C (4*k+s):=by
           unfold sgP
           rw[if_neg e1,if_neg e2]
         have n1:al (pd C (4*k+s))≠2*un-1:=by rw[<-(al_back' hu1).1];exact al_ne e1
         have n2:al (pd C (4*k+s))≠2*vn-1:=by rw[<-(al_back' hv1).1];exact al_ne e2
         rw[es,zo _ hw.1 hw.2.1 n1 n2,hsig]
   · rcases H.newP hs with⟨e1,f⟩|⟨e1,f⟩|⟨e1,f⟩|⟨e1,f⟩
     · rw[f,lv2,a4,e1,H.ps]
     · have e2:(s+3)%4=g:=by omega
       rw[f,lu1,a7,e2,H.pe]
     · have e2:(s+3)%4=(g+1)%4:=by omega
       rw[f,lv3,a5,e2,H.pn]
     · have e2:(s+3)%4=(g+2)%4:=by omega
       rw[f,lu4,a1,e2,H.pw]
   · rcases H.newQ hs with⟨e1,f⟩|⟨e1,f⟩|⟨e1,f⟩|⟨e1,f⟩
     · rw[f,lv4,a2,e1,H.qs]
     · have e2:(s+3)%4=h:=by omega
       rw[f,lu2,a6,e2,H.qe]
     · have e2:(s+3)%4=(h+1)%4:=by omega
       rw[f,lv1,a8,e2,H.qn]
     · have e2:(s+3)%4=(h+2)%4:=by omega
       rw[f,lu3,a3,e2,H.qw]
end
end Go.Proofs.Ytagaajlbkfkaiaa
/- Plain mathematics: a push: its pieces; it is planar; the push that moves lay. -/
namespace Go.Proofs.Ytagaajlbkfkaiaa
section
variable {C D:List Cr} {lo l2:Int} {un vn:Nat} {ub vb:Bool} {g h:Nat}
theorem PushD.pieces (H:PushD C D un vn ub vb g h) (hm:mayD C lo=true) (hm':mayD D l2=true):pcN D<=pcN C:=by
 have hu1:=H.u1
 have hu2:=H.u2
 have hv1:=H.v1
 have hv2:=H.v2
 have hl:=H.len
 have hg:=H.g4
 have hh:=H.h4
 have hne:=H.ne
 have m4:∀ z,z%4<4:=fun z=>Nat.mod_lt _ (by decide)
 have en:∀ a p,1<=a->a<=2*C.length->((a≠un/\a≠vn)∨p=false)->enC D a p=enC C a p:=fun a p h1 h2 h3=>by
  obtain⟨g1,g2,g3⟩:=pd_en hm p h1 h2
  refine(en_pd hm' (by omega) g2 h1 ?_).1
  rw[H.old _ _ g1 g2,g3]
  have q1:mkD a p≠2*un:=fun e=>by
   unfold mkD at e
   rcases h3 with h3|h3
   · split at e<;>omega
   · subst h3
     simp at e
     omega
  have q2:mkD a p≠2*vn:=fun e=>by
   unfold mkD at e
   rcases h3 with h3|h3
   · split at e<;>omega
   · subst h3
     simp at e
     omega
  rw[if_neg q1,if_neg q2]
 -- the middle arcs join both new crossings
 have c12:Con (arcE D) C.length (C.length+1):=by
  have:=QW8 (D:=D) (a:=2*C.length+1) (by omega) (by omega)
  have e1:mkD (2*C.length+1) true=4*C.length+2:=by unfold mkD;simp;omega
  have e2:mkD (2*C.length+1) false=4*C.length+1:=by unfold mkD;simp;omega
  cases ub with
  |true=>
   have a1:=(en_pd hm' (k:=C.length) (by omega) (m4 _) (by omega) (H.pn.trans e1.symm)).1
   have a2:=(en_pd hm' (k:=C.length+1) (by omega) (m4 _) (by omega) (H.qn.trans e2.symm)).1
   rw[a1,a2]at this
   exact this
  |false=>
   have a1:=(en_pd hm' (k:=C.length) (by omega) (m4 _) (by omega) (H.pn.trans e2.symm)).1
   have a2:=(en_pd hm' (k:=C.length+1) (by omega) (m4 _) (by omega) (H.qn.trans e1.symm)).1
   rw[a1,a2]at this
   exact this.symm
 have near:∀ u,u=C.length∨u=C.length+1->Con (arcE D) C.length u:=fun u hu=>by
  rcases hu with rfl|rfl
  · exact Con.refl _ _
  · exact c12
 -- both ends of each cut strand
 have fu:Con (arcE D) C.length (enC C un false):=by
  have:=QW8 (D:=D) hu1 (by omega)
  have e1:enC D un true=C.length∨enC D un true=C.length+1:=by
   cases ub with
   |true=>exact Or.inr (en_pd hm' (k:=C.length+1) (by omega) (m4 _) hu1 H.qs).1
   |false=>exact Or.inl (en_pd hm' (k:=C.length) (by omega) (m4 _) hu1 H.ps).1
  rw[en un false hu1 hu2 (Or.inr rfl)]at this
  exact(near _ e1).trans this
 have fv:Con (arcE D) C.length (enC C vn false):=by
  have:=QW8 (D:=D) hv1 (by omega)
  have e1:enC D vn true=C.length∨enC D vn true=C.length+1:=by
   cases vb with
   |true=>exact Or.inl (en_pd hm' (k:=C.length) (by omega) (m4 _) hv1 H.pw).1
   |false=>exact Or.inr (en_pd hm' (k:=C.length+1) (a:=vn) (p:=true) (by omega) hh hv1 H.qe).1
  rw[en vn false hv1 hv2 (Or.inr rfl)]at this
  exact(near _ e1).trans this
 have tu:Con (arcE D) C.length (enC C un true):=by
  have:=QW8 (D:=D) (a:=2*C.length+2) (by omega) (by omega)
  have e3:mkD (2*C.length+2) false=4*C.length+3:=by unfold mkD;simp;omega
  have e1:enC D (2*C.length+2) false=C.length∨enC D (2*C.length+2) false=C.length+1:=by
   cases ub with
   |true=>exact Or.inl (en_pd hm' (k:=C.length) (by omega) (m4 _) (by omega) (H.ps.trans e3.symm)).1
   |false=>exact Or.inr (en_pd hm' (k:=C.length+1) (by omega) (m4 _) (by omega) (H.qs.trans e3.symm)).1
  have e2:enC D (2*C.length+2) true=enC C un true:=by
   obtain⟨g1,g2,g3⟩:=pd_en hm true hu1 hu2
   refine(en_pd hm' (by omega) g2 (by omega) ?_).1
   rw[H.old _ _ g1 g2,g3,if_pos (show mkD un true=2*un from rfl)]
   show 4*C.length+4=2*(2*C.length+2)
   omega
  rw[e2]at this
  exact(near _ e1).trans this.symm
 have tv:Con (arcE D) C.length (enC C vn true):=by
  have:=QW8 (D:=D) (a:=2*C.length+4) (by omega) (by omega)
  have e3:mkD (2*C.length+4) false=4*C.length+7:=by unfold mkD;simp;omega
  have e1:enC D (2*C.length+4) false=C.length∨enC D (2*C.length+4) false=C.length+1:=by
   cases vb with
   |true=>exact Or.inr (en_pd hm' (k:=C.length+1) (by omega) hh (by omega) (H.qe.trans e3.symm)).1
   |false=>exact Or.inl (en_pd hm' (k:=C.length) (by omega) (m4 _) (by omega) (H.pw.trans e3.symm)).1
  have e2:enC D (2*C.length+4) true=enC C vn true:=by
   obtain⟨g1,g2,g3⟩:=pd_en hm true hv1 hv2
   refine(en_pd hm' (by omega) g2 (by omega) ?_).1
   rw[H.old _ _ g1 g2,g3,if_neg (show mkD vn true≠2*un by show 2*vn≠2*un;omega),if_pos (show mkD vn true=2*vn from rfl)]
   show 4*C.length+8=2*(2*C.length+4)
   omega
  rw[e2]at this
  exact(near _ e1).trans this.symm
 have hsub:∀ u v,Con (arcE C) u v->Con (arcE D) u v:=fun u v=>con_sub fun e he=>by
  obtain⟨a,h1,h2,rfl⟩:=arcE_mem he
  by_cases ha:a=un
  · subst ha
    exact tu.symm.trans fu
  · by_cases hb:a=vn
    · subst hb
      exact tv.symm.trans fv
    · have:=QW8 (D:=D) h1 (by omega)
      rw[en a true h1 h2 (Or.inl ⟨ha,hb⟩),en a false h1 h2 (Or.inl ⟨ha,hb⟩)]at this
      exact this
 unfold pcN
 rw[hl]
 refine kN_inj (QU9 hm) (by have:=QU9 hm';rw[hl]at this;exact this) (fun v=>if v<C.length then v else enC C un true) (fun v hv=>?_) fun u v hu hv hc=>?_
 · split
   · assumption
   · exact(pd_en hm true hu1 hu2).1
 · have hd:=hsub _ _ hc
   have hto:∀ u,u<C.length+2->Con (arcE D) u (if u<C.length then u else enC C un true):=fun u hu=>by
    split
    · exact Con.refl _ _
    · exact(near u (by omega)).symm.trans tu
   exact((hto u hu).trans hd).trans (hto v hv).symm
theorem PushD.planar (H:PushD C D un vn ub vb g h) (hm:mayD C lo=true) (hm':mayD D l2=true) (hp:QX1 C=true) (hf:ofB C (mkD un ub) (mkD vn vb)=true):QX1 D=true:=by
 have h1:=H.faces hm hm' hf
 have h2:=H.pieces hm hm'
 have h3:=H.len
 exact planar_more hm hm' hp (by omega)
end
theorem nat_3 (n:Nat):(2*(n:Int)+3).toNat=2*n+3:=by omega
theorem nat_11 (n:Nat):(2*(n:Int)+1+1).toNat=2*n+2:=by omega
theorem nat_31 (n:Nat):(2*(n:Int)+3+1).toNat=2*n+4:=by omega
def puP (n un vn:Nat) (ub vb ov:Bool):Cr:=laidX (2*(n:Int)+3) (2*(n:Int)+1) (if vb then(vn:Int) else 2*(n:Int)+3+1) (if ub then 2*(n:Int)+1+1 else(un:Int)) (!ub) (!vb) ov
def puQ (n un vn:Nat) (ub vb ov:Bool):Cr:=laidX (if vb then 2*(n:Int)+3+1 else(vn:Int)) (2*(n:Int)+1) (2*(n:Int)+3) (if ub then(un:Int) else 2*(n:Int)+1+1) ub (!vb) ov
theorem puP_pd (n un vn:Nat) (ub vb ov:Bool):∃ g,g<4/\g%2=(if ov=true then 0 else 1)/\∀ (P:Nat->Nat),(∀ s,s<4->P s=mkD ((puP n un vn ub vb ov).arc s).toNat ((puP n un vn ub vb ov).comes s))->
    P g=r1 (4*n+4) vb/\P ((g+1)%4)=d1 (4*n) ub/\P ((g+2)%4)=d2 (4*n+4) vn vb/\P ((g+3)%4)=r0 (4*n) un ub:=by
 cases ov<;>cases ub<;>cases vb
 case false.false.false=>exact⟨1,by omega,rfl,fun P h=>by rw[h 1 (by omega),h 2 (by omega),h 3 (by omega),h 0 (by omega)];simp[puP,laidX,Cr.arc,Cr.comes,mk_t,mk_f,QZ6,nat_3,nat_31,r1,d1,d2,r0];omega⟩
 case false.false.true=>exact⟨1,by omega,rfl,fun P h=>by rw[h 1 (by omega),h 2 (by omega),h 3 (by omega),h 0 (by omega)];simp[puP,laidX,Cr.arc,Cr.comes,mk_t,mk_f,QZ6,nat_3,r1,d1,d2,r0];omega⟩
 case false.true.false=>exact⟨3,by omega,rfl,fun P h=>by rw[h 3 (by omega),h 0 (by omega),h 1 (by omega),h 2 (by omega)];simp[puP,laidX,Cr.arc,Cr.comes,mk_t,mk_f,QZ6,nat_3,nat_11,nat_31,r1,d1,d2,r0];omega⟩
 case false.true.true=>exact⟨3,by omega,rfl,fun P h=>by rw[h 3 (by omega),h 0 (by omega),h 1 (by omega),h 2 (by omega)];simp[puP,laidX,Cr.arc,Cr.comes,mk_t,mk_f,QZ6,nat_3,nat_11,r1,d1,d2,r0];omega⟩
 case true.false.false=>exact⟨0,by omega,rfl,fun P h=>by rw[h 0 (by omega),h 1 (by omega),h 2 (by omega),h 3 (by omega)];simp[puP,laidX,Cr.arc,Cr.comes,mk_t,mk_f,QZ6,nat_3,nat_31,r1,d1,d2,r0];omega⟩
 case true.false.true=>exact⟨2,by omega,rfl,fun P h=>by rw[h 2 (by omega),h 3 (by omega),h 0 (by omega),h 1 (by omega)];simp[puP,laidX,Cr.arc,Cr.comes,mk_t,mk_f,QZ6,nat_3,r1,d1,d2,r0];omega⟩
 case true.true.false=>exact⟨0,by omega,rfl,fun P h=>by rw[h 0 (by omega),h 1 (by omega),h 2 (by omega),h 3 (by omega)];simp[puP,laidX,Cr.arc,Cr.comes,mk_t,mk_f,QZ6,nat_3,nat_11,nat_31,r1,d1,d2,r0];omega⟩
 case true.true.true=>exact⟨2,by omega,rfl,fun P h=>by rw[h 2 (by omega),h 3 (by omega),h 0 (by omega),h 1 (by omega)];simp[puP,laidX,Cr.arc,Cr.comes,mk_t,mk_f,QZ6,nat_3,nat_11,r1,d1,d2,r0];omega⟩
theorem puQ_pd (n un vn:Nat) (ub vb ov:Bool):∃ g,g<4/\g%2=(if ov=true then 0 else 1)/\∀ (P:Nat->Nat),(∀ s,s<4->P s=mkD ((puQ n un vn ub vb ov).arc s).toNat ((puQ n un vn ub vb ov).comes s))->
    P g=r0 (4*n+4) vn vb/\P ((g+1)%4)=r1 (4*n) ub/\P ((g+2)%4)=d1 (4*n+4) vb/\P ((g+3)%4)=d2 (4*n) un ub:=by
 cases ov<;>cases ub<;>cases vb
 case false.false.false=>exact⟨3,by omega,rfl,fun P h=>by rw[h 3 (by omega),h 0 (by omega),h 1 (by omega),h 2 (by omega)];simp[puQ,laidX,Cr.arc,Cr.comes,mk_t,mk_f,QZ6,nat_3,nat_11,r1,d1,d2,r0];omega⟩
 case false.false.true=>exact⟨3,by omega,rfl,fun P h=>by rw[h 3 (by omega),h 0 (by omega),h 1 (by omega),h 2 (by omega)];simp[puQ,laidX,Cr.arc,Cr.comes,mk_t,mk_f,QZ6,nat_3,nat_11,nat_31,r1,d1,d2,r0];omega⟩
 case false.true.false=>exact⟨1,by omega,rfl,fun P h=>by rw[h 1 (by omega),h 2 (by omega),h 3 (by omega),h 0 (by omega)];simp[puQ,laidX,Cr.arc,Cr.comes,mk_t,mk_f,QZ6,nat_3,r1,d1,d2,r0];omega⟩
 case false.true.true=>exact⟨1,by omega,rfl,fun P h=>by rw[h 1 (by omega),h 2 (by omega),h 3 (by omega),h 0 (by omega)];simp[puQ,laidX,Cr.arc,Cr.comes,mk_t,mk_f,QZ6,nat_3,nat_31,r1,d1,d2,r0];omega⟩
 case true.false.false=>exact⟨0,by omega,rfl,fun P h=>by rw[h 0 (by omega),h 1 (by omega),h 2 (by omega),h 3 (by omega)];simp[puQ,laidX,Cr.arc,Cr.comes,mk_t,mk_f,QZ6,nat_3,nat_11,r1,d1,d2,r0];omega⟩
 case true.false.true=>exact⟨2,by omega,rfl,fun P h=>by rw[h 2 (by omega),h 3 (by omega),h 0 (by omega),h 1 (by omega)];simp[puQ,laidX,Cr.arc,Cr.comes,mk_t,mk_f,QZ6,nat_3,nat_11,nat_31,r1,d1,d2,r0];omega⟩
 case true.true.false=>exact⟨0,by omega,rfl,fun P h=>by rw[h 0 (by omega),h 1 (by omega),h 2 (by omega),h 3 (by omega)];simp[puQ,laidX,Cr.arc,Cr.comes,mk_t,mk_f,QZ6,nat_3,r1,d1,d2,r0];omega⟩
 case true.true.true=>exact⟨2,by omega,rfl,fun P h=>by rw[h 2 (by omega),h 3 (by omega),h 0 (by omega),h 1 (by omega)];simp[puQ,laidX,Cr.arc,Cr.comes,mk_t,mk_f,QZ6,nat_3,nat_31,r1,d1,d2,r0];omega⟩
theorem puP_arc (n un vn:Nat) (ub vb ov:Bool) {s:Nat} (hs:s<4):(puP n un vn ub vb ov).arc s=un∨(puP n un vn ub vb ov).arc s=vn∨(2*(n:Int)+1<=(puP n un vn ub vb ov).arc s/\(puP n un vn ub vb ov).arc s<=2*(n:Int)+4):=by
 have hs':s=0∨s=1∨s=2∨s=3:=by omega
 cases ov<;>cases ub<;>cases vb<;>rcases hs' with rfl|rfl|rfl|rfl<;>simp[puP,laidX,Cr.arc]<;>omega
theorem puQ_arc (n un vn:Nat) (ub vb ov:Bool) {s:Nat} (hs:s<4):(puQ n un vn ub vb ov).arc s=un∨(puQ n un vn ub vb ov).arc s=vn∨(2*(n:Int)+1<=(puQ n un vn ub vb ov).arc s/\(puQ n un vn ub vb ov).arc s<=2*(n:Int)+4):=by
 have hs':s=0∨s=1∨s=2∨s=3:=by omega
 cases ov<;>cases ub<;>cases vb<;>rcases hs' with rfl|rfl|rfl|rfl<;>simp[puQ,laidX,Cr.arc]<;>omega
end Go.Proofs.Ytagaajlbkfkaiaa
/- Plain mathematics: the push that moves lay: planar, pulled apart again, and then what it was. -/
namespace Go.Proofs.Ytagaajlbkfkaiaa
theorem setL_plus (C:List Cr) {i k:Nat} (hi:i<C.length) (v:Int) (j:Nat):((setL C i k v).getD j Cr.none).plus=(C.getD j Cr.none).plus:=by
 rw[setL_get C hi]
 by_cases h:j=i
 · subst h
   rw[if_pos rfl]
   unfold Cr.at
   split
   · rfl
   · split
     · rfl
     · split<;>rfl
 · rw[if_neg h]
section
variable {C:List Cr} {lo:Int} {un vn:Nat} {ub vb ov:Bool}
theorem pushR_is (C:List Cr) (un vn:Nat) (ub vb ov:Bool):pushR C un ub vn vb ov=setL (setL C (toC C un) (toS C un) (2*(C.length:Int)+1+1)) (toC C vn) (toS C vn) (2*(C.length:Int)+3+1)++[puP C.length un vn ub vb ov,puQ C.length un vn ub vb ov]:=by
 unfold pushR puP puQ
 rw[List.append_assoc]
 rfl
theorem pushR_len (C:List Cr) (un vn:Nat) (ub vb ov:Bool):(pushR C un ub vn vb ov).length=C.length+2:=by
 rw[pushR_is]
 simp[QK8]
theorem pushR_old {k:Nat} (hk:k<C.length):(pushR C un ub vn vb ov).getD k Cr.none=(setL (setL C (toC C un) (toS C un) (2*(C.length:Int)+1+1)) (toC C vn) (toS C vn) (2*(C.length:Int)+3+1)).getD k Cr.none:=by
 rw[pushR_is]
 exact getDl (by rw[QK8,QK8];exact hk)
theorem pushR_P:(pushR C un ub vn vb ov).getD C.length Cr.none=puP C.length un vn ub vb ov:=by
 rw[pushR_is]
 have:=getDr (A:=setL (setL C (toC C un) (toS C un) (2*(C.length:Int)+1+1)) (toC C vn) (toS C vn) (2*(C.length:Int)+3+1)) (B:=[puP C.length un vn ub vb ov,puQ C.length un vn ub vb ov]) 0
 rw[QK8,QK8]at this
 exact this
theorem pushR_Q:(pushR C un ub vn vb ov).getD (C.length+1) Cr.none=puQ C.length un vn ub vb ov:=by
 rw[pushR_is]
 have:=getDr (A:=setL (setL C (toC C un) (toS C un) (2*(C.length:Int)+1+1)) (toC C vn) (toS C vn) (2*(C.length:Int)+3+1)) (B:=[puP C.length un vn ub vb ov,puQ C.length un vn ub vb ov]) 1
 rw[QK8,QK8]at this
 exact this
theorem pushR_arc (hm:mayD C lo=true) (hu1:1<=un) (hu2:un<=2*C.length) (hv1:1<=vn) (hv2:vn<=2*C.length) {k s:Nat} (hk:k<C.length) (hs:s<4):
    ((pushR C un ub vn vb ov).getD k Cr.none).arc s=(if k=toC C vn/\s=toS C vn then 2*(C.length:Int)+3+1 else if k=toC C un/\s=toS C un then 2*(C.length:Int)+1+1 else(C.getD k Cr.none).arc s)/\((pushR C un ub vn vb ov).getD k Cr.none).comes s=(C.getD k Cr.none).comes s:=by
 obtain⟨-,t1,t2,t3,t4⟩:=QJ0 hm un hu1 hu2
 obtain⟨-,w1,w2,w3,w4⟩:=QJ0 hm vn hv1 hv2
 rw[pushR_old hk,QU3 _ (by rw[QK8];exact w1) w2 _ _ hs,QU3 C t1 t2 _ _ hs,setL_comes _ (by rw[QK8];exact w1),setL_comes C t1]
 exact⟨rfl,rfl⟩
theorem pushR_d (hm:mayD C lo=true) (hu1:1<=un) (hu2:un<=2*C.length) (hv1:1<=vn) (hv2:vn<=2*C.length) (hne:un≠vn):
    ∃ g h,PushD C (pushR C un ub vn vb ov) un vn ub vb g h/\g%2=(if ov=true then 0 else 1)/\h%2=(if ov=true then 0 else 1):=by
 obtain⟨g,hg,hgo,G⟩:=puP_pd C.length un vn ub vb ov
 obtain⟨h,hh,hho,H⟩:=puQ_pd C.length un vn ub vb ov
 obtain⟨p0,p1,p2,p3⟩:=G (fun s=>pd (pushR C un ub vn vb ov) (4*C.length+s)) (fun s hs=>by
  show pd _ _=_
  rw[QW0 _ _ hs,pushR_P])
 obtain⟨q0,q1,q2,q3⟩:=H (fun s=>pd (pushR C un ub vn vb ov) (4*(C.length+1)+s)) (fun s hs=>by
  show pd _ _=_
  rw[QW0 _ _ hs,pushR_Q])
 obtain⟨-,t1,t2,t3,t4⟩:=QJ0 hm un hu1 hu2
 obtain⟨-,w1,w2,w3,w4⟩:=QJ0 hm vn hv1 hv2
 have hE:pd C (4*toC C un+toS C un)=2*un:=by rw[QW0 C _ t2,t3,t4];rfl
 have hF:pd C (4*toC C vn+toS C vn)=2*vn:=by rw[QW0 C _ w2,w3,w4];rfl
 refine⟨g,h,⟨pushR_len C un vn ub vb ov,hu1,hu2,hv1,hv2,hne,hg,hh,fun k s hk hs=>?_,p0,p1,p2,p3,q0,q1,q2,q3,fun k s hk hs=>?_⟩,hgo,hho⟩
 · obtain⟨a1,a2⟩:=pushR_arc (ub:=ub) (vb:=vb) (ov:=ov) hm hu1 hu2 hv1 hv2 hk hs
   rw[QW0 _ _ hs,a1,a2]
   by_cases e1:k=toC C un/\s=toS C un
   · obtain⟨rfl,rfl⟩:=e1
     have e2:¬ (toC C un=toC C vn/\toS C un=toS C vn):=fun q=>by
      rw[q.1,q.2,hF]at hE
      omega
     rw[if_neg e2,if_pos ⟨rfl,rfl⟩,t4,if_pos hE,nat_11,mk_t]
     omega
   · have n1:pd C (4*k+s)≠2*un:=fun e=>e1 (pd_inj hm hk hs t1 t2 (e.trans hE.symm))
     by_cases e2:k=toC C vn/\s=toS C vn
     · obtain⟨rfl,rfl⟩:=e2
       rw[if_pos ⟨rfl,rfl⟩,w4,if_neg n1,if_pos hF,nat_31,mk_t]
       omega
     · have n2:pd C (4*k+s)≠2*vn:=fun e=>e2 (pd_inj hm hk hs w1 w2 (e.trans hF.symm))
       rw[if_neg e2,if_neg e1,if_neg n1,if_neg n2,QW0 C _ hs]
 · rw[pushR_len]at hk ⊢
   have hk3:k<C.length∨k=C.length∨k=C.length+1:=by omega
   rcases hk3 with q|rfl|rfl
   · rw[(pushR_arc (ub:=ub) (vb:=vb) (ov:=ov) hm hu1 hu2 hv1 hv2 q hs).1]
     have f1:=QK7 hm k s q hs
     have g1:=f1.1
     have g2:=f1.2.1
     split
     · omega
     · split<;>omega
   · rw[pushR_P]
     rcases puP_arc C.length un vn ub vb ov hs with e|e|e<;>omega
   · rw[pushR_Q]
     rcases puQ_arc C.length un vn ub vb ov hs with e|e|e<;>omega
theorem pushR_may (hm:mayD C lo=true) (hp:QX1 C=true) (hu1:1<=un) (hu2:un<=2*C.length) (hv1:1<=vn) (hv2:vn<=2*C.length) (hne:un≠vn) (hf:ofB C (mkD un ub) (mkD vn vb)=true) (hn:C.length+2<=16):mayD (pushR C un ub vn vb ov) lo=true/\QX1 (pushR C un ub vn vb ov)=true:=by
 obtain⟨g,h,H,-,-⟩:=pushR_d (ub:=ub) (vb:=vb) (ov:=ov) hm hu1 hu2 hv1 hv2 hne
 obtain⟨-,l0,l16,-⟩:=QZ2 (QK3 hm)
 have hs:sizeB (pushR C un ub vn vb ov) lo=true:=sizeB_of (by rw[pushR_len];omega) l0 l16 (by rw[pushR_len];omega)
 have h1:=H.may hm hs
 exact⟨h1,H.planar hm h1 hp hf⟩
def rhP (n un vn v:Nat):Nat:=if v=2*n+1∨v=2*n+2 then un else if v=2*n+3∨v=2*n+4 then vn else v
theorem puE (n un vn:Nat) (ub vb ov:Bool):∃ L,[(((puP n un vn ub vb ov).arc 0).toNat,((puP n un vn ub vb ov).arc 2).toNat),(((puP n un vn ub vb ov).arc 1).toNat,((puP n un vn ub vb ov).arc 3).toNat),(((puQ n un vn ub vb ov).arc 0).toNat,((puQ n un vn ub vb ov).arc 2).toNat),(((puQ n un vn ub vb ov).arc 1).toNat,((puQ n un vn ub vb ov).arc 3).toNat)]=L/\
    (∀ e,e∈L->(e=(un,2*n+1)∨e=(2*n+1,un)∨e=(2*n+1,2*n+2)∨e=(2*n+2,2*n+1)∨e=(vn,2*n+3)∨e=(2*n+3,vn)∨e=(2*n+3,2*n+4)∨e=(2*n+4,2*n+3)))/\
    ((un,2*n+1)∈L∨(2*n+1,un)∈L)/\((2*n+1,2*n+2)∈L∨(2*n+2,2*n+1)∈L)/\((vn,2*n+3)∈L∨(2*n+3,vn)∈L)/\((2*n+3,2*n+4)∈L∨(2*n+4,2*n+3)∈L):=by
 refine⟨_,rfl,?_⟩
 cases ov<;>cases ub<;>cases vb<;>simp[puP,puQ,laidX,Cr.arc,QZ6,nat_3,nat_11,nat_31]
theorem con_or {L:List (Nat×Nat)} {a b:Nat} (h:(a,b)∈L∨(b,a)∈L):Con L a b:=by
 rcases h with h|h
 · exact Con.edge h
 · exact(Con.edge h).symm
theorem pushR_back (hm:mayD C lo=true) (hp:QX1 C=true) (hu1:1<=un) (hu2:un<=2*C.length) (hv1:1<=vn) (hv2:vn<=2*C.length) (hne:un≠vn) (hf:ofB C (mkD un ub) (mkD vn vb)=true) (hn:C.length+2<=16):takC (pushR C un ub vn vb ov) [C.length,C.length+1]=C/\takL (pushR C un ub vn vb ov) lo [C.length,C.length+1]=lo:=by
 obtain⟨hmD,-⟩:=pushR_may (ov:=ov) hm hp hu1 hu2 hv1 hv2 hne hf hn
 have hl:=pushR_len C un vn ub vb ov
 obtain⟨L,hL,hall,k1,k2,k3,k4⟩:=puE C.length un vn ub vb ov
 have hE:=tk_two' (pushR C un ub vn vb ov) C.length (C.length+1)
 rw[pushR_P,pushR_Q,hL]at hE
 obtain⟨-,t1,t2,t3,t4⟩:=QJ0 hm un hu1 hu2
 obtain⟨-,w1,w2,w3,w4⟩:=QJ0 hm vn hv1 hv2
 have ru:∀ v,v=un∨v=2*C.length+1∨v=2*C.length+2->rhP C.length un vn v=un:=fun v hv=>by
  unfold rhP
  split
  · rfl
  · rw[if_neg (by omega)]
    omega
 have rv:∀ v,v=vn∨v=2*C.length+3∨v=2*C.length+4->rhP C.length un vn v=vn:=fun v hv=>by
  unfold rhP
  rw[if_neg (by omega)]
  split
  · rfl
  · omega
 refine take_back hm hmD [C.length,C.length+1] (by omega) (fun k=>?_) (rhP C.length un vn) (fun u=>?_) (fun v hv=>?_) (fun v h1 h2=>?_) (fun v u hc=>?_) (fun v hv=>?_) (fun k hk=>⟨?_,fun s hs=>?_⟩)
 · simp only[List.mem_cons,List.not_mem_nil,or_false]
   omega
 · unfold rhP
   split
   · omega
   · split<;>omega
 · unfold rhP
   rw[if_neg (by omega),if_neg (by omega)]
 · unfold rhP
   split
   · omega
   · rw[if_pos (by omega)]
     omega
 · refine con_fun _ (fun e he=>?_) hc
   rw[hE]at he
   rcases hall e he with rfl|rfl|rfl|rfl|rfl|rfl|rfl|rfl
   · rw[ru _ (Or.inl rfl),ru _ (Or.inr (Or.inl rfl))]
   · rw[ru _ (Or.inr (Or.inl rfl)),ru _ (Or.inl rfl)]
   · rw[ru _ (Or.inr (Or.inl rfl)),ru _ (Or.inr (Or.inr rfl))]
   · rw[ru _ (Or.inr (Or.inr rfl)),ru _ (Or.inr (Or.inl rfl))]
   · rw[rv _ (Or.inl rfl),rv _ (Or.inr (Or.inl rfl))]
   · rw[rv _ (Or.inr (Or.inl rfl)),rv _ (Or.inl rfl)]
   · rw[rv _ (Or.inr (Or.inl rfl)),rv _ (Or.inr (Or.inr rfl))]
   · rw[rv _ (Or.inr (Or.inr rfl)),rv _ (Or.inr (Or.inl rfl))]
 · rw[hE]
   have cu1:Con L (2*C.length+1) un:=(con_or k1).symm
   have cu2:Con L (2*C.length+2) un:=(con_or k2).symm.trans cu1
   have cv1:Con L (2*C.length+3) vn:=(con_or k3).symm
   have cv2:Con L (2*C.length+4) vn:=(con_or k4).symm.trans cv1
   unfold rhP
   split
   · rename_i q
     rcases q with rfl|rfl
     · exact cu1
     · exact cu2
   · split
     · rename_i q
       rcases q with rfl|rfl
       · exact cv1
       · exact cv2
     · exact Con.refl _ _
 · rw[pushR_old hk,setL_plus _ (by rw[QK8];exact w1),setL_plus C t1]
 · rw[(pushR_arc (ub:=ub) (vb:=vb) (ov:=ov) hm hu1 hu2 hv1 hv2 hk hs).1]
   split
   · rename_i q
     rw[nat_31,q.1,q.2,w3]
     exact rv _ (Or.inr (Or.inr rfl))
   · split
     · rename_i q
       rw[nat_11,q.1,q.2,t3]
       exact ru _ (Or.inr (Or.inr rfl))
     · have f1:=QK7 hm k s hk hs
       have g2:=f1.2.1
       unfold rhP
       rw[if_neg (by omega),if_neg (by omega)]
theorem ring_two {D:List Cr} {l2:Int} (hm:mayD D l2=true) {x y:Nat} (hx1:1<=x) (hx2:x<=4*D.length) (hne:x≠y) (e1:fd D x=y) (e2:fd D y=x):∃ l,l∈QQ3 D/\(l=[x,y]∨l=[y,x]):=by
 have hi:=fo_lt (C:=D) x hx1 hx2
 have hu:x∈(QQ3 D).getD (fo D x) []:=(pt_mem (QJ2 (fd D) (4*D.length) x hx1 hx2) hi).2 rfl
 obtain⟨l,hl⟩:∃ l,(QQ3 D).getD (fo D x) []=l:=⟨_,rfl⟩
 have hin:l∈QQ3 D:=by
  rw[<-hl,List.getD_eq_getElem?_getD,List.getElem?_eq_getElem hi]
  exact List.getElem_mem hi
 rw[hl]at hu
 have hc:=(QV2 (QZ0 hm) (fun a b p q r s t=>fd_inj hm a b p q r s t) (4*D.length) (Nat.le_refl _)).2.2 l hin
 have hcnt:∀ y,l.count y<=1:=fun y=>by
  by_cases hy:y∈l
  · have hr:=(QV3 (QZ0 hm) (4*D.length) (Nat.le_refl _) l hin).2.2 y hy
    have h3:(QQ3 D).flatten.count y=1:=QJ2 (fd D) (4*D.length) y hr.1 hr.2
    have h4:l.count y<=(QQ3 D).flatten.count y:=(List.sublist_flatten_of_mem hin).count_le y
    omega
  · rw[List.count_eq_zero_of_not_mem hy]
    omega
 obtain⟨i,hi2,ei⟩:=mem_atZ hu
 have next:∀ j,j<l.length->l.getD (if j+1<l.length then j+1 else 0) 0=fd D (l.getD j 0):=fun j hj=>by
  split
  · rename_i q
    exact hc.1 j q
  · have:j=l.length-1:=by omega
    rw[this]
    exact hc.2.symm
 have same:∀ j k,j<l.length->k<l.length->l.getD j 0=l.getD k 0->j=k:=fun j k hj hk e=>by
  rcases Nat.lt_trichotomy j k with q|q|q
  · exact absurd e (at_ne hcnt q hk)
  · exact q
  · exact absurd e.symm (at_ne hcnt q hj)
 have n1:=next i hi2
 rw[ei,e1]at n1
 obtain⟨j,hj⟩:∃ j,(if i+1<l.length then i+1 else 0)=j:=⟨_,rfl⟩
 have hjl:j<l.length:=by
  rw[<-hj]
  split<;>omega
 rw[hj]at n1
 have n2:=next j hjl
 rw[n1,e2]at n2
 have e3:=same _ i (by split<;>omega) hi2 (n2.trans ei.symm)
 have hij:i≠j:=fun q=>hne (by rw[<-ei,q,n1])
 refine⟨l,hin,?_⟩
 have hlen:l.length=2:=by
  split at hj<;>split at e3<;>omega
 match l,hlen with
 |[a,b],_=>
  have hi':i=0∨i=1:=by
   have:i<2:=hi2
   omega
  rcases hi' with rfl|rfl
  · left
    have:j=1:=by rw[<-hj];rfl
    subst this
    have ea:a=x:=ei
    have eb:b=y:=n1
    rw[ea,eb]
  · right
    have:j=0:=by rw[<-hj];rfl
    subst this
    have ea:b=x:=ei
    have eb:a=y:=n1
    rw[ea,eb]
theorem pushR_jl (hm:mayD C lo=true) (hp:QX1 C=true) (hu1:1<=un) (hu2:un<=2*C.length) (hv1:1<=vn) (hv2:vn<=2*C.length) (hne:un≠vn) (hf:ofB C (mkD un ub) (mkD vn vb)=true) (hn:C.length+2<=16):(QQ3 (pushR C un ub vn vb ov)).any (jlR (pushR C un ub vn vb ov) C.length (C.length+1))=true:=by
 obtain⟨hmD,-⟩:=pushR_may (ov:=ov) hm hp hu1 hu2 hv1 hv2 hne hf hn
 obtain⟨g,h,H,hg2,hh2⟩:=pushR_d (ub:=ub) (vb:=vb) (ov:=ov) hm hu1 hu2 hv1 hv2 hne
 have ho:(ov=true/\g%2=0/\h%2=0)∨(ov=false/\g%2=1/\h%2=1):=by
  cases ov with
  |true=>exact Or.inl ⟨rfl,hg2,hh2⟩
  |false=>exact Or.inr ⟨rfl,hg2,hh2⟩
 clear hg2 hh2
 have hl:=H.len
 have hg4:=H.g4
 have hh4:=H.h4
 have m4:∀ z,z%4<4:=fun z=>Nat.mod_lt _ (by decide)
 obtain⟨lu1,lu2,-,-⟩:=al_dr (4*C.length) un ub (by omega) hu1
 obtain⟨lv1,lv2,-,-⟩:=al_dr (4*C.length+4) vn vb (by omega) hv1
 have cu:=QU8 (4*C.length) un ub
 have cv:=QU8 (4*C.length+4) vn vb
 -- where the two darts of the ring arrive
 have aX:=QK6 hmD C.length ((g+1)%4) (by omega) (m4 _)
 have aY:=QK6 hmD (C.length+1) ((h+2)%4) (by omega) (m4 _)
 unfold ein at aX aY
 rw[H.pn,lu1]at aX
 rw[H.qw,lv1]at aY
 obtain⟨x1,x2,x3,-,-,x5⟩:=aX
 obtain⟨-,-,y3,-,-,y5⟩:=aY
 rw[show((g+1)%4+3)%4=g by omega,H.pe]at x5
 rw[show((h+2)%4+3)%4=(h+1)%4 by omega,H.qn]at y5
 obtain⟨l,hin,hl2⟩:=ring_two hmD x1 x2 (by omega) x5 y5
 -- heights
 have hgt_u:(ov=true->hgt (pushR C un ub vn vb ov) (2*C.length+1)=2)/\(ov=false->hgt (pushR C un ub vn vb ov) (2*C.length+1)=0):=by
  have e1:mkD (2*C.length+1) true=4*C.length+2:=by rw[mk_t];omega
  have e2:mkD (2*C.length+1) false=4*C.length+1:=by rw[mk_f];omega
  unfold hgt
  cases ub with
  |true=>
   have a1:=(en_pd hmD (k:=C.length) (by omega) (m4 _) (by omega) (H.pn.trans e1.symm)).2
   have a2:=(en_pd hmD (k:=C.length+1) (by omega) (m4 _) (by omega) (H.qn.trans e2.symm)).2
   rw[a1,a2]
   rcases ho with⟨q,q1,q2⟩|⟨q,q1,q2⟩
   · exact⟨fun _=>by omega,fun r=>absurd (q.symm.trans r) (by decide)⟩
   · exact⟨fun r=>absurd (q.symm.trans r) (by decide),fun _=>by omega⟩
  |false=>
   have a1:=(en_pd hmD (k:=C.length) (by omega) (m4 _) (by omega) (H.pn.trans e2.symm)).2
   have a2:=(en_pd hmD (k:=C.length+1) (by omega) (m4 _) (by omega) (H.qn.trans e1.symm)).2
   rw[a1,a2]
   rcases ho with⟨q,q1,q2⟩|⟨q,q1,q2⟩
   · exact⟨fun _=>by omega,fun r=>absurd (q.symm.trans r) (by decide)⟩
   · exact⟨fun r=>absurd (q.symm.trans r) (by decide),fun _=>by omega⟩
 have hgt_v:(ov=true->hgt (pushR C un ub vn vb ov) (2*C.length+3)=0)/\(ov=false->hgt (pushR C un ub vn vb ov) (2*C.length+3)=2):=by
  have e1:mkD (2*C.length+3) true=4*C.length+4+2:=by rw[mk_t];omega
  have e2:mkD (2*C.length+3) false=4*C.length+4+1:=by rw[mk_f];omega
  unfold hgt
  cases vb with
  |true=>
   have a1:=(en_pd hmD (k:=C.length) (a:=2*C.length+3) (p:=false) (by omega) hg4 (by omega) (H.pe.trans e2.symm)).2
   have a2:=(en_pd hmD (k:=C.length+1) (by omega) (m4 _) (by omega) (H.qw.trans e1.symm)).2
   rw[a1,a2]
   rcases ho with⟨q,q1,q2⟩|⟨q,q1,q2⟩
   · exact⟨fun _=>by omega,fun r=>absurd (q.symm.trans r) (by decide)⟩
   · exact⟨fun r=>absurd (q.symm.trans r) (by decide),fun _=>by omega⟩
  |false=>
   have a1:=(en_pd hmD (k:=C.length) (a:=2*C.length+3) (p:=true) (by omega) hg4 (by omega) (H.pe.trans e1.symm)).2
   have a2:=(en_pd hmD (k:=C.length+1) (by omega) (m4 _) (by omega) (H.qw.trans e2.symm)).2
   rw[a1,a2]
   rcases ho with⟨q,q1,q2⟩|⟨q,q1,q2⟩
   · exact⟨fun _=>by omega,fun r=>absurd (q.symm.trans r) (by decide)⟩
   · exact⟨fun r=>absurd (q.symm.trans r) (by decide),fun _=>by omega⟩
 have dX:dA (r1 (4*C.length) ub)=2*C.length+1:=by unfold dA;omega
 have dY:dA (r1 (4*C.length+4) vb)=2*C.length+3:=by unfold dA;omega
 refine List.any_eq_true.2 ⟨l,hin,?_⟩
 unfold jlR
 rcases hl2 with rfl|rfl
 · show(decide (2=2)&&(((decide (dC _ (r1 (4*C.length) ub)=_)&&decide (dC _ (r1 (4*C.length+4) vb)=_))||_)&&((decide (hgt _ (dA (r1 (4*C.length) ub))=2)&&decide (hgt _ (dA (r1 (4*C.length+4) vb))=0))||(decide (hgt _ (dA (r1 (4*C.length) ub))=0)&&decide (hgt _ (dA (r1 (4*C.length+4) vb))=2)))))=true
   rw[x3,y3,dX,dY]
   rcases ho with⟨q,-,-⟩|⟨q,-,-⟩
   · rw[hgt_u.1 q,hgt_v.1 q]
     simp
   · rw[hgt_u.2 q,hgt_v.2 q]
     simp
 · show(decide (2=2)&&((_||(decide (dC _ (r1 (4*C.length+4) vb)=_)&&decide (dC _ (r1 (4*C.length) ub)=_)))&&((decide (hgt _ (dA (r1 (4*C.length+4) vb))=2)&&decide (hgt _ (dA (r1 (4*C.length) ub))=0))||(decide (hgt _ (dA (r1 (4*C.length+4) vb))=0)&&decide (hgt _ (dA (r1 (4*C.length) ub))=2)))))=true
   rw[x3,y3,dX,dY]
   rcases ho with⟨q,-,-⟩|⟨q,-,-⟩
   · rw[hgt_u.1 q,hgt_v.1 q]
     simp
   · rw[hgt_u.2 q,hgt_v.2 q]
     simp
end
end Go.Proofs.Ytagaajlbkfkaiaa
