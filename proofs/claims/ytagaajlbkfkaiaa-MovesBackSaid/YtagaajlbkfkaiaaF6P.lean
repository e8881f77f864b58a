/- Several texts of the proof, one behind the other. -/
import Derived.Test.YtagaajlbkfkaiaaF5P
import Derived.Test.YtagaajlbkfkaiaaP5P
import Derived.Test.YtagaajlbkfkaiaaH6P
import Derived.Deep.RegionHeld3
import Derived.Deep.Cut
import Derived.Test.YtagaajlbkfkaiaaF2P
import Derived.Test.YtagaajlbkfkaiaaK3P
/- The walk of ref.PlanarIs. -/
namespace Go.Proofs.Ytagaajlbkfkaiaa
open Go.RowKit
end Go.Proofs.Ytagaajlbkfkaiaa
/- The walk of ref.DiagramOf, with what it owns (J7 without ref.ChangeOf). -/
namespace Go.Proofs.Ytagaajlbkfkaiaa
open Go.RowKit
end Go.Proofs.Ytagaajlbkfkaiaa
/- Plain mathematics: a planar diagram of one piece: an even set of arcs parts two sets of faces. -/
namespace Go.Proofs.Ytagaajlbkfkaiaa
end Go.Proofs.Ytagaajlbkfkaiaa
/- The walk of ref.level. -/
namespace Go.Proofs.Ytagaajlbkfkaiaa
open Go.RowKit
end Go.Proofs.Ytagaajlbkfkaiaa
/- Plain mathematics: rings and pieces where a crossing, or two, are passed straight. -/
namespace Go.Proofs.Ytagaajlbkfkaiaa
def cyA (f:Nat->Nat) (M:Nat):Nat:=cyN f M fun _=>true
theorem cyA_join {f:Nat->Nat} {M:Nat} (h:Bij f M) {a b:Nat} (ha:a<M) (hb:b<M) (hn:¬ Con (eds f M) a b):cyA (tr f a b) M+1=cyA f M:=by
 have:=cyN_join h (fun _=>true) ha hb hn (fun _ _ _ _=>rfl) rfl
 rw[if_pos rfl]at this
 exact this
theorem cyA_part {f:Nat->Nat} {M:Nat} (h:Bij f M) {a b:Nat} (ha:a<M) (hb:b<M) (hne:a≠b) (hc:Con (eds f M) a b):cyA f M+1=cyA (tr f a b) M:=by
 have:=cyN_part h (fun _=>true) ha hb hne hc (fun _ _ _ _=>rfl)
 rw[if_pos rfl]at this
 exact this
theorem cyA_congr {f g:Nat->Nat} {M:Nat} (e:∀ x,x<M->f x=g x):cyA f M=cyA g M:=cyN_congr e _
theorem cyA_del {f:Nat->Nat} {M:Nat} (h:Bij f M) {w z:Nat} (hw:w<M) (e:f w=z) (hne:w≠z):cyA f M+1=cyA (tr f w z) M:=
 cyA_part h hw (e▸h.lt w hw) hne (e▸con_f hw)
theorem cyA_ins {f:Nat->Nat} {M:Nat} (h:Bij f M) {w z:Nat} (hw:w<M) (hz:z<M) (e:f z=z) (hne:w≠z):cyA (tr f w z) M+1=cyA f M:=by
 refine cyA_join h hw hz fun hc=>hne ?_
 have hS:Closed (eds f M) fun y=>y=z:=closed_eds.2 fun i hi=>by
  constructor
  · intro q;rw[q];exact e
  · intro q;exact h.inj i z hi hz (by rw[q,e])
 exact hc.symm _ hS rfl
theorem rootT_iff {E:List (Nat×Nat)} {n:Nat} {W:List Nat} (h:Least E n W) {v:Nat} (hv:v<n):W.getD v 0=v↔∀ u,Con E v u->v<=u:=by
 constructor
 · intro e u hu
   have:=(h.2 v hv).2 u hu
   omega
 · intro q
   have h1:=q _ (h.2 v hv).1
   have h2:=h.le hv
   omega
def kN (E:List (Nat×Nat)) (M:Nat):Nat:=rq (levR (List.range M) E M) (fun _=>true) M
theorem kN_le {E F:List (Nat×Nat)} {M:Nat} (hE:∀ e,e∈E->e.1<M/\e.2<M) (hF:∀ e,e∈F->e.1<M/\e.2<M) (h:∀ x y,Con E x y->Con F x y):kN F M<=kN E M:=by
 have lE:=levR_least hE M (Nat.le_refl _)
 have lF:=levR_least hF M (Nat.le_refl _)
 unfold kN
 rw[rq_eq,rq_eq]
 refine List.countP_mono_left fun v hv q=>?_
 have hv:=List.mem_range.1 hv
 simp only[Bool.and_true,decide_eq_true_eq]at q ⊢
 exact(rootT_iff lE hv).2 fun u hu=>(rootT_iff lF hv).1 q u (h _ _ hu)
theorem kN_edge {E:List (Nat×Nat)} {M:Nat} (hE:∀ e,e∈E->e.1<M/\e.2<M) {a b:Nat} (ha:a<M) (hb:b<M):kN E M<=kN (E++[(a,b)]) M+1:=by
 have lE:=levR_least hE M (Nat.le_refl _)
 have hF:∀ e,e∈E++[(a,b)]->e.1<M/\e.2<M:=fun e he=>by
  rcases List.mem_append.1 he with he|he
  · exact hE e he
  · rw[List.mem_singleton.1 he];exact⟨ha,hb⟩
 have lF:=levR_least hF M (Nat.le_refl _)
 have em:=lF.eq (mer_least lE a b ha hb hE)
 unfold kN
 rw[em]
 by_cases hne:(levR (List.range M) E M).getD a 0=(levR (List.range M) E M).getD b 0
 · rw[mer_same hne];omega
 · have:=rq_mer lE (fun _=>true) ha hb hne M (Nat.le_refl _)
   have q:=Nat.le_refl (rq (levR (List.range M) E M) (fun _=>true) M)
   split at this<;>omega
def edb (f a:Nat->Nat) (M:Nat):List (Nat×Nat):=eds f M++eds a M
theorem edb_lt {f a:Nat->Nat} {M:Nat} (hf:∀ x,x<M->f x<M) (ha:∀ x,x<M->a x<M):∀ e,e∈edb f a M->e.1<M/\e.2<M:=fun e he=>by
 rcases List.mem_append.1 he with he|he
 · exact eds_lt hf e he
 · exact eds_lt ha e he
theorem closed_edb {f a:Nat->Nat} {M:Nat} {S:Nat->Prop}:Closed (edb f a M) S↔(∀ i,i<M->(S i↔S (f i)))/\∀ i,i<M->(S i↔S (a i)):=by
 constructor
 · intro h
   exact⟨closed_eds.1 fun e he=>h e (List.mem_append_left _ he),closed_eds.1 fun e he=>h e (List.mem_append_right _ he)⟩
 · rintro⟨h1,h2⟩ e he
   rcases List.mem_append.1 he with he|he
   · exact closed_eds.2 h1 e he
   · exact closed_eds.2 h2 e he
structure CurlG (f g al:Nat->Nat) (M P Q U V:Nat):Prop where
 bf:Bij f M
 la:∀ x,x<M->al x<M
 lp:P<M
 lq:Q<M
 lu:U<M
 lv:V<M
 pq:P≠Q
 pu:P≠U
 pv:P≠V
 qu:Q≠U
 qv:Q≠V
 uv:U≠V
 aq:al P=Q
 fp:f P=P
 fq:f Q=al V
 fu:f U=Q
 fv:f V=al U
 gp:g P=al V
 gq:g Q=al U
 gu:g U=P
 gv:g V=Q
 go:∀ x,x<M->x≠P->x≠Q->x≠U->x≠V->g x=f x
theorem CurlG.count {f g al:Nat->Nat} {M P Q U V:Nat} (h:CurlG f g al M P Q U V):cyA g M+1=cyA f M:=by
 have b1:=h.bf.tr h.lu h.lq
 have c1:=cyA_del h.bf h.lu h.fu (Ne.symm h.qu)
 have e1:tr f U Q P=P:=by rw[tr_o f h.pu h.pq,h.fp]
 have c2:=cyA_ins b1 h.lu h.lp e1 (Ne.symm h.pu)
 have b2:=b1.tr h.lu h.lp
 have e2:tr (tr f U Q) U P Q=Q:=by rw[tr_o _ h.qu (Ne.symm h.pq),tr_b,h.fu]
 have c3:=cyA_ins b2 h.lv h.lq e2 (Ne.symm h.qv)
 have e:cyA (tr (tr (tr f U Q) U P) V Q) M=cyA g M:=cyA_congr fun x hx=>by
  by_cases x1:x=P
  · rw[x1,tr_o _ h.pv h.pq,tr_b,tr_a,h.fq,h.gp]
  · by_cases x2:x=Q
    · rw[x2,tr_b,tr_o _ (Ne.symm h.uv) (Ne.symm h.pv),tr_o _ (Ne.symm h.uv) (Ne.symm h.qv),h.fv,h.gq]
    · by_cases x3:x=U
      · rw[x3,tr_o _ h.uv (Ne.symm h.qu),tr_a,e1,h.gu]
      · by_cases x4:x=V
        · rw[x4,tr_a,e2,h.gv]
        · rw[tr_o _ x4 x2,tr_o _ x3 x1,tr_o _ x3 x2,h.go x hx x1 x2 x3 x4]
 omega
theorem CurlG.con {f g al:Nat->Nat} {M P Q U V:Nat} (h:CurlG f g al M P Q U V) (x y:Nat) (hc:Con (edb f al M) x y):Con (edb g al M) x y:=fun S hS=>by
 obtain⟨s1,s2⟩:=closed_edb.1 hS
 refine hc S (closed_edb.2 ⟨fun i hi=>?_,s2⟩)
 have a1:=s1 U h.lu
 have a2:=s2 P h.lp
 have a3:=s1 V h.lv
 have a4:=s2 U h.lu
 have a5:=s2 V h.lv
 rw[h.gu]at a1
 rw[h.aq]at a2
 rw[h.gv]at a3
 by_cases x1:i=P
 · rw[x1,h.fp]
 · by_cases x2:i=Q
   · rw[x2,h.fq,<-a5,<-a3]
   · by_cases x3:i=U
     · rw[x3,h.fu,a1,a2]
     · by_cases x4:i=V
       · rw[x4,h.fv,<-a4,a1,a2,a3]
       · rw[<-h.go i hi x1 x2 x3 x4];exact s1 i hi
end Go.Proofs.Ytagaajlbkfkaiaa
/- Plain mathematics: rings and pieces where the two crossings of a face of two are passed straight. -/
namespace Go.Proofs.Ytagaajlbkfkaiaa
structure PullG (f g al:Nat->Nat) (M X Y XX YY A B K D:Nat):Prop where
 bf:Bij f M
 la:∀ x,x<M->al x<M
 aa:∀ x,x<M->al (al x)=x
 lt:X<M/\Y<M/\XX<M/\YY<M/\A<M/\B<M/\K<M/\D<M
 nd:[X,Y,XX,YY,A,B,K,D].Nodup
 ax:al X=XX
 ay:al Y=YY
 fx:f X=Y
 fy:f Y=X
 fxx:f XX=al B
 fyy:f YY=al K
 fa:f A=YY
 fb:f B=al A
 fk:f K=al D
 fd:f D=XX
 gx:g X=al K
 gy:g Y=al B
 gxx:g XX=al A
 gyy:g YY=al D
 ga:g A=X
 gb:g B=YY
 gk:g K=XX
 gd:g D=Y
 go:∀ x,x<M->x ∉ [X,Y,XX,YY,A,B,K,D]->g x=f x
theorem PullG.count {f g al:Nat->Nat} {M X Y XX YY A B K D:Nat} (h:PullG f g al M X Y XX YY A B K D):cyA g M+1=cyA (tr f B K) M:=by
 obtain⟨lx,ly,lxx,lyy,lA,lB,lK,lD⟩:=h.lt
 have nd:=h.nd
 simp only[List.nodup_cons,List.mem_cons,List.not_mem_nil,or_false,not_or,not_false_eq_true,and_true,List.nodup_nil]at nd
 obtain⟨⟨n1,n2,n3,n4,n5,n6,n7⟩,⟨m1,m2,m3,m4,m5,m6⟩,⟨k1,k2,k3,k4,k5⟩,⟨j1,j2,j3,j4⟩,⟨i1,i2,i3⟩,⟨o1,o2⟩,p1⟩:=nd
 have b1:=h.bf.tr lB lK
 -- D to XX, A to YY, X to Y: taken out
 have e1:tr f B K D=XX:=by rw[tr_o f (Ne.symm o2) (Ne.symm p1),h.fd]
 have c1:=cyA_del b1 lD e1 (Ne.symm k5)
 have b2:=b1.tr lD lxx
 have e2:tr (tr f B K) D XX A=YY:=by rw[tr_o _ i3 (Ne.symm k2),tr_o _ i1 i2,h.fa]
 have c2:=cyA_del b2 lA e2 (Ne.symm j1)
 have b3:=b2.tr lA lyy
 have e3:tr (tr (tr f B K) D XX) A YY X=Y:=by rw[tr_o _ n4 n3,tr_o _ n7 n2,tr_o _ n5 n6,h.fx]
 have c3:=cyA_del b3 lx e3 n1
 have b4:=b3.tr lx ly
 -- they lie alone
 have a1:tr (tr (tr (tr f B K) D XX) A YY) X Y XX=XX:=by rw[tr_o _ (Ne.symm n2) (Ne.symm m1),tr_o _ k2 k1,tr_b,e1]
 have a2:tr (tr (tr (tr f B K) D XX) A YY) X Y YY=YY:=by rw[tr_o _ (Ne.symm n3) (Ne.symm m2),tr_b,e2]
 have a3:tr (tr (tr (tr f B K) D XX) A YY) X Y X=X:=by rw[tr_a,tr_o _ m3 m2,tr_o _ m6 m1,tr_o _ m4 m5,h.fy]
 have a4:tr (tr (tr (tr f B K) D XX) A YY) X Y Y=Y:=by rw[tr_b,e3]
 -- laid behind others
 have c4:=cyA_ins b4 lK lxx a1 (Ne.symm k4)
 have b5:=b4.tr lK lxx
 have c5:=cyA_ins b5 lB lyy (by rw[tr_o _ j3 (Ne.symm k1),a2]) (Ne.symm j2)
 have b6:=b5.tr lB lyy
 have c6:=cyA_ins b6 lA lx (by rw[tr_o _ n5 n3,tr_o _ n6 n2,a3]) (Ne.symm n4)
 have b7:=b6.tr lA lx
 have c7:=cyA_ins b7 lD ly (by rw[tr_o _ m3 (Ne.symm n1),tr_o _ m4 m2,tr_o _ m5 m1,a4]) (Ne.symm m6)
 have e:cyA (tr (tr (tr (tr (tr (tr (tr (tr f B K) D XX) A YY) X Y) K XX) B YY) A X) D Y) M=cyA g M:=cyA_congr fun x hx=>by
  by_cases x1:x=X
  · rw[x1,h.gx,tr_o _ n7 n1,tr_b,tr_o _ i1 (Ne.symm j1),tr_o _ i2 (Ne.symm k2),tr_o _ (Ne.symm n4) (Ne.symm m3),tr_a,tr_o _ j4 (Ne.symm k1),tr_o _ j2 j3,h.fyy]
  by_cases x2:x=Y
  · rw[x2,h.gy,tr_b,tr_o _ (Ne.symm i3) (Ne.symm n7),tr_o _ (Ne.symm o2) (Ne.symm j4),tr_o _ (Ne.symm p1) (Ne.symm k5),tr_o _ (Ne.symm n7) (Ne.symm m6),tr_o _ (Ne.symm i3) (Ne.symm j4),tr_a,tr_o _ k3 k4,h.fxx]
  by_cases x3:x=XX
  · rw[x3,h.gxx,tr_o _ k5 (Ne.symm m1),tr_o _ k2 (Ne.symm n2),tr_o _ k3 k1,tr_b,tr_o _ (Ne.symm n6) (Ne.symm m5),tr_o _ (Ne.symm i2) (Ne.symm j3),tr_o _ p1 (Ne.symm k4),tr_b,h.fb]
  by_cases x4:x=YY
  · rw[x4,h.gyy,tr_o _ j4 (Ne.symm m2),tr_o _ j1 (Ne.symm n3),tr_b,tr_o _ o1 (Ne.symm k3),tr_o _ (Ne.symm n5) (Ne.symm m4),tr_o _ (Ne.symm i1) (Ne.symm j2),tr_o _ o2 (Ne.symm k3),tr_a,h.fk]
  by_cases x5:x=A
  · rw[x5,h.ga,tr_o _ i3 (Ne.symm m3),tr_a,tr_o _ n5 n3,tr_o _ n6 n2,a3]
  by_cases x6:x=B
  · rw[x6,h.gb,tr_o _ o2 (Ne.symm m4),tr_o _ (Ne.symm i1) (Ne.symm n5),tr_a,tr_o _ j3 (Ne.symm k1),a2]
  by_cases x7:x=K
  · rw[x7,h.gk,tr_o _ p1 (Ne.symm m5),tr_o _ (Ne.symm i2) (Ne.symm n6),tr_o _ (Ne.symm o1) (Ne.symm j3),tr_a,a1]
  by_cases x8:x=D
  · rw[x8,h.gd,tr_a,tr_o _ m3 (Ne.symm n1),tr_o _ m4 m2,tr_o _ m5 m1,a4]
  rw[tr_o _ x8 x2,tr_o _ x5 x1,tr_o _ x6 x4,tr_o _ x7 x3,tr_o _ x1 x2,tr_o _ x5 x4,tr_o _ x8 x3,tr_o _ x6 x7,h.go x hx (by simp only[List.mem_cons,List.not_mem_nil,or_false,not_or];exact⟨x1,x2,x3,x4,x5,x6,x7,x8⟩)]
 omega
theorem PullG.strands {f g al:Nat->Nat} {M X Y XX YY A B K D:Nat} (h:PullG f g al M X Y XX YY A B K D) {S:Nat->Prop} (hS:Closed (edb g al M) S):
    ((S A↔S X)/\(S A↔S XX)/\(S A↔S K)/\(S A↔S (al A))/\(S A↔S (al K)))/\(S B↔S Y)/\(S B↔S YY)/\(S B↔S D)/\(S B↔S (al B))/\(S B↔S (al D)):=by
 obtain⟨lx,ly,lxx,lyy,lA,lB,lK,lD⟩:=h.lt
 obtain⟨s1,s2⟩:=closed_edb.1 hS
 have q1:=s1 A lA
 have q2:=s2 X lx
 have q3:=s1 K lK
 have q4:=s1 B lB
 have q5:=s2 Y ly
 have q6:=s1 D lD
 have r1:=s2 A lA
 have r2:=s2 K lK
 have r3:=s2 B lB
 have r4:=s2 D lD
 rw[h.ga]at q1
 rw[h.ax]at q2
 rw[h.gk]at q3
 rw[h.gb]at q4
 rw[h.ay]at q5
 rw[h.gd]at q6
 have t1:S A↔S K:=q1.trans (q2.trans q3.symm)
 have t2:S B↔S D:=q4.trans (q5.symm.trans q6.symm)
 exact⟨⟨q1,q1.trans q2,t1,r1,t1.trans r2⟩,q4.trans q5.symm,q4,t2,r3,t2.trans r4⟩
theorem PullG.keeps {f g al:Nat->Nat} {M X Y XX YY A B K D:Nat} (h:PullG f g al M X Y XX YY A B K D) {S:Nat->Prop} (hS:Closed (edb g al M) S) (hAB:S A↔S B):Closed (edb f al M) S:=by
 obtain⟨⟨a1,a2,a3,a4,a5⟩,b1,b2,b3,b4,b5⟩:=h.strands hS
 obtain⟨s1,s2⟩:=closed_edb.1 hS
 refine closed_edb.2 ⟨fun i hi=>?_,s2⟩
 by_cases x1:i=X
 · rw[x1,h.fx,<-a1,<-b1,hAB]
 by_cases x2:i=Y
 · rw[x2,h.fy,<-a1,<-b1,hAB]
 by_cases x3:i=XX
 · rw[x3,h.fxx,<-a2,<-b4,hAB]
 by_cases x4:i=YY
 · rw[x4,h.fyy,<-a5,<-b2,hAB]
 by_cases x5:i=A
 · rw[x5,h.fa,<-b2,hAB]
 by_cases x6:i=B
 · rw[x6,h.fb,<-a4,hAB]
 by_cases x7:i=K
 · rw[x7,h.fk,<-a3,<-b5,hAB]
 by_cases x8:i=D
 · rw[x8,h.fd,<-a2,<-b3,hAB]
 rw[<-h.go i hi (by simp only[List.mem_cons,List.not_mem_nil,or_false,not_or];exact⟨x1,x2,x3,x4,x5,x6,x7,x8⟩)]
 exact s1 i hi
theorem PullG.one {f g al:Nat->Nat} {M X Y XX YY A B K D:Nat} (h:PullG f g al M X Y XX YY A B K D) (hn:¬ Con (eds f M) B K) {S:Nat->Prop} (hS:Closed (edb g al M) S) (hA:S A):S B:=by
 refine Classical.byContradiction fun hB=>?_
 obtain⟨lx,ly,lxx,lyy,lA,lB,lK,lD⟩:=h.lt
 have nd:=h.nd
 simp only[List.nodup_cons,List.mem_cons,List.not_mem_nil,or_false,not_or,not_false_eq_true,and_true,List.nodup_nil]at nd
 obtain⟨⟨n1,n2,n3,n4,n5,n6,n7⟩,⟨m1,m2,m3,m4,m5,m6⟩,⟨k1,k2,k3,k4,k5⟩,⟨j1,j2,j3,j4⟩,⟨i1,i2,i3⟩,⟨o1,o2⟩,p1⟩:=nd
 obtain⟨⟨a1,a2,a3,a4,a5⟩,b1,b2,b3,b4,b5⟩:=h.strands hS
 obtain⟨s1,s2⟩:=closed_edb.1 hS
 have alx:∀ z,z<M->al z=X->z=XX:=fun z hz e=>by rw[<-h.aa z hz,e,h.ax]
 have alxx:∀ z,z<M->al z=XX->z=X:=fun z hz e=>by rw[<-h.aa z hz,e,<-h.ax,h.aa X lx]
 obtain⟨p,h0,hp⟩:=period h.bf lB
 have key:∀ i,(S (it f (i+1) B)/\it f (i+1) B≠X/\it f (i+1) B≠XX)∨it f (i+1) B=YY:=by
  intro i
  induction i with
  |zero=>
   show(S (f B)/\f B≠X/\f B≠XX)∨_
   rw[h.fb]
   exact Or.inl ⟨a4.1 hA,fun e=>k2 (alx A lA e).symm,fun e=>n4 (alxx A lA e).symm⟩
  |succ i ih=>
   have hz:=it_lt h.bf lB (i+1)
   have hk:it f (i+1) B≠K:=fun q=>hn (q▸con_it h.bf lB (i+1))
   show(S (f (it f (i+1) B))/\f (it f (i+1) B)≠X/\f (it f (i+1) B)≠XX)∨f (it f (i+1) B)=YY
   generalize it f (i+1) B=z at ih hz hk ⊢
   by_cases z1:z=YY
   · rw[z1,h.fyy]
     exact Or.inl ⟨a5.1 hA,fun e=>k4 (alx K lK e).symm,fun e=>n6 (alxx K lK e).symm⟩
   obtain⟨hs,z2,z3⟩:=ih.resolve_right z1
   by_cases z4:z=A
   · exact Or.inr (by rw[z4,h.fa])
   have z5:z≠B:=fun e=>hB (e▸hs)
   have z6:z≠D:=fun e=>hB (b3.2 (e▸hs))
   have z7:z≠Y:=fun e=>hB (b1.2 (e▸hs))
   have e:=h.go z hz (by simp only[List.mem_cons,List.not_mem_nil,or_false,not_or];exact⟨z2,z7,z3,z1,z4,z5,hk,z6⟩)
   have s:=s1 z hz
   rw[e]at s
   exact Or.inl ⟨s.1 hs,fun q=>z7 (h.bf.inj z Y hz ly (by rw[q,h.fy])),fun q=>z6 (h.bf.inj z D hz lD (by rw[q,h.fd]))⟩
 have:=key (p-1)
 rw[show p-1+1=p by omega,hp]at this
 rcases this with q|q
 · exact hB q.1
 · exact j2 q.symm
theorem PullG.euler {f g al:Nat->Nat} {M X Y XX YY A B K D:Nat} (h:PullG f g al M X Y XX YY A B K D) (hg:∀ x,x<M->g x<M):
    (cyA g M+2=cyA f M/\kN (edb g al M) M<=kN (edb f al M) M)∨(cyA g M=cyA f M/\kN (edb g al M) M<=kN (edb f al M) M+1):=by
 obtain⟨lx,ly,lxx,lyy,lA,lB,lK,lD⟩:=h.lt
 have nd:=h.nd
 simp only[List.nodup_cons,List.mem_cons,List.not_mem_nil,or_false,not_or,not_false_eq_true,and_true,List.nodup_nil]at nd
 have c:=h.count
 by_cases hc:Con (eds f M) B K
 · refine Or.inr ⟨?_,?_⟩
   · have:=cyA_part h.bf lB lK nd.2.2.2.2.2.1.1 hc
     omega
   · have k1:=kN_edge (edb_lt hg h.la) lA lB
     have k2:=kN_le (M:=M) (edb_lt h.bf.lt h.la) (F:=edb g al M++[(A,B)]) (fun e he=>by
      rcases List.mem_append.1 he with he|he
      · exact edb_lt hg h.la e he
      · rw[List.mem_singleton.1 he];exact⟨lA,lB⟩) fun x y hxy S hS=>
        hxy S (h.keeps (fun e he=>hS e (List.mem_append_left _ he)) (hS (A,B) (List.mem_append_right _ (List.Mem.head _))))
     omega
 · refine Or.inl ⟨?_,?_⟩
   · have:=cyA_join h.bf lB lK hc
     omega
   · refine kN_le (edb_lt h.bf.lt h.la) (edb_lt hg h.la) fun x y hxy S hS=>hxy S (h.keeps hS ⟨h.one hc hS,fun hb=>?_⟩)
     refine Classical.byContradiction fun ha=>?_
     have hS':Closed (edb g al M) fun z=>¬ S z:=fun e he=>by have:=hS e he;exact not_congr this
     exact h.one hc hS' ha hb
end Go.Proofs.Ytagaajlbkfkaiaa
/- Plain mathematics: planar, told by all rings and all pieces at once. -/
namespace Go.Proofs.Ytagaajlbkfkaiaa
def sN (h:Nat->Nat):Nat->Nat
 |0=>0
 |n+1=>sN h n+h n
theorem sN_congr {a b:Nat->Nat} {n:Nat} (e:∀ p,p<n->a p=b p):sN a n=sN b n:=by
 induction n with
 |zero=>rfl
 |succ n ih=>show sN a n+a n=sN b n+b n;rw[ih fun p hp=>e p (by omega),e n (by omega)]
theorem sN_le {a b:Nat->Nat} {n:Nat} (e:∀ p,p<n->a p<=b p):sN a n<=sN b n:=by
 induction n with
 |zero=>exact Nat.le_refl _
 |succ n ih=>have:=ih fun p hp=>e p (by omega);have:=e n (by omega);show sN a n+a n<=sN b n+b n;omega
theorem sN_eq {a b:Nat->Nat} {n:Nat} (e:∀ p,p<n->a p<=b p) (h:sN b n<=sN a n):∀ p,p<n->a p=b p:=by
 induction n with
 |zero=>intro p hp;omega
 |succ n ih=>
  have h1:=sN_le (n:=n) fun p hp=>e p (by omega)
  have h2:=e n (by omega)
  have h3:sN b n+b n<=sN a n+a n:=h
  intro p hp
  by_cases q:p=n
  · rw[q];omega
  · exact ih (fun p hp=>e p (by omega)) (by omega) p (by omega)
theorem sN_add (a b:Nat->Nat) (n:Nat):sN (fun p=>a p+b p) n=sN a n+sN b n:=by
 induction n with
 |zero=>rfl
 |succ n ih=>show sN (fun p=>a p+b p) n+(a n+b n)=sN a n+a n+(sN b n+b n);omega
theorem sN_zero {a:Nat->Nat} {n:Nat} (h:∀ p,p<n->a p=0):sN a n=0:=by
 induction n with
 |zero=>rfl
 |succ n ih=>show sN a n+a n=0;rw[ih fun p hp=>h p (by omega),h n (by omega)]
theorem sN_only {n q:Nat} (hq:q<n):sN (fun p=>if q=p then 1 else 0) n=1:=by
 induction n with
 |zero=>omega
 |succ n ih=>
  show sN (fun p=>if q=p then 1 else 0) n+(if q=n then 1 else 0)=1
  by_cases e:q=n
  · rw[if_pos e,sN_zero fun p hp=>if_neg (by omega)]
  · rw[if_neg e,ih (by omega)]
theorem sum_cnt (W:Nat->Nat) (n:Nat):∀ G:List Nat,(∀ g,g∈G->W g<n)->sN (fun p=>G.countP fun g=>decide (W g=p)) n=G.length:=by
 intro G
 induction G with
 |nil=>intro _;exact sN_zero fun _ _=>rfl
 |cons g G ih=>
  intro h
  have e:sN (fun p=>(g::G).countP fun g=>decide (W g=p)) n=sN (fun p=>(G.countP fun g=>decide (W g=p))+if W g=p then 1 else 0) n:=sN_congr fun p _=>by
   rw[List.countP_cons]
   by_cases q:W g=p
   · rw[if_pos (decide_eq_true q),if_pos q]
   · rw[if_neg (by simpa using q),if_neg q]
  rw[e,sN_add,ih fun x hx=>h x (List.mem_cons_of_mem _ hx),sN_only (h g (List.mem_cons_self ..))]
  rfl
theorem sN_cnt (P:Nat->Bool) (n:Nat):sN (fun p=>if P p=true then 2 else 0) n=2*(List.range n).countP P:=by
 induction n with
 |zero=>rfl
 |succ n ih=>
  show sN (fun p=>if P p=true then 2 else 0) n+(if P n=true then 2 else 0)=_
  rw[ih,List.range_succ,List.countP_append,List.countP_singleton]
  split<;>omega
def pcN (C:List Cr):Nat:=kN (arcE C) C.length
theorem pcN_eq (C:List Cr):pcN C=(List.range C.length).countP fun p=>decide ((whoM C).getD p 0=p):=by
 unfold pcN kN
 rw[rq_eq]
 refine List.countP_congr fun v _=>?_
 rw[Bool.and_true]
 rfl
theorem planar_sum {C:List Cr} {loops:Int} (hm:mayD C loops=true):(facesM C).length<=C.length+2*pcN C/\(planarB C=true↔C.length+2*pcN C<=(facesM C).length):=by
 have hW:=whoM_least hm
 have s1:=sum_cnt (fun g=>(whoM C).getD g 0) C.length (headsM C) fun g hg=>hW.lt (headsM_lt hm g hg)
 have s2:=sum_cnt (fun g=>(whoM C).getD g 0) C.length (List.range C.length) fun g hg=>hW.lt (List.mem_range.1 hg)
 have s3:=sN_cnt (fun p=>decide ((whoM C).getD p 0=p)) C.length
 rw[headsM_len]at s1
 rw[List.length_range]at s2
 rw[<-pcN_eq]at s3
 have s4:=sN_add (fun p=>(List.range C.length).countP fun g=>decide ((whoM C).getD g 0=p)) (fun p=>if decide ((whoM C).getD p 0=p)=true then 2 else 0) C.length
 rw[s2,s3]at s4
 have hle:∀ p,p<C.length->((headsM C).countP fun g=>decide ((whoM C).getD g 0=p))<=((List.range C.length).countP fun g=>decide ((whoM C).getD g 0=p))+if decide ((whoM C).getD p 0=p)=true then 2 else 0:=fun p hp=>by
  by_cases hr:(whoM C).getD p 0=p
  · have:=(euler_piece hm hp hr).1
    unfold exN at this
    rw[if_pos (decide_eq_true hr)]
    omega
  · have h0:((headsM C).countP fun g=>decide ((whoM C).getD g 0=p))=0:=List.countP_eq_zero.2 fun g hg q=>hr (by
      have q:=of_decide_eq_true q
      have hg:=headsM_lt hm g hg
      have:=(hW.same (hW.lt hg) hg).2 (hW.2 g hg).1.symm
      rw[q]at this
      exact this)
    rw[h0]
    exact Nat.zero_le _
 have hsum:=sN_le hle
 rw[s1,s4]at hsum
 refine⟨hsum,?_⟩
 rw[planarB_iff]
 constructor
 · intro h
   rw[<-s1,<-s4]
   refine sN_le fun p hp=>?_
   by_cases hr:(whoM C).getD p 0=p
   · have:=h p hp hr
     unfold exN at this
     rw[if_pos (decide_eq_true hr)]
     omega
   · rw[if_neg (by simpa using hr)]
     have h0:((List.range C.length).countP fun g=>decide ((whoM C).getD g 0=p))=0:=List.countP_eq_zero.2 fun g hg q=>hr (by
      have q:=of_decide_eq_true q
      have hg:=List.mem_range.1 hg
      have:=(hW.same (hW.lt hg) hg).2 (hW.2 g hg).1.symm
      rw[q]at this
      exact this)
     rw[h0]
     exact Nat.zero_le _
 · intro h p hp hr
   rw[<-s1,<-s4]at h
   have:=sN_eq hle h p hp
   rw[if_pos (decide_eq_true hr)]at this
   unfold exN
   omega
theorem kN_inj {E F:List (Nat×Nat)} {M n:Nat} (hE:∀ e,e∈E->e.1<M/\e.2<M) (hF:∀ e,e∈F->e.1<n/\e.2<n) (m:Nat->Nat) (hl:∀ v,v<n->m v<M) (h:∀ u v,u<n->v<n->Con E (m u) (m v)->Con F u v):kN F n<=kN E M:=by
 have lE:=levR_least hE M (Nat.le_refl _)
 have lF:=levR_least hF n (Nat.le_refl _)
 unfold kN
 rw[rq_eq,rq_eq,List.countP_eq_length_filter,List.countP_eq_length_filter,<-List.length_map (f:=fun v=>(levR (List.range M) E M).getD (m v) 0)]
 have hnd:(((List.range n).filter fun v=>decide ((levR (List.range n) F n).getD v 0=v)&&true).map fun v=>(levR (List.range M) E M).getD (m v) 0).Nodup:=by
  unfold List.Nodup
  rw[List.pairwise_map]
  refine List.Pairwise.imp_of_mem ?_ (List.Pairwise.filter _ List.nodup_range)
  intro u v hu hv huv e
  obtain⟨hu,ru⟩:=List.mem_filter.1 hu
  obtain⟨hv,rv⟩:=List.mem_filter.1 hv
  have hu:=List.mem_range.1 hu
  have hv:=List.mem_range.1 hv
  rw[Bool.and_true,decide_eq_true_eq]at ru rv
  have c:=h u v hu hv ((lE.same (hl u hu) (hl v hv)).1 e)
  have:=(lF.same hu hv).2 c
  rw[ru,rv]at this
  exact huv this
 refine hnd.length_le_of_subset fun x hx=>?_
 obtain⟨v,hv,rfl⟩:=List.mem_map.1 hx
 have hv:=List.mem_range.1 (List.mem_filter.1 hv).1
 refine List.mem_filter.2 ⟨List.mem_range.2 (lE.lt (hl v hv)),?_⟩
 rw[Bool.and_true,decide_eq_true_eq]
 exact(lE.same (lE.lt (hl v hv)) (hl v hv)).2 (lE.2 _ (hl v hv)).1.symm
end Go.Proofs.Ytagaajlbkfkaiaa
/- Plain mathematics: a curl, or a face of two, of a diagram, passed straight. -/
namespace Go.Proofs.Ytagaajlbkfkaiaa
def ein (C : List Cr) (k s : Nat) : Nat := al (pd C (4 * k + s))
def fs (C : List Cr) (G : List Nat) (j : Nat) : Nat := if dC C j ∈ G then pd C (4 * dC C j + (dS C j + 2) % 4) else fd C j
theorem al_zero : al 0 = 0 := rfl
theorem al_lt {n x : Nat} (h : x < 4 * n + 1) : al x < 4 * n + 1 := by
  rcases Nat.eq_zero_or_pos x with rfl | hp
  · rw [al_zero]; omega
  · have := al_may (n := n) hp (by omega); omega
theorem al_back (x : Nat) : al (al x) = x := by
  rcases Nat.eq_zero_or_pos x with rfl | hp
  · rfl
  · exact al_al hp
theorem al_inj {x y : Nat} (h : al x = al y) : x = y := by rw [← al_back x, h, al_back]
theorem ein_at {C : List Cr} {loops : Int} (hm : mayD C loops = true) (k s : Nat) (hk : k < C.length) (hs : s < 4) : 1 ≤ ein C k s ∧ ein C k s ≤ 4 * C.length ∧ dC C (ein C k s) = k ∧ dS C (ein C k s) = s ∧ al (ein C k s) = pd C (4 * k + s) ∧ fd C (ein C k s) = pd C (4 * k + (s + 3) % 4) := by
  obtain ⟨-, h1, h2, h3, h4⟩ := pd_at hm k s hk hs
  obtain ⟨a1, a2, -, -⟩ := al_may h3 h4
  obtain ⟨d1, d2⟩ := dC_al (C := C) h3 h4
  exact ⟨a1, a2, d1.trans h1, d2.trans h2, al_back _, pd_sig hm k s hk hs⟩
theorem ein_inj {C : List Cr} {loops : Int} (hm : mayD C loops = true) {k s j t : Nat} (hk : k < C.length) (hs : s < 4) (hj : j < C.length) (ht : t < 4) (e : ein C k s = ein C j t) : k = j ∧ s = t := by
  obtain ⟨-, -, a, b, -, -⟩ := ein_at hm k s hk hs
  obtain ⟨-, -, c, d, -, -⟩ := ein_at hm j t hj ht
  rw [e] at a b
  exact ⟨a.symm.trans c, b.symm.trans d⟩
theorem ein_onto {C : List Cr} {loops : Int} (hm : mayD C loops = true) {x : Nat} (h1 : 1 ≤ x) (h2 : x ≤ 4 * C.length) : dC C x < C.length ∧ dS C x < 4 ∧ x = ein C (dC C x) (dS C x) := by
  obtain ⟨-, h3, h4⟩ := d_may hm x h1 h2
  refine ⟨h3, h4, ?_⟩
  obtain ⟨q, hq, e⟩ := (pd_bij hm).onto (y := al x - 1) (by have := al_may h1 h2; omega)
  have ha := al_may h1 h2
  have hp := pd_at hm (q / 4) (q % 4) (by omega) (by omega)
  rw [show 4 * (q / 4) + q % 4 = q by omega] at hp
  have e2 : pd C q = al x := by have e : pd C q - 1 = al x - 1 := e; omega
  have hx : x = ein C (q / 4) (q % 4) := by
    unfold ein
    rw [show 4 * (q / 4) + q % 4 = q by omega, e2, al_back]
  have g := ein_at hm (q / 4) (q % 4) (by omega) (by omega)
  rw [← hx] at g
  rw [g.2.2.1, g.2.2.2.1]
  exact hx
theorem fs_in {C : List Cr} {loops : Int} (hm : mayD C loops = true) {G : List Nat} {k s : Nat} (hk : k < C.length) (hs : s < 4) (hG : k ∈ G) : fs C G (ein C k s) = pd C (4 * k + (s + 2) % 4) := by
  obtain ⟨-, -, h1, h2, -, -⟩ := ein_at hm k s hk hs
  unfold fs
  rw [h1, h2, if_pos hG]
theorem fs_out {C : List Cr} {G : List Nat} {x : Nat} (h : dC C x ∉ G) : fs C G x = fd C x := if_neg h
theorem fs_may {C : List Cr} {loops : Int} (hm : mayD C loops = true) (G : List Nat) {x : Nat} (h1 : 1 ≤ x) (h2 : x ≤ 4 * C.length) : 1 ≤ fs C G x ∧ fs C G x ≤ 4 * C.length := by
  obtain ⟨-, h3, h4⟩ := d_may hm x h1 h2
  unfold fs
  split
  · exact (pd_at hm (dC C x) ((dS C x + 2) % 4) h3 (by omega)).2.2.2
  · exact fd_closed hm x h1 h2
theorem fs_lt {C : List Cr} {loops : Int} (hm : mayD C loops = true) (G : List Nat) {x : Nat} (h : x < 4 * C.length + 1) : up0 (fs C G) x < 4 * C.length + 1 := by
  unfold up0
  split
  · omega
  · have := (fs_may hm G (x := x) (by omega) (by omega)).2; omega
theorem fd_bij {C : List Cr} {loops : Int} (hm : mayD C loops = true) : Bij (up0 (fd C)) (4 * C.length + 1) := bij_up0 (fd_closed hm) fun a b h1 h2 h3 h4 e => fd_inj hm a b h1 h2 h3 h4 e
theorem curl_g {C : List Cr} {loops : Int} (hm : mayD C loops = true) {k s : Nat} (hk : k < C.length) (hs : s < 4) (e : (C.getD k Cr.none).arc s = (C.getD k Cr.none).arc ((s + 1) % 4)) :
    CurlG (up0 (fd C)) (up0 (fs C [k])) al (4 * C.length + 1) (ein C k ((s + 1) % 4)) (ein C k s) (ein C k ((s + 2) % 4)) (ein C k ((s + 3) % 4)) := by
  have s1 : (s + 1) % 4 < 4 := by omega
  have s2 : (s + 2) % 4 < 4 := by omega
  have s3 : (s + 3) % 4 < 4 := by omega
  obtain ⟨p0, p1, p2, p3, p4, p5⟩ := ein_at hm k s hk hs
  obtain ⟨q0, q1, q2, q3, q4, q5⟩ := ein_at hm k ((s + 1) % 4) hk s1
  obtain ⟨u0, u1, u2, u3, u4, u5⟩ := ein_at hm k ((s + 2) % 4) hk s2
  obtain ⟨v0, v1, v2, v3, v4, v5⟩ := ein_at hm k ((s + 3) % 4) hk s3
  have ne : ∀ a b, a < 4 → b < 4 → a ≠ b → ein C k a ≠ ein C k b := fun a b ha hb hab q => hab (ein_inj hm hk ha hk hb q).2
  have in1 := fun a (ha : a < 4) => fs_in hm (G := [k]) hk ha (List.mem_singleton.2 rfl)
  -- the arc's two ends
  have hal : al (ein C k ((s + 1) % 4)) = ein C k s := by
    rw [q4]
    obtain ⟨a1, -, -, a2, a3⟩ := pd_at hm k s hk hs
    obtain ⟨b1, -, -, b2, b3⟩ := pd_at hm k ((s + 1) % 4) hk s1
    have ea : aAt C k ((s + 1) % 4) = aAt C k s := by unfold aAt; rw [e]
    have h1 : 1 ≤ aAt C k s := (en_side hm k s hk hs).2.2.1
    have hc : (C.getD k Cr.none).comes ((s + 1) % 4) = !(C.getD k Cr.none).comes s := by
      have hn : pd C (4 * k + (s + 1) % 4) ≠ pd C (4 * k + s) := fun q => by have := pd_ne hm hk s1 hs q; omega
      rw [a1, b1, ea] at hn
      revert hn
      cases (C.getD k Cr.none).comes ((s + 1) % 4) <;> cases (C.getD k Cr.none).comes s <;> intro hn
      · exact absurd rfl hn
      · rfl
      · rfl
      · exact absurd rfl hn
    unfold ein al
    rw [a1, b1, ea, hc, dA_mk h1, dB_mk h1]
  have hal2 : pd C (4 * k + s) = ein C k ((s + 1) % 4) := by rw [← p4, ← hal, al_back]
  refine
    { bf := fd_bij hm, la := fun x hx => al_lt hx, lp := by omega, lq := by omega, lu := by omega, lv := by omega
      pq := ne _ _ s1 hs (by omega), pu := ne _ _ s1 s2 (by omega), pv := ne _ _ s1 s3 (by omega), qu := ne _ _ hs s2 (by omega), qv := ne _ _ hs s3 (by omega), uv := ne _ _ s2 s3 (by omega)
      aq := hal, fp := ?_, fq := ?_, fu := ?_, fv := ?_, gp := ?_, gq := ?_, gu := ?_, gv := ?_, go := ?_ }
  · rw [up0_pos _ q0, q5, show ((s + 1) % 4 + 3) % 4 = s by omega, hal2]
  · rw [up0_pos _ p0, p5, v4]
  · rw [up0_pos _ u0, u5, show ((s + 2) % 4 + 3) % 4 = (s + 1) % 4 by omega, ← q4, hal]
  · rw [up0_pos _ v0, v5, show ((s + 3) % 4 + 3) % 4 = (s + 2) % 4 by omega, u4]
  · rw [up0_pos _ q0, in1 _ s1, show ((s + 1) % 4 + 2) % 4 = (s + 3) % 4 by omega, v4]
  · rw [up0_pos _ p0, in1 _ hs, u4]
  · rw [up0_pos _ u0, in1 _ s2, show ((s + 2) % 4 + 2) % 4 = s by omega, hal2]
  · rw [up0_pos _ v0, in1 _ s3, show ((s + 3) % 4 + 2) % 4 = (s + 1) % 4 by omega, ← q4, hal]
  · intro x hx x1 x2 x3 x4
    rcases Nat.eq_zero_or_pos x with rfl | hp
    · rfl
    · rw [up0_pos _ hp, up0_pos _ hp]
      refine fs_out fun hG => ?_
      obtain ⟨d1, d2, d3⟩ := ein_onto hm hp (by omega)
      rw [List.mem_singleton.1 hG] at d3
      generalize dS C x = d at d2 d3
      by_cases y1 : d = s
      · exact x2 (y1 ▸ d3)
      by_cases y2 : d = (s + 1) % 4
      · exact x1 (y2 ▸ d3)
      by_cases y3 : d = (s + 2) % 4
      · exact x3 (y3 ▸ d3)
      · exact x4 ((show d = (s + 3) % 4 by omega) ▸ d3)
theorem pull_g {C : List Cr} {loops : Int} (hm : mayD C loops = true) {p q r t : Nat} (hp : p < C.length) (hq : q < C.length) (hpq : p ≠ q) (hr : r < 4) (ht : t < 4) (fX : fd C (ein C q t) = ein C p r) (fY : fd C (ein C p r) = ein C q t) (G : List Nat) (hG : ∀ k, k ∈ G ↔ k = p ∨ k = q) :
    PullG (up0 (fd C)) (up0 (fs C G)) al (4 * C.length + 1) (ein C q t) (ein C p r) (ein C p ((r + 3) % 4)) (ein C q ((t + 3) % 4)) (ein C p ((r + 1) % 4)) (ein C p ((r + 2) % 4)) (ein C q ((t + 2) % 4)) (ein C q ((t + 1) % 4)) := by
  have r1 : (r + 1) % 4 < 4 := by omega
  have r2 : (r + 2) % 4 < 4 := by omega
  have r3 : (r + 3) % 4 < 4 := by omega
  have t1 : (t + 1) % 4 < 4 := by omega
  have t2 : (t + 2) % 4 < 4 := by omega
  have t3 : (t + 3) % 4 < 4 := by omega
  obtain ⟨x0, x1, x2, x3, x4, x5⟩ := ein_at hm q t hq ht
  obtain ⟨y0, y1, y2, y3, y4, y5⟩ := ein_at hm p r hp hr
  obtain ⟨xx0, xx1, xx2, xx3, xx4, xx5⟩ := ein_at hm p ((r + 3) % 4) hp r3
  obtain ⟨yy0, yy1, yy2, yy3, yy4, yy5⟩ := ein_at hm q ((t + 3) % 4) hq t3
  obtain ⟨a0, a1, a2, a3, a4, a5⟩ := ein_at hm p ((r + 1) % 4) hp r1
  obtain ⟨b0, b1, b2, b3, b4, b5⟩ := ein_at hm p ((r + 2) % 4) hp r2
  obtain ⟨k0, k1, k2, k3, k4, k5⟩ := ein_at hm q ((t + 2) % 4) hq t2
  obtain ⟨d0, d1, d2, d3, d4, d5⟩ := ein_at hm q ((t + 1) % 4) hq t1
  have ne1 : ∀ a b, a < 4 → b < 4 → a ≠ b → ein C p a ≠ ein C p b := fun a b ha hb hab e => hab (ein_inj hm hp ha hp hb e).2
  have ne2 : ∀ a b, a < 4 → b < 4 → a ≠ b → ein C q a ≠ ein C q b := fun a b ha hb hab e => hab (ein_inj hm hq ha hq hb e).2
  have ne3 : ∀ a b, a < 4 → b < 4 → ein C p a ≠ ein C q b := fun a b ha hb e => hpq (ein_inj hm hp ha hq hb e).1
  have ne4 : ∀ a b, a < 4 → b < 4 → ein C q a ≠ ein C p b := fun a b ha hb e => hpq (ein_inj hm hq ha hp hb e).1.symm
  have inp := fun a (ha : a < 4) => fs_in hm (G := G) hp ha ((hG p).2 (Or.inl rfl))
  have inq := fun a (ha : a < 4) => fs_in hm (G := G) hq ha ((hG q).2 (Or.inr rfl))
  have ax : al (ein C q t) = ein C p ((r + 3) % 4) := by rw [← fY, y5]; rfl
  have ay : al (ein C p r) = ein C q ((t + 3) % 4) := by rw [← fX, x5]; rfl
  refine
    { bf := fd_bij hm, la := fun x hx => al_lt hx, aa := fun x _ => al_back x, lt := by omega, nd := ?_, ax := ax, ay := ay
      fx := by rw [up0_pos _ x0, fX], fy := by rw [up0_pos _ y0, fY]
      fxx := ?_, fyy := ?_, fa := ?_, fb := ?_, fk := ?_, fd := ?_, gx := ?_, gy := ?_, gxx := ?_, gyy := ?_, ga := ?_, gb := ?_, gk := ?_, gd := ?_, go := ?_ }
  · simp only [List.nodup_cons, List.mem_cons, List.not_mem_nil, or_false, not_or, not_false_eq_true, and_true, List.nodup_nil]
    exact ⟨⟨ne4 _ _ ht hr, ne4 _ _ ht r3, ne2 _ _ ht t3 (by omega), ne4 _ _ ht r1, ne4 _ _ ht r2, ne2 _ _ ht t2 (by omega), ne2 _ _ ht t1 (by omega)⟩,
      ⟨ne1 _ _ hr r3 (by omega), ne3 _ _ hr t3, ne1 _ _ hr r1 (by omega), ne1 _ _ hr r2 (by omega), ne3 _ _ hr t2, ne3 _ _ hr t1⟩,
      ⟨ne3 _ _ r3 t3, ne1 _ _ r3 r1 (by omega), ne1 _ _ r3 r2 (by omega), ne3 _ _ r3 t2, ne3 _ _ r3 t1⟩,
      ⟨ne4 _ _ t3 r1, ne4 _ _ t3 r2, ne2 _ _ t3 t2 (by omega), ne2 _ _ t3 t1 (by omega)⟩,
      ⟨ne1 _ _ r1 r2 (by omega), ne3 _ _ r1 t2, ne3 _ _ r1 t1⟩, ⟨ne3 _ _ r2 t2, ne3 _ _ r2 t1⟩, ne2 _ _ t2 t1 (by omega)⟩
  · rw [up0_pos _ xx0, xx5, b4, show ((r + 3) % 4 + 3) % 4 = (r + 2) % 4 by omega]
  · rw [up0_pos _ yy0, yy5, k4, show ((t + 3) % 4 + 3) % 4 = (t + 2) % 4 by omega]
  · rw [up0_pos _ a0, a5, show ((r + 1) % 4 + 3) % 4 = r by omega, ← y4, ay]
  · rw [up0_pos _ b0, b5, a4, show ((r + 2) % 4 + 3) % 4 = (r + 1) % 4 by omega]
  · rw [up0_pos _ k0, k5, d4, show ((t + 2) % 4 + 3) % 4 = (t + 1) % 4 by omega]
  · rw [up0_pos _ d0, d5, show ((t + 1) % 4 + 3) % 4 = t by omega, ← x4, ax]
  · rw [up0_pos _ x0, inq _ ht, k4]
  · rw [up0_pos _ y0, inp _ hr, b4]
  · rw [up0_pos _ xx0, inp _ r3, a4, show ((r + 3) % 4 + 2) % 4 = (r + 1) % 4 by omega]
  · rw [up0_pos _ yy0, inq _ t3, d4, show ((t + 3) % 4 + 2) % 4 = (t + 1) % 4 by omega]
  · rw [up0_pos _ a0, inp _ r1, show ((r + 1) % 4 + 2) % 4 = (r + 3) % 4 by omega, ← y5, fY]
  · rw [up0_pos _ b0, inp _ r2, show ((r + 2) % 4 + 2) % 4 = r by omega, ← y4, ay]
  · rw [up0_pos _ k0, inq _ t2, show ((t + 2) % 4 + 2) % 4 = t by omega, ← x4, ax]
  · rw [up0_pos _ d0, inq _ t1, show ((t + 1) % 4 + 2) % 4 = (t + 3) % 4 by omega, ← x5, fX]
  · intro x hx hno
    simp only [List.mem_cons, List.not_mem_nil, or_false, not_or] at hno
    obtain ⟨z1, z2, z3, z4, z5, z6, z7, z8⟩ := hno
    rcases Nat.eq_zero_or_pos x with rfl | hp0
    · rfl
    · rw [up0_pos _ hp0, up0_pos _ hp0]
      refine fs_out fun hg => ?_
      obtain ⟨g1, g2, g3⟩ := ein_onto hm hp0 (by omega)
      generalize dS C x = d at g2 g3
      rcases (hG _).1 hg with w | w
      · rw [w] at g3
        by_cases v1 : d = r
        · exact z2 (v1 ▸ g3)
        by_cases v2 : d = (r + 1) % 4
        · exact z5 (v2 ▸ g3)
        by_cases v3 : d = (r + 2) % 4
        · exact z6 (v3 ▸ g3)
        · exact z3 ((show d = (r + 3) % 4 by omega) ▸ g3)
      · rw [w] at g3
        by_cases v1 : d = t
        · exact z1 (v1 ▸ g3)
        by_cases v2 : d = (t + 1) % 4
        · exact z8 (v2 ▸ g3)
        by_cases v3 : d = (t + 2) % 4
        · exact z7 (v3 ▸ g3)
        · exact z4 ((show d = (t + 3) % 4 by omega) ▸ g3)
end Go.Proofs.Ytagaajlbkfkaiaa
/- Plain mathematics: what a planar diagram's rings and pieces are where some crossings are passed straight. -/
namespace Go.Proofs.Ytagaajlbkfkaiaa
theorem inj_cnt {n M:Nat} {P Q:Nat->Bool} (m:Nat->Nat) (hl:∀ v,v<n->P v=true->m v<M/\Q (m v)=true) (hi:∀ u v,u<n->v<n->P u=true->P v=true->m u=m v->u=v):(List.range n).countP P<=(List.range M).countP Q:=by
 rw[List.countP_eq_length_filter,List.countP_eq_length_filter,<-List.length_map (f:=m)]
 have hnd:(((List.range n).filter P).map m).Nodup:=by
  unfold List.Nodup
  rw[List.pairwise_map]
  refine List.Pairwise.imp_of_mem ?_ (List.Pairwise.filter _ List.nodup_range)
  intro u v hu hv huv e
  obtain⟨hu,ru⟩:=List.mem_filter.1 hu
  obtain⟨hv,rv⟩:=List.mem_filter.1 hv
  exact huv (hi u v (List.mem_range.1 hu) (List.mem_range.1 hv) ru rv e)
 refine hnd.length_le_of_subset fun x hx=>?_
 obtain⟨v,hv,rfl⟩:=List.mem_map.1 hx
 obtain⟨hv,rv⟩:=List.mem_filter.1 hv
 have:=hl v (List.mem_range.1 hv) rv
 exact List.mem_filter.2 ⟨List.mem_range.2 this.1,this.2⟩
theorem cnt_zero (P:Nat->Bool) (m:Nat) (h:P 0=true):(List.range (m+1)).countP P=(List.range (m+1)).countP (fun v=>P v&&decide (1<=v))+1:=by
 rw[cnt_up1 (fun v=>P v&&decide (1<=v)) m (by simp),List.range_succ_eq_map,List.countP_cons,List.countP_map,if_pos h]
 congr 1
 refine List.countP_congr fun v _=>?_
 show P (v+1)=true↔(P (v+1)&&decide (1<=v+1))=true
 rw[decide_eq_true (by omega),Bool.and_true]
theorem rq_pos {E:List (Nat×Nat)} {W:List Nat} {m:Nat} (h:Least E (m+1) W):rq W (fun _=>true) (m+1)=rq W (fun v=>decide (1<=v)) (m+1)+1:=by
 rw[rq_eq,rq_eq]
 have h0:=h.le (v:=0) (by omega)
 rw[cnt_zero _ m (by rw[Bool.and_true];exact decide_eq_true (by omega))]
 congr 1
 refine List.countP_congr fun v _=>?_
 rw[Bool.and_true]
theorem cyA_fd {C:List Cr} {loops:Int} (hm:mayD C loops=true):cyA (up0 (fd C)) (4*C.length+1)=(facesM C).length+1:=by
 have h:=walks_cyN (fd_closed hm) (fun a b h1 h2 h3 h4 e=>fd_inj hm a b h1 h2 h3 h4 e) (fun v=>decide (1<=v)) (by simp)
 have hb:=(heads_roots (fd_closed hm) (fun a b h1 h2 h3 h4 e=>fd_inj hm a b h1 h2 h3 h4 e) (4*C.length) (Nat.le_refl _)).1
 have e:(walksTo (fd C) (4*C.length) (4*C.length)).1.countP (fun l=>decide (1<=l.getD 0 0))=(facesM C).length:=List.countP_eq_length.2 fun l hl=>decide_eq_true (hb l hl).1
 unfold cyA cyN
 rw[rq_pos (cyW_least (fd_bij hm).lt),<-e,h]
 rfl
theorem set_lv {C:List Cr} {loops:Int} (hm:mayD C loops=true) {S:Nat->Prop} (hS:Closed (edb (up0 (fd C)) al (4*C.length+1)) S) {j:Nat} (h1:1<=j) (h2:j<=4*C.length):S j↔S (pd C (4*lvC C j)):=by
 obtain⟨s1,s2⟩:=closed_edb.1 hS
 have step:∀ k s,k<C.length->s<4->(S (pd C (4*k+s))↔S (pd C (4*k+(s+3)%4))):=fun k s hk hs=>by
  obtain⟨e0,e1,-,-,e4,e5⟩:=ein_at hm k s hk hs
  have a:=s2 (ein C k s) (by omega)
  have b:=s1 (ein C k s) (by omega)
  rw[e4]at a
  rw[up0_pos _ e0,e5]at b
  exact a.symm.trans b
 obtain⟨ha1,ha2,-,-⟩:=al_may h1 h2
 obtain⟨g1,g2,g3⟩:=ein_onto hm ha1 ha2
 have e:j=pd C (4*dC C (al j)+dS C (al j)):=by rw[<-(ein_at hm _ _ g1 g2).2.2.2.2.1,<-g3,al_back]
 rw[(dC_al (C:=C) h1 h2).1]at e g1
 generalize lvC C j=k at e g1 ⊢
 generalize dS C (al j)=s at e g2
 rw[e]
 have q1:=step k 1 g1 (by decide)
 have q2:=step k 2 g1 (by decide)
 have q3:=step k 3 g1 (by decide)
 match s,g2 with
 |0,_=>exact Iff.rfl
 |1,_=>exact q1
 |2,_=>exact q2.trans q1
 |3,_=>exact q3.trans (q2.trans q1)
theorem kN_fd {C:List Cr} {loops:Int} (hm:mayD C loops=true):kN (edb (up0 (fd C)) al (4*C.length+1)) (4*C.length+1)<=pcN C+1:=by
 have hE:=edb_lt (M:=4*C.length+1) (fd_bij hm).lt (fun x hx=>al_lt (n:=C.length) hx)
 have lE:=levR_least hE (4*C.length+1) (Nat.le_refl _)
 have hW:=whoM_least hm
 unfold kN
 rw[rq_pos lE,rq_eq,pcN_eq]
 refine Nat.add_le_add_right (inj_cnt (fun j=>(whoM C).getD (lvC C j) 0) (fun v hv hP=>?_) fun u v hu hv hPu hPv e=>?_) 1
 · simp only[Bool.and_eq_true,decide_eq_true_eq]at hP
   have hl:=lv_lt hm hP.2 (by omega)
   exact⟨hW.lt hl,decide_eq_true (hW.root hl)⟩
 · simp only[Bool.and_eq_true,decide_eq_true_eq]at hPu hPv
   have hlu:=lv_lt hm hPu.2 (by omega)
   have hlv:=lv_lt hm hPv.2 (by omega)
   have hc:Con (edb (up0 (fd C)) al (4*C.length+1)) u v:=fun S hS hSu=>by
    refine(set_lv hm hS hPv.2 (by omega)).2 ?_
    refine(hW.same hlu hlv).1 e (fun k=>S (pd C (4*k))) (fun ed he=>?_) ((set_lv hm hS hPu.2 (by omega)).1 hSu)
    obtain⟨i,hi,rfl⟩:=List.mem_map.1 he
    have hi:=List.mem_range.1 hi
    have m1:=mk_le (a:=i+1) (n:=C.length) (p:=true) (by omega) (by omega)
    have m2:=mk_le (a:=i+1) (n:=C.length) (p:=false) (by omega) (by omega)
    have l1:=set_lv hm hS m1.1 m1.2
    have l2:=set_lv hm hS m2.1 m2.2
    have a1:al (mkD (i+1) true)=mkD (i+1) false:=by unfold al;rw[dA_mk (by omega),dB_mk (by omega)];rfl
    have sa:=(closed_edb.1 hS).2 (mkD (i+1) true) (by omega)
    rw[a1]at sa
    unfold lvC at l1 l2
    rw[dA_mk (by omega),dB_mk (by omega)]at l1 l2
    exact l1.symm.trans (sa.trans l2)
   have:=(lE.same hu hv).2 hc
   rw[hPu.1,hPv.1]at this
   exact this
theorem curl_euler {C:List Cr} {loops:Int} (hm:mayD C loops=true) (hp:planarB C=true) {k s:Nat} (hk:k<C.length) (hs:s<4) (e:(C.getD k Cr.none).arc s=(C.getD k Cr.none).arc ((s+1)%4)):
    C.length+2*kN (edb (up0 (fs C [k])) al (4*C.length+1)) (4*C.length+1)<=cyA (up0 (fs C [k])) (4*C.length+1)+1+1:=by
 have h:=curl_g hm hk hs e
 have c:=h.count
 have kk:=kN_le (F:=edb (up0 (fs C [k])) al (4*C.length+1)) (edb_lt h.bf.lt h.la) (edb_lt (fun x hx=>fs_lt hm [k] hx) h.la) h.con
 have p:=(planar_sum hm).2.1 hp
 have a:=cyA_fd hm
 have b:=kN_fd hm
 omega
theorem pull_euler {C:List Cr} {loops:Int} (hm:mayD C loops=true) (hpl:planarB C=true) {p q r t:Nat} (hp:p<C.length) (hq:q<C.length) (hpq:p≠q) (hr:r<4) (ht:t<4) (fX:fd C (ein C q t)=ein C p r) (fY:fd C (ein C p r)=ein C q t) (G:List Nat) (hG:∀ k,k∈G↔k=p∨k=q):
    C.length+2*kN (edb (up0 (fs C G)) al (4*C.length+1)) (4*C.length+1)<=cyA (up0 (fs C G)) (4*C.length+1)+2+1:=by
 have h:=pull_g hm hp hq hpq hr ht fX fY G hG
 have c:=h.euler fun x hx=>fs_lt hm G hx
 have pl:=(planar_sum hm).2.1 hpl
 have a:=cyA_fd hm
 have b:=kN_fd hm
 omega
end Go.Proofs.Ytagaajlbkfkaiaa
/- Plain mathematics: the crossings that are left, and their numbers. -/
namespace Go.Proofs.Ytagaajlbkfkaiaa
def posG (G:List Nat) (k:Nat):Nat:=(List.range k).countP fun j=>decide (j ∉ G)
theorem posG_next (G:List Nat) (k:Nat):posG G (k+1)=posG G k+if k∈G then 0 else 1:=by
 unfold posG
 rw[List.range_succ,List.countP_append,List.countP_singleton]
 by_cases h:k∈G
 · rw[if_pos h,if_neg (by simpa using h)]
 · rw[if_neg h,if_pos (by simpa using h)]
theorem posG_mono (G:List Nat) {k i:Nat} (h:k<=i):posG G k<=posG G i:=by
 induction i with
 |zero=>rw[show k=0 by omega];exact Nat.le_refl _
 |succ i ih=>
  by_cases e:k=i+1
  · rw[e];exact Nat.le_refl _
  · have:=ih (by omega)
    rw[posG_next]
    omega
theorem posG_lt {G:List Nat} {k i:Nat} (h:k<i) (hk:k ∉ G):posG G k<posG G i:=by
 have:=posG_mono G (show k+1<=i from h)
 rw[posG_next,if_neg hk]at this
 omega
theorem posG_inj {G:List Nat} {k j:Nat} (hk:k ∉ G) (hj:j ∉ G) (e:posG G k=posG G j):k=j:=by
 rcases Nat.lt_trichotomy k j with h|h|h
 · have:=posG_lt h hk;omega
 · exact h
 · have:=posG_lt h hj;omega
theorem posG_onto {G:List Nat}:∀ {n i:Nat},i<posG G n->∃ k,k<n/\k ∉ G/\posG G k=i:=by
 intro n
 induction n with
 |zero=>intro i h;exact absurd h (Nat.not_lt_zero _)
 |succ n ih=>
  intro i h
  by_cases hl:i<posG G n
  · obtain⟨k,h1,h2,h3⟩:=ih hl
    exact⟨k,by omega,h2,h3⟩
  · rw[posG_next]at h
    by_cases hg:n∈G
    · rw[if_pos hg]at h;omega
    · rw[if_neg hg]at h;exact⟨n,by omega,hg,by omega⟩
theorem reTo_pos (C:List Cr) (G:List Nat) (h:Nat->Nat) (i:Nat):(reTo C G h i).length=posG G i:=by
 induction i with
 |zero=>rfl
 |succ i ih=>
  rw[posG_next]
  simp only[reTo,List.length_append]
  rw[ih]
  split<;>simp
theorem reTo_at {C:List Cr} {G:List Nat} {h:Nat->Nat} {k:Nat} (hk:k ∉ G):∀ i,k<i->(reTo C G h i).getD (posG G k) Cr.none=reX h (C.getD k Cr.none):=by
 intro i
 induction i with
 |zero=>intro h;exact absurd h (Nat.not_lt_zero _)
 |succ i ih=>
  intro hi
  simp only[reTo]
  by_cases e:k=i
  · subst e
    rw[if_neg hk,List.getD_eq_getElem?_getD,List.getElem?_append_right (by rw[reTo_pos];exact Nat.le_refl _),reTo_pos,Nat.sub_self]
    rfl
  · have hlt:=posG_lt (G:=G) (show k<i by omega) hk
    rw[List.getD_eq_getElem?_getD,List.getElem?_append_left (by rw[reTo_pos];exact hlt),<-List.getD_eq_getElem?_getD]
    exact ih (by omega)
theorem reX_arc (h:Nat->Nat) (X:Cr) {s:Nat} (hs:s<4):(reX h X).arc s=(h (X.arc s).toNat:Int):=by
 match s,hs with
 |0,_=>rfl
 |1,_=>rfl
 |2,_=>rfl
 |3,_=>rfl
theorem reX_comes (h:Nat->Nat) (X:Cr) (s:Nat):(reX h X).comes s=X.comes s:=rfl
theorem ends_one {C:List Cr} {f:Nat->Nat} (hf:Goes C f) (G:List Nat) {a b:Nat} (_a1:1<=a) (a2:a<=2*C.length) (_b1:1<=b) (b2:b<=2*C.length) (ha:toC C a ∉ G) (hb:toC C b ∉ G) (e:(uniM C f G).getD a 0=(uniM C f G).getD b 0):a=b:=by
 have hL:=uni_least (G:=G) hf.closed
 have hc:=(hL.same (by omega) (by omega)).1 e
 have hS:Closed (uTo C f G (2*C.length)) fun z=>∃ i,it f i z=a/\∀ j,j<i->toC C (it f j z)∈G:=fun ed he=>by
  obtain⟨x,x1,x2,x3,rfl⟩:=mem_uTo.1 he
  have sh:∀ i,it f i (f x)=it f (i+1) x:=fun i=>by have:=it_add f x i 1;exact this.symm
  constructor
  · rintro⟨i,h1,h2⟩
    match i,h1,h2 with
    |0,h1,_=>exact absurd x3 (by have h1:x=a:=h1;rw[h1];exact ha)
    |i+1,h1,h2=>exact⟨i,(sh i).trans h1,fun j hj=>by have:=h2 (j+1) (by omega);show toC C (it f j (f x))∈G;rw[sh j];exact this⟩
  · rintro⟨i,h1,h2⟩
    refine⟨i+1,(sh i).symm.trans h1,fun j hj=>?_⟩
    match j with
    |0=>exact x3
    |j+1=>have:=h2 j (by omega);have e2:it f (j+1) x=it f j (f x):=(sh j).symm;show toC C (it f (j+1) x)∈G;rw[e2];exact this
 obtain⟨i,h1,h2⟩:=hc _ hS ⟨0,rfl,fun j hj=>absurd hj (Nat.not_lt_zero _)⟩
 match i,h1,h2 with
 |0,h1,_=>exact h1.symm
 |i+1,_,h2=>exact absurd (h2 0 (by omega)) hb
theorem starts_one {C:List Cr} {f:Nat->Nat} (hf:Goes C f) (G:List Nat) {a b:Nat} (a1:1<=a) (a2:a<=2*C.length) (_b1:1<=b) (b2:b<=2*C.length) (ha:enC C a false ∉ G) (hb:enC C b false ∉ G) (e:(uniM C f G).getD a 0=(uniM C f G).getD b 0):a=b:=by
 have hL:=uni_least (G:=G) hf.closed
 have hc:=(hL.same (by omega) (by omega)).1 e
 have hit:∀ i,1<=it f i a/\it f i a<=2*C.length:=fun i=>by
  induction i with
  |zero=>exact⟨a1,a2⟩
  |succ i ih=>exact hf.closed _ ih.1 ih.2
 have hS:Closed (uTo C f G (2*C.length)) fun z=>∃ i,z=it f i a/\∀ j,j<i->toC C (it f j a)∈G:=fun ed he=>by
  obtain⟨x,x1,x2,x3,rfl⟩:=mem_uTo.1 he
  constructor
  · rintro⟨i,h1,h2⟩
    have h1:x=it f i a:=h1
    refine⟨i+1,by show f x=f (it f i a);rw[h1],fun j hj=>?_⟩
    by_cases q:j=i
    · rw[q,<-h1];exact x3
    · exact h2 j (by omega)
  · rintro⟨i,h1,h2⟩
    match i,h1,h2 with
    |0,h1,_=>
     have h1:f x=a:=h1
     exact absurd x3 (by rw[<-hf.out x x1 x2,h1];exact ha)
    |i+1,h1,h2=>exact⟨i,hf.inj x _ x1 x2 (hit i).1 (hit i).2 h1,fun j hj=>h2 j (by omega)⟩
 obtain⟨i,h1,h2⟩:=hc _ hS ⟨0,rfl,fun j hj=>absurd hj (Nat.not_lt_zero _)⟩
 match i,h1,h2 with
 |0,h1,_=>exact h1.symm
 |i+1,h1,h2=>
  have h1:b=f (it f i a):=h1
  have:=hf.out _ (hit i).1 (hit i).2
  rw[<-h1]at this
  exact absurd (this▸h2 i (by omega)) hb
theorem cntB_lt {P:Nat->Bool} {u v:Nat} (h1:1<=u) (hP:P u=true) (h:u<v):cntB P u<cntB P v:=by
 induction v with
 |zero=>omega
 |succ v ih=>
  show cntB P u<cntB P v+(if 1<=v/\P v=true then 1 else 0)
  by_cases e:u=v
  · rw[<-e,if_pos ⟨h1,hP⟩];omega
  · have:=ih (by omega);omega
theorem cntB_inj {P:Nat->Bool} {u v:Nat} (hu:1<=u) (hPu:P u=true) (hv:1<=v) (hPv:P v=true) (e:cntB P u=cntB P v):u=v:=by
 rcases Nat.lt_trichotomy u v with h|h|h
 · have:=cntB_lt hu hPu h;omega
 · exact h
 · have:=cntB_lt hv hPv h;omega
end Go.Proofs.Ytagaajlbkfkaiaa
/- Plain mathematics: what is left of a diagram when crossings are taken out may be one. -/
namespace Go.Proofs.Ytagaajlbkfkaiaa
structure Lft (C:List Cr) (loops:Int) (G L:List Nat) (P:Nat->Bool):Prop where
 hm:mayD C loops=true
 go:Goes C (nx C)
 hL:uniM C (nx C) G=L
 hP:∀ v,1<=v->(P v=true↔thP C G L v)
def lft (C:List Cr) (G L:List Nat) (P:Nat->Bool):List Cr:=reTo C G (numM L P) C.length
theorem Lft.least {C:List Cr} {loops:Int} {G L:List Nat} {P:Nat->Bool} (h:Lft C loops G L P):Least (uTo C (nx C) G (2*C.length)) (2*C.length+1) L:=h.hL▸uni_least (G:=G) h.go.closed
theorem Lft.pos {C:List Cr} {loops:Int} {G L:List Nat} {P:Nat->Bool} (h:Lft C loops G L P) {a:Nat} (h1:1<=a) (h2:a<=2*C.length):1<=L.getD a 0:=
 (h.least.2 a (by omega)).1 (fun z=>1<=z) (fun e he=>by have:=uTo_lt h.go.closed e he;exact⟨fun _=>this.2.1,fun _=>this.1.1⟩) h1
theorem Lft.at {C:List Cr} {loops:Int} {G L:List Nat} {P:Nat->Bool} (h:Lft C loops G L P) {k s:Nat} (hk:k<C.length) (hG:k ∉ G) (hs:s<4):
    ((lft C G L P).getD (posG G k) Cr.none).arc s=((cntB P (L.getD (aAt C k s) 0)+1:Nat):Int)/\P (L.getD (aAt C k s) 0)=true/\1<=L.getD (aAt C k s) 0/\((lft C G L P).getD (posG G k) Cr.none).comes s=(C.getD k Cr.none).comes s:=by
 obtain⟨-,-,a1,a2⟩:=en_side h.hm k s hk hs
 have hp:=h.pos a1 a2
 have hP:P (L.getD (aAt C k s) 0)=true:=(h.hP _ hp).2 ⟨k,s,hk,hG,hs,rfl⟩
 unfold lft
 rw[reTo_at hG _ hk,reX_comes,reX_arc _ _ hs]
 refine⟨?_,hP,hp,rfl⟩
 show((numM L P (aAt C k s):Nat):Int)=_
 unfold numM
 rw[if_pos hP]
theorem Lft.one {C:List Cr} {loops:Int} {G L:List Nat} {P:Nat->Bool} (h:Lft C loops G L P) {k s j t:Nat} (hk:k<C.length) (hG:k ∉ G) (hs:s<4) (hj:j<C.length) (hH:j ∉ G) (ht:t<4)
    (e:L.getD (aAt C k s) 0=L.getD (aAt C j t) 0) (ec:(C.getD k Cr.none).comes s=(C.getD j Cr.none).comes t):k=j/\s=t:=by
 obtain⟨k1,k2,k3,k4⟩:=en_side h.hm k s hk hs
 obtain⟨j1,j2,j3,j4⟩:=en_side h.hm j t hj ht
 have ea:aAt C k s=aAt C j t:=by
  rw[<-h.hL]at e
  cases hc:(C.getD k Cr.none).comes s with
  |true=>
   rw[hc]at k1
   rw[<-ec,hc]at j1
   exact ends_one h.go G k3 k4 j3 j4 (by have q:toC C (aAt C k s)=k:=k1;rw[q];exact hG) (by have q:toC C (aAt C j t)=j:=j1;rw[q];exact hH) e
  |false=>
   rw[hc]at k1
   rw[<-ec,hc]at j1
   exact starts_one h.go G k3 k4 j3 j4 (by rw[k1];exact hG) (by rw[j1];exact hH) e
 rw[ec,ea]at k1 k2
 exact⟨k1.symm.trans j1,k2.symm.trans j2⟩
theorem cntB_cnt (P:Nat->Bool) (n:Nat):cntB P n=(List.range n).countP fun v=>decide (1<=v)&&P v:=by
 induction n with
 |zero=>rfl
 |succ n ih=>
  show cntB P n+(if 1<=n/\P n=true then 1 else 0)=_
  rw[ih,List.range_succ,List.countP_append,List.countP_singleton]
  congr 1
  by_cases q:1<=n/\P n=true
  · rw[if_pos q,if_pos (by simpa using q)]
  · rw[if_neg q,if_neg (by simpa using q)]
theorem comes_dec:∀ p:Bool,∀ s,s<4->∀ t,t<4->(s==0||(s==1&&!p)||(s==3&&p))=true->(t==0||(t==1&&!p)||(t==3&&p))=true->s%2=t%2->s=t:=by decide
theorem comes_par {X:Cr} {s t:Nat} (hs:s<4) (ht:t<4) (e1:X.comes s=true) (e2:X.comes t=true) (e:s%2=t%2):s=t:=by
 exact comes_dec X.plus s hs t ht e1 e2 e
theorem Lft.many {C:List Cr} {loops:Int} {G L:List Nat} {P:Nat->Bool} (h:Lft C loops G L P):cntB P (2*C.length+1)<=2*posG G C.length:=by
 have hw:∀ v,∃ a,v<2*C.length+1->1<=v->P v=true->1<=a/\a<=2*C.length/\L.getD a 0=v/\toC C a ∉ G:=fun v=>by
  by_cases q:v<2*C.length+1/\1<=v/\P v=true
  · obtain⟨q1,q2,q3⟩:=q
    have th:=(h.hP v q2).1 q3
    rw[<-h.hL]at th
    obtain⟨-,a,ha,e,hg⟩:=(st_th h.hm h.go G v q2).1 th
    rw[h.hL]at e
    have a1:1<=a:=by
     rcases Nat.eq_zero_or_pos a with rfl|hp
     · have:=h.least.le (v:=0) (by omega);omega
     · exact hp
    unfold goneB at hg
    rw[if_neg (by omega)]at hg
    exact⟨a,fun _ _ _=>⟨a1,by omega,e,by simpa using hg⟩⟩
  · exact⟨0,fun q1 q2 q3=>absurd ⟨q1,q2,q3⟩ q⟩
 obtain⟨w,hw⟩:=Classical.axiomOfChoice hw
 have hr:=cntB_cnt P (2*C.length+1)
 have hc:(List.range (2*posG G C.length)).countP (fun _=>true)=2*posG G C.length:=by
  rw[List.countP_eq_length.2 fun _ _=>rfl,List.length_range]
 rw[hr,<-hc]
 refine inj_cnt (fun v=>2*posG G (toC C (w v))+toS C (w v)%2) (fun v hv hP=>?_) fun u v hu hv hPu hPv e=>?_
 · simp only[Bool.and_eq_true,decide_eq_true_eq]at hP
   obtain⟨a1,a2,a3,a4⟩:=hw v hv hP.1 hP.2
   have t:=(to_may h.hm _ a1 a2).2.1
   have:=posG_lt t a4
   exact⟨by show 2*posG G (toC C (w v))+toS C (w v)%2<_;omega,rfl⟩
 · simp only[Bool.and_eq_true,decide_eq_true_eq]at hPu hPv
   obtain⟨a1,a2,a3,a4⟩:=hw u hu hPu.1 hPu.2
   obtain⟨b1,b2,b3,b4⟩:=hw v hv hPv.1 hPv.2
   obtain⟨-,t1,t2,t3,t4⟩:=to_may h.hm _ a1 a2
   obtain⟨-,u1,u2,u3,u4⟩:=to_may h.hm _ b1 b2
   have e:2*posG G (toC C (w u))+toS C (w u)%2=2*posG G (toC C (w v))+toS C (w v)%2:=e
   have ek:=posG_inj a4 b4 (by omega)
   rw[ek]at t3 t4
   have es:=comes_par t2 u2 t4 u4 (by omega)
   rw[es,u3]at t3
   rw[<-a3,<-b3,show w u=w v by omega]
end Go.Proofs.Ytagaajlbkfkaiaa
/- Plain mathematics: what is left may be a diagram; its darts; strands passed straight. -/
namespace Go.Proofs.Ytagaajlbkfkaiaa
theorem sd_zeroT {x:Cr} {a:Int} {p:Bool}:∀ k,(∀ t,t<k->¬(x.arc t=a/\x.comes t=p))->sd x a p k=0
 |0,_=>rfl
 |k+1,h=>by rw[sd,sd_zeroT k (fun t ht=>h t (by omega)),if_neg (h k (by omega))]
theorem sdTo_zeroT {C:List Cr} {a:Int} {p:Bool}:∀ i,(∀ j t,j<i->t<4->¬((C.getD j Cr.none).arc t=a/\(C.getD j Cr.none).comes t=p))->sdTo C a p i=0
 |0,_=>rfl
 |i+1,h=>by rw[sdTo,sdTo_zeroT i (fun j t hj ht=>h j t (by omega) ht),sd_zeroT 4 (fun t ht=>h i t (by omega) ht)]
theorem may_one {D:List Cr} {l:Int} (hs:sizeB D l=true) (hr:∀ k s,k<D.length->s<4->1<=(D.getD k Cr.none).arc s/\(D.getD k Cr.none).arc s<=2*(D.length:Int))
    (one:∀ i k j t,i<D.length->k<4->j<D.length->t<4->(D.getD j Cr.none).arc t=(D.getD i Cr.none).arc k->(D.getD j Cr.none).comes t=(D.getD i Cr.none).comes k->j=i/\t=k):mayD D l=true:=by
 refine fit_yes hs fun i k hi hk=>?_
 obtain⟨h1,h2⟩:=hr i k hi hk
 refine⟨h1,h2,?_⟩
 unfold ahd
 rw[sdTo_zeroT i (fun j t hj ht h=>by have:=(one i k j t hi hk (by omega) ht h.1 h.2).1;omega),sd_zeroT k (fun t ht h=>by have:=(one i k i t hi hk hi (by omega) h.1 h.2).2;omega)]
theorem Lft.len {C:List Cr} {G L:List Nat} {P:Nat->Bool}:(lft C G L P).length=posG G C.length:=reTo_pos ..
theorem Lft.may {C:List Cr} {loops lo:Int} {G L:List Nat} {P:Nat->Bool} (h:Lft C loops G L P) (hs:sizeB (lft C G L P) lo=true):mayD (lft C G L P) lo=true:=by
 refine may_one hs (fun i s hi hs=>?_) fun i s j t hi hs hj ht ea ec=>?_
 · rw[Lft.len]at hi ⊢
   obtain⟨k,k1,k2,rfl⟩:=posG_onto hi
   obtain⟨e1,e2,e3,-⟩:=h.at k1 k2 hs
   obtain⟨-,-,a1,a2⟩:=en_side h.hm k s k1 hs
   have hlt:=h.least.lt (v:=aAt C k s) (by omega)
   have h1:=cntB_lt e3 e2 hlt
   have h2:=h.many
   rw[e1]
   omega
 · rw[Lft.len]at hi hj
   obtain⟨k,k1,k2,rfl⟩:=posG_onto hi
   obtain⟨m,m1,m2,rfl⟩:=posG_onto hj
   obtain⟨e1,e2,e3,e4⟩:=h.at k1 k2 hs
   obtain⟨f1,f2,f3,f4⟩:=h.at m1 m2 ht
   rw[e1,f1]at ea
   rw[e4,f4]at ec
   have el:=cntB_inj f3 f2 e3 e2 (by omega)
   obtain⟨q1,q2⟩:=h.one m1 m2 ht k1 k2 hs el ec
   exact⟨by rw[q1],q2⟩
theorem Lft.arc {C:List Cr} {loops:Int} {G L:List Nat} {P:Nat->Bool} (h:Lft C loops G L P) {k s:Nat} (hk:k<C.length) (hG:k ∉ G) (hs:s<4):aAt (lft C G L P) (posG G k) s=cntB P (L.getD (aAt C k s) 0)+1:=by
 have:=(h.at hk hG hs).1
 show(((lft C G L P).getD (posG G k) Cr.none).arc s).toNat=_
 rw[this,Int.toNat_natCast]
theorem comes_opp (X:Cr) {s:Nat} (hs:s<4):X.comes ((s+2)%4)=!X.comes s:=by
 have:∀ p:Bool,∀ s,s<4->((s+2)%4==0||((s+2)%4==1&&!p)||((s+2)%4==3&&p))=!(s==0||(s==1&&!p)||(s==3&&p)):=by decide
 exact this X.plus s hs
theorem ein_arc {C:List Cr} {loops:Int} (hm:mayD C loops=true) {k s:Nat} (hk:k<C.length) (hs:s<4):dA (ein C k s)=aAt C k s/\dB (ein C k s)=!(C.getD k Cr.none).comes s:=by
 obtain⟨e,-,-,h1,h2⟩:=pd_at hm k s hk hs
 obtain⟨-,-,a3,a4⟩:=al_may h1 h2
 have p:=(en_side hm k s hk hs).2.2.1
 unfold ein
 rw[a3,a4,e,dA_mk p,dB_mk p]
 exact⟨rfl,rfl⟩
theorem Lft.straight {C:List Cr} {loops:Int} {G L:List Nat} {P:Nat->Bool} (h:Lft C loops G L P) {z:Nat} (z1:1<=z) (z2:z<=4*C.length) (hz:dC C z∈G):L.getD (dA (fs C G z)) 0=L.getD (dA z) 0/\dB (fs C G z)=dB z:=by
 obtain⟨g1,g2,g3⟩:=ein_onto h.hm z1 z2
 generalize dC C z=k at g1 g3 hz
 generalize dS C z=s at g2 g3
 subst g3
 have s2:(s+2)%4<4:=by omega
 obtain⟨e1,e2⟩:=ein_arc h.hm g1 g2
 obtain⟨p1,p2,p3,p4⟩:=en_side h.hm k s g1 g2
 obtain⟨q1,q2,q3,q4⟩:=en_side h.hm k ((s+2)%4) g1 s2
 rw[fs_in h.hm g1 g2 hz,(pd_at h.hm k ((s+2)%4) g1 s2).1,dA_mk q3,dB_mk q3,e1,e2]
 refine⟨?_,comes_opp _ g2⟩
 rw[comes_opp _ g2]at q1 q2
 refine(h.least.same (by omega) (by omega)).2 ?_
 cases hc:(C.getD k Cr.none).comes s with
 |true=>
  rw[hc]at p1 p2
  refine(Con.edge (mem_uTo.2 ⟨aAt C k s,p3,p4,by have q:toC C (aAt C k s)=k:=p1;rw[q];exact hz,?_⟩)).symm
  have t1:toC C (aAt C k s)=k:=p1
  have t2:toS C (aAt C k s)=s:=p2
  unfold nx
  rw[t1,t2]
  rfl
 |false=>
  rw[hc]at q1 q2
  refine Con.edge (mem_uTo.2 ⟨aAt C k ((s+2)%4),q3,q4,by have q:toC C (aAt C k ((s+2)%4))=k:=q1;rw[q];exact hz,?_⟩)
  have t1:toC C (aAt C k ((s+2)%4))=k:=q1
  have t2:toS C (aAt C k ((s+2)%4))=(s+2)%4:=q2
  unfold nx
  rw[t1,t2,show((s+2)%4+2)%4=s by omega]
  rfl
end Go.Proofs.Ytagaajlbkfkaiaa
