/- Several texts of the proof, one behind the other. -/
import Derived.Test.YtefooihnoajnlaaZ2P
import Derived.Test.YtefooihnoajnlaaCyP
import Derived.Test.YtefooihnoajnlaaZ0P
import Derived.Test.YtefooihnoajnlaaH6P
import Derived.Lib.Hide
import Derived.Deep.RegionHeld3
import Derived.Deep.Cut
/- Plain mathematics: rings and pieces where the two crossings of a face of two are passed straight. -/
namespace Go.Proofs.Ytefooihnoajnlaa
structure PullG (f g al:Nat->Nat) (M X Y XX YY A B K D:Nat):Prop where
 bf:Bij f M
 la:∀ x,x<M->al x<M
 aa:∀ x,x<M->al (al x)=x
 lt:X<M/\Y<M/\XX<M/\YY<M/\A<M/\B<M/\K<M/\D<M
 nd:[X,Y,XX,YY,A,B,K,D].Nodup
 ax:al X=XX
 ay:al Y=YY
 fx:f X=Y
 fy:f Y=X
 fxx:f XX=al B
 fyy:f YY=al K
 fa:f A=YY
 fb:f B=al A
 fk:f K=al D
 fd:f D=XX
 gx:g X=al K
 gy:g Y=al B
 gxx:g XX=al A
 gyy:g YY=al D
 ga:g A=X
 gb:g B=YY
 gk:g K=XX
 gd:g D=Y
 go:∀ x,x<M->x ∉ [X,Y,XX,YY,A,B,K,D]->g x=f x
theorem PullG.count {f g al:Nat->Nat} {M X Y XX YY A B K D:Nat} (h:PullG f g al M X Y XX YY A B K D):cyA g M+1=cyA (tr f B K) M:=by
 obtain⟨lx,ly,lxx,lyy,lA,lB,lK,lD⟩:=h.lt
 have nd:=h.nd
 simp only[List.nodup_cons,List.mem_cons,List.not_mem_nil,or_false,not_or,not_false_eq_true,and_true,List.nodup_nil]at nd
 obtain⟨⟨n1,n2,n3,n4,n5,n6,n7⟩,⟨m1,m2,m3,m4,m5,m6⟩,⟨k1,k2,k3,k4,k5⟩,⟨j1,j2,j3,j4⟩,⟨i1,i2,i3⟩,⟨o1,o2⟩,p1⟩:=nd
 have b1:=h.bf.tr lB lK
 -- D to XX, A to YY, X to Y: taken out
 have e1:tr f B K D=XX:=by rw[tr_o f (Ne.symm o2) (Ne.symm p1),h.fd]
 have c1:=cyA_del b1 lD e1 (Ne.symm k5)
 have b2:=b1.tr lD lxx
 have e2:tr (tr f B K) D XX A=YY:=by rw[tr_o _ i3 (Ne.symm k2),tr_o _ i1 i2,h.fa]
 have c2:=cyA_del b2 lA e2 (Ne.symm j1)
 have b3:=b2.tr lA lyy
 have e3:tr (tr (tr f B K) D XX) A YY X=Y:=by rw[tr_o _ n4 n3,tr_o _ n7 n2,tr_o _ n5 n6,h.fx]
 have c3:=cyA_del b3 lx e3 n1
 have b4:=b3.tr lx ly
 -- they lie alone
 have a1:tr (tr (tr (tr f B K) D XX) A YY) X Y XX=XX:=by rw[tr_o _ (Ne.symm n2) (Ne.symm m1),tr_o _ k2 k1,tr_b,e1]
 have a2:tr (tr (tr (tr f B K) D XX) A YY) X Y YY=YY:=by rw[tr_o _ (Ne.symm n3) (Ne.symm m2),tr_b,e2]
 have a3:tr (tr (tr (tr f B K) D XX) A YY) X Y X=X:=by rw[tr_a,tr_o _ m3 m2,tr_o _ m6 m1,tr_o _ m4 m5,h.fy]
 have a4:tr (tr (tr (tr f B K) D XX) A YY) X Y Y=Y:=by rw[tr_b,e3]
 -- laid behind others
 have c4:=cyA_ins b4 lK lxx a1 (Ne.symm k4)
 have b5:=b4.tr lK lxx
 have c5:=cyA_ins b5 lB lyy (by rw[tr_o _ j3 (Ne.symm k1),a2]) (Ne.symm j2)
 have b6:=b5.tr lB lyy
 have c6:=cyA_ins b6 lA lx (by rw[tr_o _ n5 n3,tr_o _ n6 n2,a3]) (Ne.symm n4)
 have b7:=b6.tr lA lx
 have c7:=cyA_ins b7 lD ly (by rw[tr_o _ m3 (Ne.symm n1),tr_o _ m4 m2,tr_o _ m5 m1,a4]) (Ne.symm m6)
 have e:cyA (tr (tr (tr (tr (tr (tr (tr (tr f B K) D XX) A YY) X Y) K XX) B YY) A X) D Y) M=cyA g M:=cyA_congr fun x hx=>by
  by_cases x1:x=X
  · rw[x1,h.gx,tr_o _ n7 n1,tr_b,tr_o _ i1 (Ne.symm j1),tr_o _ i2 (Ne.symm k2),tr_o _ (Ne.symm n4) (Ne.symm m3),tr_a,tr_o _ j4 (Ne.symm k1),tr_o _ j2 j3,h.fyy]
  by_cases x2:x=Y
  · rw[x2,h.gy,tr_b,tr_o _ (Ne.symm i3) (Ne.symm n7),tr_o _ (Ne.symm o2) (Ne.symm j4),tr_o _ (Ne.symm p1) (Ne.symm k5),tr_o _ (Ne.symm n7) (Ne.symm m6),tr_o _ (Ne.symm i3) (Ne.symm j4),tr_a,tr_o _ k3 k4,h.fxx]
  by_cases x3:x=XX
  · rw[x3,h.gxx,tr_o _ k5 (Ne.symm m1),tr_o _ k2 (Ne.symm n2),tr_o _ k3 k1,tr_b,tr_o _ (Ne.symm n6) (Ne.symm m5),tr_o _ (Ne.symm i2) (Ne.symm j3),tr_o _ p1 (Ne.symm k4),tr_b,h.fb]
  by_cases x4:x=YY
  · rw[x4,h.gyy,tr_o _ j4 (Ne.symm m2),tr_o _ j1 (Ne.symm n3),tr_b,tr_o _ o1 (Ne.symm k3),tr_o _ (Ne.symm n5) (Ne.symm m4),tr_o _ (Ne.symm i1) (Ne.symm j2),tr_o _ o2 (Ne.symm k3),tr_a,h.fk]
  by_cases x5:x=A
  · rw[x5,h.ga,tr_o _ i3 (Ne.symm m3),tr_a,tr_o _ n5 n3,tr_o _ n6 n2,a3]
  by_cases x6:x=B
  · rw[x6,h.gb,tr_o _ o2 (Ne.symm m4),tr_o _ (Ne.symm i1) (Ne.symm n5),tr_a,tr_o _ j3 (Ne.symm k1),a2]
  by_cases x7:x=K
  · rw[x7,h.gk,tr_o _ p1 (Ne.symm m5),tr_o _ (Ne.symm i2) (Ne.symm n6),tr_o _ (Ne.symm o1) (Ne.symm j3),tr_a,a1]
  by_cases x8:x=D
  · rw[x8,h.gd,tr_a,tr_o _ m3 (Ne.symm n1),tr_o _ m4 m2,tr_o _ m5 m1,a4]
  rw[tr_o _ x8 x2,tr_o _ x5 x1,tr_o _ x6 x4,tr_o _ x7 x3,tr_o _ x1 x2,tr_o _ x5 x4,tr_o _ x8 x3,tr_o _ x6 x7,h.go x hx (by simp only[List.mem_cons,List.not_mem_nil,or_false,not_or];exact⟨x1,x2,x3,x4,x5,x6,x7,x8⟩)]
 omega
theorem PullG.strands {f g al : Nat → Nat} {M X Y XX YY A B K D : Nat} (h : PullG f g al M X Y XX YY A B K D) {S : Nat → Prop} (hS : Closed (edb g al M) S) :
    ((S A↔S X)/\(S A↔S XX)/\(S A↔S K)/\(S A↔S (al A))/\(S A↔S (al K)))/\(S B↔S Y)/\(S B↔S YY)/\(S B↔S D)/\(S B↔S (al B))/\(S B↔S (al D)):=by
 obtain⟨lx,ly,lxx,lyy,lA,lB,lK,lD⟩:=h.lt
 obtain⟨s1,s2⟩:=closed_edb.1 hS
 have q1:=s1 A lA
 have q2:=s2 X lx
 have q3:=s1 K lK
 have q4:=s1 B lB
 have q5:=s2 Y ly
 have q6:=s1 D lD
 have r1:=s2 A lA
 have r2:=s2 K lK
 have r3:=s2 B lB
 have r4:=s2 D lD
 rw[h.ga]at q1
 rw[h.ax]at q2
 rw[h.gk]at q3
 rw[h.gb]at q4
 rw[h.ay]at q5
 rw[h.gd]at q6
 have t1:S A↔S K:=q1.trans (q2.trans q3.symm)
 have t2:S B↔S D:=q4.trans (q5.symm.trans q6.symm)
 exact⟨⟨q1,q1.trans q2,t1,r1,t1.trans r2⟩,q4.trans q5.symm,q4,t2,r3,t2.trans r4⟩
theorem PullG.one {f g al:Nat->Nat} {M X Y XX YY A B K D:Nat} (h:PullG f g al M X Y XX YY A B K D) (hn:¬ Con (eds f M) B K) {S:Nat->Prop} (hS:Closed (edb g al M) S) (hA:S A):S B:=by
 refine Classical.byContradiction fun hB=>?_
 obtain⟨lx,ly,lxx,lyy,lA,lB,lK,lD⟩:=h.lt
 have nd:=h.nd
 simp only[List.nodup_cons,List.mem_cons,List.not_mem_nil,or_false,not_or,not_false_eq_true,and_true,List.nodup_nil]at nd
 obtain⟨⟨n1,n2,n3,n4,n5,n6,n7⟩,⟨m1,m2,m3,m4,m5,m6⟩,⟨k1,k2,k3,k4,k5⟩,⟨j1,j2,j3,j4⟩,⟨i1,i2,i3⟩,⟨o1,o2⟩,p1⟩:=nd
 obtain⟨⟨a1,a2,a3,a4,a5⟩,b1,b2,b3,b4,b5⟩:=h.strands hS
 obtain⟨s1,s2⟩:=closed_edb.1 hS
 have alx:∀ z,z<M->al z=X->z=XX:=fun z hz e=>by rw[<-h.aa z hz,e,h.ax]
 have alxx:∀ z,z<M->al z=XX->z=X:=fun z hz e=>by rw[<-h.aa z hz,e,<-h.ax,h.aa X lx]
 obtain⟨p,h0,hp⟩:=period h.bf lB
 have key:∀ i,(S (it f (i+1) B)/\it f (i+1) B≠X/\it f (i+1) B≠XX)∨it f (i+1) B=YY:=by
  intro i
  induction i with
  |zero=>
   show(S (f B)/\f B≠X/\f B≠XX)∨_
   rw[h.fb]
   exact Or.inl ⟨a4.1 hA,fun e=>k2 (alx A lA e).symm,fun e=>n4 (alxx A lA e).symm⟩
  |succ i ih=>
   have hz:=it_lt h.bf lB (i+1)
   have hk:it f (i+1) B≠K:=fun q=>hn (q▸con_it h.bf lB (i+1))
   show(S (f (it f (i+1) B))/\f (it f (i+1) B)≠X/\f (it f (i+1) B)≠XX)∨f (it f (i+1) B)=YY
   generalize it f (i+1) B=z at ih hz hk ⊢
   by_cases z1:z=YY
   · rw[z1,h.fyy]
     exact Or.inl ⟨a5.1 hA,fun e=>k4 (alx K lK e).symm,fun e=>n6 (alxx K lK e).symm⟩
   obtain⟨hs,z2,z3⟩:=ih.resolve_right z1
   by_cases z4:z=A
   · exact Or.inr (by rw[z4,h.fa])
   have z5:z≠B:=fun e=>hB (e▸hs)
   have z6:z≠D:=fun e=>hB (b3.2 (e▸hs))
   have z7:z≠Y:=fun e=>hB (b1.2 (e▸hs))
   have e:=h.go z hz (by simp only[List.mem_cons,List.not_mem_nil,or_false,not_or];exact⟨z2,z7,z3,z1,z4,z5,hk,z6⟩)
   have s:=s1 z hz
   rw[e]at s
   exact Or.inl ⟨s.1 hs,fun q=>z7 (h.bf.inj z Y hz ly (by rw[q,h.fy])),fun q=>z6 (h.bf.inj z D hz lD (by rw[q,h.fd]))⟩
 have:=key (p-1)
 rw[show p-1+1=p by omega,hp]at this
 rcases this with q|q
 · exact hB q.1
 · exact j2 q.symm
end Go.Proofs.Ytefooihnoajnlaa
/- The walks of ref.DiagramOf, with what it owns, and of ref.ChangeOf. -/
namespace Go.Proofs.Ytefooihnoajnlaa
open Go.RowKit
set_option maxHeartbeats 8000000
set_option maxRecDepth 100000
theorem own_block'' {w:World} {B e s n:Nat} {v:Value} {xs:List Value} (h:w.ownsRow B e s v n xs) (hn:0<n):∃ g c,v=.slice (some ⟨g,0,none⟩) n c:=by
 obtain⟨g,c,h1,-⟩:=own_block h hn
 exact⟨g,c,h1⟩
theorem diagramOf_own (b off cap : Nat) (C : List Cr) (loops : Int) (w : World) (hl : C.length * 40 ≤ 140737488355328) (hlt : b < w.heap.size) (hC : CrossAt w b off C) :
    Calls Try.prog 5 #[.agg #[.slice (some ⟨b,off,none⟩) C.length cap,.int .i64 loops]] w fun e w'=>∃ v',e=.returned (.agg #[v',.int .i64 loops])/\w'.ownsRow w.heap.size 60 5 v' C.length (crossCells C)/\Below w.heap.size w w':=by
 obtain⟨i0,hi,hz0,hz1,hz2⟩:=info_parts infoCross
 have hm:C.length<=maxLen:=by unfold maxLen;omega
 obtain⟨w0,hw0⟩:∃ w0,w0=(w.alloc (.cells #[.slice (some ⟨b,off,none⟩) C.length cap,.int .i64 loops] 24)).alloc (.cells #[.slice none 0 0,.int .i64 0] 24):=⟨_,rfl⟩
 have HW0:Hid (w0=(w.alloc (.cells #[.slice (some ⟨b,off,none⟩) C.length cap,.int .i64 loops] 24)).alloc (.cells #[.slice none 0 0,.int .i64 0] 24)):=hw0
 have hs0:w0.heap.size=w.heap.size+2:=by rw[hw0];simp
 have HB0:Hid (Below w.heap.size w w0):=(by rw[hw0];exact below2 _ _ _:Below w.heap.size w w0)
 clear hw0
 have c0:w0.heap[w.heap.size]?=some (.cells #[.slice (some ⟨b,off,none⟩) C.length cap,.int .i64 loops] 24 (0,0)):=by rw[HW0.out];exact alloc_old (alloc_at rfl)
 have c1:w0.heap[w.heap.size+1]?=some (.cells #[.slice none 0 0,.int .i64 0] 24 (0,0)):=by rw[HW0.out];exact alloc_at (by simp)
 have HC0:Hid (w0.heap[w.heap.size]?=some (.cells #[.slice (some ⟨b,off,none⟩) C.length cap,.int .i64 loops] 24 (0,0))):=c0
 have HC1:Hid (w0.heap[w.heap.size+1]?=some (.cells #[.slice none 0 0,.int .i64 0] 24 (0,0))):=c1
 clear c0 c1
 have HCA:Hid (CrossAt ((w.alloc (.cells #[.slice (some ⟨b,off,none⟩) C.length cap,.int .i64 loops] 24)).alloc (.cells #[.slice none 0 0,.int .i64 0] 24)) b off C):=hC.on (below2 _ _ _) hlt
 clear hC
 go_enter Try.func5,Try.ntmps5
 go_wp2_with (at_builtin;refine wpList_append_own _ rfl _ _ 22 rfl (w.heap.size+2) 60 i0 (.agg #[.int .i64 0,.int .i64 0,.int .i64 0,.int .i64 0,.bool false]) 5 40 Try.underlying22 hi hz0 hz1 hz2 rfl (by decide) _ 0 [] rfl (World.ownsRow_nil _ _ _ _) ⟨b,off,none⟩ C.length cap (crossCells C) rfl (cells_length C) (cells_at HCA.out) (cells_one C) (by unfold maxLen;omega) (by omega) (by simp) ?_;intro v' w1 hown hgr _;refine Hid.out ?_)
 refine Lib.hid ?_
 rw[<-HW0.out]at hgr
 have HGR:Hid (w0.grownBy w1 none):=hgr
 have HOW:Hid (w1.ownsRow (w.heap.size+2) 60 5 v' (0+C.length) ([]++(crossCells C))):=hown
 obtain⟨a',c',rfl⟩:=own_capS hown
 have hs1:=hgr.size
 clear hown hgr
 have hg0:=(HGR.out.block _ (by omega) (by simp)).trans HC0.out
 have hg1:=(HGR.out.block _ (by omega) (by simp)).trans HC1.out
 have p0:w1.cell? ⟨w.heap.size,0,none⟩=some (.slice (some ⟨b,off,none⟩) C.length cap):=block_cell hg0 rfl
 have p1:w1.cell? ⟨w.heap.size,1,none⟩=some (.int .i64 loops):=block_cell hg0 rfl
 have p2:w1.cell? ⟨w.heap.size+1,0,none⟩=some (.slice none 0 0):=block_cell hg1 rfl
 have p3:w1.cell? ⟨w.heap.size+1,1,none⟩=some (.int .i64 0):=block_cell hg1 rfl
 have f0:w1.frozen? ⟨w.heap.size,0,none⟩=false:=block_frozen hg0
 have f2:w1.frozen? ⟨w.heap.size+1,0,none⟩=false:=block_frozen hg1
 have f3:w1.frozen? ⟨w.heap.size+1,1,none⟩=false:=block_frozen hg1
 have HG1:Hid (w1.heap[w.heap.size+1]?=some (.cells #[.slice none 0 0,.int .i64 0] 24 (0,0))):=hg1
 clear hg0 hg1
 go_wp2
 have hq0:=((set_grown w1 w.heap.size 0 (.slice a' C.length c')).block (w.heap.size+1) (by omega) (fun e=>by have:=Option.some.inj e;omega)).trans HG1.out
 have hq:=set_block (i:=1) (u:=.int .i64 loops) (set_block (i:=0) (u:=.slice a' C.length c') hq0)
 have x0:=block_cell (i:=0) (v:=.slice a' C.length c') hq rfl
 have x1:=block_cell (i:=1) (v:=.int .i64 loops) hq rfl
 have hk1:=HOW.out.kept (set_grown w1 w.heap.size 0 (.slice a' C.length c')) (by rcases HOW.out.2 with⟨e,_⟩|⟨g,cp,cu,e,hg,_⟩<;>injection e with e1 e2 e3<;>subst e1<;>first|exact Or.inl rfl|(refine Or.inr (fun e=>?_);have:g=w.heap.size:=Option.some.inj e;omega))
 have hk2:=hk1.kept (st2_grown (w1.setCell ⟨w.heap.size,0,none⟩ (.slice a' C.length c')) (w.heap.size+1) 0 (.slice a' C.length c') (.int .i64 loops)) (by rcases HOW.out.2 with⟨e,_⟩|⟨g,cp,cu,e,hg,_⟩<;>injection e with e1 e2 e3<;>subst e1<;>first|exact Or.inl rfl|(refine Or.inr (fun e=>?_);have:g=w.heap.size+1:=Option.some.inj e;omega))
 refine bodyPost_ret (v:=.agg #[.slice a' C.length c',.int .i64 loops]) (by simp[results,Try.results5,go_sem,x0,x1]) rfl ⟨_,rfl,?_,?_⟩
 · rw[Nat.zero_add,List.nil_append]at hk2
   exact own_low hk2 (by omega)
 · exact((HB0.out.grown HGR.out (by omega) (fun k hk=>by cases hk)).grown (set_grown w1 w.heap.size 0 (.slice a' C.length c')) (by omega) (fun k hk=>by have:=Option.some.inj hk;omega)).grown (st2_grown (w1.setCell ⟨w.heap.size,0,none⟩ (.slice a' C.length c')) (w.heap.size+1) 0 (.slice a' C.length c') (.int .i64 loops)) (by simp;omega) (fun k hk=>by have:=Option.some.inj hk;omega)
theorem changeOf_any (a : Option Addr) (cap : Nat) (C : List Cr) (loops : Int) (k : Nat) (w : World) (hl : C.length ≤ 16) (hk : k < C.length) (hD : Crs w w.heap.size (.slice a C.length cap) C) :
    Calls Try.prog 20 #[.agg #[.slice a C.length cap,.int .i64 loops],.int .i64 (k:Nat)] w fun e w'=>∃ v,e=.returned (.agg #[v,.int .i64 loops])/\w'.ownsRow w.heap.size 60 5 v C.length (crossCells (C.set k (mirX (C.getD k Cr.none))))/\Below w.heap.size w w':=by
 obtain⟨b,off,ea,hbw,hC⟩:=crs_some hD (by omega)
 subst ea
 have HC:Hid (CrossAt w b off C):=hC
 have HB0:Hid (Below w.heap.size w ((w.alloc (.cells #[.slice (some ⟨b,off,none⟩) C.length cap,.int .i64 loops] 24)).alloc (.cells #[.slice none 0 0,.int .i64 0] 24))):=below2 _ _ _
 have HT0:Hid (((w.alloc (.cells #[.slice (some ⟨b,off,none⟩) C.length cap,.int .i64 loops] 24)).alloc (.cells #[.slice none 0 0,.int .i64 0] 24)).heap[w.heap.size]?=some (.cells #[.slice (some ⟨b,off,none⟩) C.length cap,.int .i64 loops] 24 (0,0))):=alloc_old (alloc_at rfl)
 have HT1:Hid (((w.alloc (.cells #[.slice (some ⟨b,off,none⟩) C.length cap,.int .i64 loops] 24)).alloc (.cells #[.slice none 0 0,.int .i64 0] 24)).heap[w.heap.size+1]?=some (.cells #[.slice none 0 0,.int .i64 0] 24 (0,0))):=alloc_at (by simp)
 clear hC hD
 go_enter Try.func20,Try.ntmps20
 go_wp2_with (go_at_call 5;refine(diagramOf_own b off cap C loops _ (by omega) (by simp;omega) (HC.out.on HB0.out hbw)).mono ?_;rintro e9 w2 ⟨v2,rfl,hr2,hb2⟩;refine Hid.out ?_)
 refine Lib.hid ?_
 obtain⟨g2,c2,ev2⟩:=own_block'' hr2 (by omega)
 subst ev2
 have HB2:Hid (Below w.heap.size w w2):=HB0.out.trans (hb2.mono (by simp;omega))
 have hs2:w.heap.size+2<=w2.heap.size:=by have:=hb2.size;simpa using this
 have HO2:Hid (w2.ownsRow (w.heap.size+2) 60 5 (.slice (some ⟨g2,0,none⟩) C.length c2) C.length (crossCells C)):=own_low hr2 (by simp)
 have HR0:Hid (w2.heap[w.heap.size]?=some (.cells #[.slice (some ⟨b,off,none⟩) C.length cap,.int .i64 loops] 24 (0,0))):=(hb2.block _ (by simp;omega)).trans HT0.out
 have HR1:Hid (w2.heap[w.heap.size+1]?=some (.cells #[.slice none 0 0,.int .i64 0] 24 (0,0))):=(hb2.block _ (by simp)).trans HT1.out
 clear hr2 hb2
 obtain⟨X,hX0⟩:∃ X,X=w2.alloc (.cells #[.slice (some ⟨g2,0,none⟩) C.length c2,.int .i64 loops] 24):=⟨_,rfl⟩
 have HX:Hid (X=w2.alloc (.cells #[.slice (some ⟨g2,0,none⟩) C.length c2,.int .i64 loops] 24)):=hX0
 have HBX:Hid (Below w2.heap.size w2 X):=(by rw[hX0];exact(Below.refl _ _).alloc (Nat.le_refl _) _:Below w2.heap.size w2 X)
 have HTX:Hid (X.heap[w2.heap.size]?=some (.cells #[.slice (some ⟨g2,0,none⟩) C.length c2,.int .i64 loops] 24 (0,0))):=(by rw[hX0];exact alloc_at rfl:X.heap[w2.heap.size]?=some (.cells #[.slice (some ⟨g2,0,none⟩) C.length c2,.int .i64 loops] 24 (0,0)))
 have hsX:w2.heap.size<X.heap.size:=by rw[hX0];simp
 clear hX0
 have HWX:Hid (Below w.heap.size w X):=HB2.out.trans (HBX.out.mono HB2.out.size)
 obtain⟨x,hx⟩:∃ x,C.getD k Cr.none=x:=⟨_,rfl⟩
 have HXE:Hid (C.getD k Cr.none=x):=hx
 obtain⟨m0,m1,m2,m3,m4⟩:=(HC.out.on HWX.out hbw) k hk
 rw[hx]at m0 m1 m2 m3 m4
 clear hx
 obtain⟨xa,xb,xc,xd,xp⟩:=x
 have y0:X.cell? ⟨w.heap.size,0,none⟩=some (.slice (some ⟨b,off,none⟩) C.length cap):=block_cell ((HBX.out.block _ (by omega)).trans HR0.out) rfl
 have ly:w.heap.size<X.heap.size:=by omega
 have lb:b<X.heap.size:=by omega
 have ik0:(0:Int)<=(k:Int):=by omega
 have ik1:(k:Int)<(C.length:Int):=by omega
 have HBZ:Hid (Below X.heap.size X (X.alloc (.cells #[.int .i64 xa,.int .i64 xb,.int .i64 xc,.int .i64 xd,.bool xp] 60))):=(Below.refl _ _).alloc (Nat.le_refl _) _
 have HCZ : Hid (Crs (X.alloc (.cells #[.int .i64 xa, .int .i64 xb, .int .i64 xc, .int .i64 xd, .bool xp] 60)) (X.alloc (.cells #[.int .i64 xa, .int .i64 xb, .int .i64 xc, .int .i64 xd, .bool xp] 60)).heap.size (.slice (some ⟨X.heap.size, 0, none⟩) 1 1) [⟨xa, xb, xc, xd, xp⟩]) := ⟨some ⟨X.heap.size, 0, none⟩, 1, rfl, by unfold maxLen; simp, fun _ => ⟨X.heap.size, 0, rfl, by simp, fun i hi => by
  obtain rfl:i=0:=by simpa using hi
  have h:=alloc_at (w:=X) (o:=.cells #[.int .i64 xa,.int .i64 xb,.int .i64 xc,.int .i64 xd,.bool xp] 60) rfl
  exact⟨block_cell h rfl,block_cell h rfl,block_cell h rfl,block_cell h rfl,block_cell h rfl⟩⟩⟩
 go_upto_region 2 with(fail)
 rw[<-HX.out]
 go_wp2_with (go_at_call 36;refine(mirrorOf_any (some ⟨X.heap.size,0,none⟩) 1 [⟨xa,xb,xc,xd,xp⟩] 0 _ (by simp) HCZ.out).mono ?_;rintro e9 w3 ⟨v3,rfl,hr3,hb3⟩;refine Hid.out ?_)
 refine Lib.hid ?_
 obtain⟨g3,c3,ev3⟩:=own_block'' hr3 (by simp)
 subst ev3
 have HB3:Hid (Below X.heap.size X w3):=HBZ.out.trans (hb3.mono (by simp))
 have hs3:=HB3.out.size
 have HO3:Hid (w3.ownsRow X.heap.size 60 5 (.slice (some ⟨g3,0,none⟩) 1 c3) 1 (crossCells [mirX ⟨xa,xb,xc,xd,xp⟩])):=own_low hr3 (by simp)
 have hg3:=HO3.out.lt g3 rfl
 clear hr3 hb3 m0 m1 m2 m3 m4 y0
 obtain⟨y,hy⟩:∃ y,mirX ⟨xa,xb,xc,xd,xp⟩=y:=⟨_,rfl⟩
 have HYE:Hid (mirX ⟨xa,xb,xc,xd,xp⟩=y):=hy
 rw[hy]at HO3
 clear hy
 obtain⟨ya,yb,yc,yd,yp⟩:=y
 obtain⟨V,hV0⟩:∃ V,V=w3.alloc (.cells #[.slice (some ⟨g3,0,none⟩) 1 c3,.int .i64 0] 24):=⟨_,rfl⟩
 have HV:Hid (V=w3.alloc (.cells #[.slice (some ⟨g3,0,none⟩) 1 c3,.int .i64 0] 24)):=hV0
 have HBV:Hid (Below w3.heap.size w3 V):=(by rw[hV0];exact(Below.refl _ _).alloc (Nat.le_refl _) _:Below w3.heap.size w3 V)
 have HTV:Hid (V.heap[w3.heap.size]?=some (.cells #[.slice (some ⟨g3,0,none⟩) 1 c3,.int .i64 0] 24 (0,0))):=(by rw[hV0];exact alloc_at rfl:V.heap[w3.heap.size]?=some (.cells #[.slice (some ⟨g3,0,none⟩) 1 c3,.int .i64 0] 24 (0,0)))
 have hsV:w3.heap.size<V.heap.size:=by rw[hV0];simp
 clear hV0
 have HXV:Hid (Below X.heap.size X V):=HB3.out.trans (HBV.out.mono hs3)
 have HWV:Hid (Below w.heap.size w V):=HWX.out.trans (HXV.out.mono HWX.out.size)
 have HRV:Hid (V.ownsRow (w.heap.size+2) 60 5 (.slice (some ⟨g2,0,none⟩) C.length c2) C.length (crossCells C)):=own_any HO2.out (grown_below (HBX.out.trans (HXV.out.mono (by omega))) none)
 have HMV:Hid (V.ownsRow X.heap.size 60 5 (.slice (some ⟨g3,0,none⟩) 1 c3) 1 (crossCells [⟨ya,yb,yc,yd,yp⟩])):=own_any HO3.out (grown_below HBV.out none)
 have HSV:Hid (V.heap[w.heap.size+1]?=some (.cells #[.slice none 0 0,.int .i64 0] 24 (0,0))):=(HXV.out.block _ (by omega)).trans ((HBX.out.block _ (by omega)).trans HR1.out)
 have HDV:Hid (V.heap[w2.heap.size]?=some (.cells #[.slice (some ⟨g2,0,none⟩) C.length c2,.int .i64 loops] 24 (0,0))):=(HXV.out.block _ (by omega)).trans HTX.out
 have hg2:=HRV.out.lt g2 rfl
 have HG2W:Hid (g2<w2.heap.size):=(HO2.out.lt g2 rfl).2
 have p0:V.cell? ⟨w2.heap.size,0,none⟩=some (.slice (some ⟨g2,0,none⟩) C.length c2):=block_cell HDV.out rfl
 have p1:V.cell? ⟨w3.heap.size,0,none⟩=some (.slice (some ⟨g3,0,none⟩) 1 c3):=block_cell HTV.out rfl
 have n3:∀ q,q<1*5->V.cell? ⟨g3,q,none⟩=(crossCells [(⟨ya,yb,yc,yd,yp⟩:Cr)])[q]?:=fun q hq=>HMV.out.cellAt q hq
 have t0:V.cell? ⟨g3,0,none⟩=some (.int .i64 ya):=n3 0 (by omega)
 have t1:V.cell? ⟨g3,1,none⟩=some (.int .i64 yb):=n3 1 (by omega)
 have t2:V.cell? ⟨g3,2,none⟩=some (.int .i64 yc):=n3 2 (by omega)
 have t3:V.cell? ⟨g3,3,none⟩=some (.int .i64 yd):=n3 3 (by omega)
 have t4:V.cell? ⟨g3,4,none⟩=some (.bool yp):=n3 4 (by omega)
 have n0:∀ q,q<C.length*5->V.cell? ⟨g2,q,none⟩=(crossCells C)[q]?:=fun q hq=>HRV.out.cellAt q hq
 obtain⟨e0,e1,e2,e3,e4⟩:=cells_get C k hk
 have o0:=(n0 (k*5) (by omega)).trans e0
 have o1:=(n0 (k*5+1) (by omega)).trans e1
 have o2:=(n0 (k*5+2) (by omega)).trans e2
 have o3:=(n0 (k*5+3) (by omega)).trans e3
 have o4:=(n0 (k*5+4) (by omega)).trans e4
 have z0:V.frozen? ⟨g2,k*5,none⟩=false:=HRV.out.frozenAt _
 have z1:V.frozen? ⟨g2,k*5+1,none⟩=false:=HRV.out.frozenAt _
 have z2:V.frozen? ⟨g2,k*5+2,none⟩=false:=HRV.out.frozenAt _
 have z3:V.frozen? ⟨g2,k*5+3,none⟩=false:=HRV.out.frozenAt _
 have z4:V.frozen? ⟨g2,k*5+4,none⟩=false:=HRV.out.frozenAt _
 have lg2:g2<V.heap.size:=hg2.2
 have lg3:g3<V.heap.size:=by omega
 have lw2:w2.heap.size<V.heap.size:=by omega
 generalize C.getD k Cr.none=cx at o0 o1 o2 o3 o4
 clear n0 n3 e0 e1 e2 e3 e4
 go_upto_region 3 with(fail)
 rw[<-HV.out]
 go_big_region
 have h5:=put5R HRV.out hk ⟨ya,yb,yc,yd,yp⟩
 generalize ((((V.setCell ⟨g2,k*5,none⟩ (.int .i64 ya)).setCell ⟨g2,k*5+1,none⟩ (.int .i64 yb)).setCell ⟨g2,k*5+2,none⟩ (.int .i64 yc)).setCell ⟨g2,k*5+3,none⟩ (.int .i64 yd)).setCell ⟨g2,k*5+4,none⟩ (.bool yp)=Z at h5 ⊢
 have HDZ:Hid (Below Z.heap.size Z Z.drew):=(Below.refl _ _).drew
 have HZR:Hid (Z.drew.ownsRow (w.heap.size+2) 60 5 (.slice (some ⟨g2,0,none⟩) C.length c2) C.length (crossCells (C.set k ⟨ya,yb,yc,yd,yp⟩))):=own_any h5.1 (grown_below HDZ.out none)
 have hsZ:=h5.2.size
 have HZS:Hid (Z.drew.heap[w.heap.size+1]?=some (.cells #[.slice none 0 0,.int .i64 0] 24 (0,0))):=((h5.2.block _ (by omega) (fun e=>by have:=Option.some.inj e;omega)).trans HSV.out:Z.heap[w.heap.size+1]?=some (.cells #[.slice none 0 0,.int .i64 0] 24 (0,0)))
 have HZD:Hid (Z.drew.heap[w2.heap.size]?=some (.cells #[.slice (some ⟨g2,0,none⟩) C.length c2,.int .i64 loops] 24 (0,0))):=((h5.2.block _ (by omega) (fun e=>by have:=Option.some.inj e;have:=HG2W.out;omega)).trans HDV.out:Z.heap[w2.heap.size]?=some (.cells #[.slice (some ⟨g2,0,none⟩) C.length c2,.int .i64 loops] 24 (0,0)))
 have HZB:Hid (Below w.heap.size w Z.drew):=(HWV.out.grown h5.2 HWV.out.size (fun q hq=>by have:=Option.some.inj hq;omega)).drew
 clear h5 o0 o1 o2 o3 o4 z0 z1 z2 z3 z4 t0 t1 t2 t3 t4 p0 p1
 obtain⟨Y,hY⟩:∃ Y,Y=Z.drew:=⟨_,rfl⟩
 have hsY:Y.heap.size=Z.heap.size:=by rw[hY];rfl
 have q2:w.heap.size+1<Y.heap.size:=by rw[hsY];omega
 have q1:w2.heap.size<Y.heap.size:=by rw[hsY];omega
 rw[<-hY]at HZR HZS HZD HZB ⊢
 clear hY hsY
 have d0:Y.cell? ⟨w2.heap.size,0,none⟩=some (.slice (some ⟨g2,0,none⟩) C.length c2):=block_cell HZD.out rfl
 have d1:Y.cell? ⟨w2.heap.size,1,none⟩=some (.int .i64 loops):=block_cell HZD.out rfl
 have r0:Y.cell? ⟨w.heap.size+1,0,none⟩=some (.slice none 0 0):=block_cell HZS.out rfl
 have r1:Y.cell? ⟨w.heap.size+1,1,none⟩=some (.int .i64 0):=block_cell HZS.out rfl
 have f0:Y.frozen? ⟨w.heap.size+1,0,none⟩=false:=block_frozen HZS.out
 have f1:Y.frozen? ⟨w.heap.size+1,1,none⟩=false:=block_frozen HZS.out
 go_wp2
 have hX:=set_block (i:=1) (u:=.int .i64 loops) (set_block (i:=0) (u:=.slice (some ⟨g2,0,none⟩) C.length c2) HZS.out)
 have x0:=block_cell (i:=0) (v:=.slice (some ⟨g2,0,none⟩) C.length c2) hX rfl
 have x1:=block_cell (i:=1) (v:=.int .i64 loops) hX rfl
 have hgg:=st2_grown Y (w.heap.size+1) 0 (.slice (some ⟨g2,0,none⟩) C.length c2) (.int .i64 loops)
 refine bodyPost_ret (v:=.agg #[.slice (some ⟨g2,0,none⟩) C.length c2,.int .i64 loops]) (by simp[results,Try.results20,go_sem,x0,x1]) rfl ⟨_,rfl,?_,HZB.out.grown hgg HZB.out.size (fun q hq=>by have:=Option.some.inj hq;omega)⟩
 rw[HXE.out,HYE.out]
 exact own_low (HZR.out.kept hgg (Or.inr (fun e=>by have:g2=w.heap.size+1:=Option.some.inj e;omega))) (by omega)
end Go.Proofs.Ytefooihnoajnlaa
