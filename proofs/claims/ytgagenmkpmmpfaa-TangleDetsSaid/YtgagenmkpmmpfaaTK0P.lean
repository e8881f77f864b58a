/- Several texts of the proof, one behind the other. -/
import Derived.Test.YtgagenmkpmmpfaaAS0P
import Derived.Test.YtgagenmkpmmpfaaF2P
import Derived.Test.YtgagenmkpmmpfaaQ0P
import Derived.Test.YtgagenmkpmmpfaaF1P
/- Plain mathematics: rings and pieces where a crossing, or two, are passed straight. -/
namespace Go.Proofs.Ytgagenmkpmmpfaa
def cyA (f:Nat->Nat) (M:Nat):Nat:=cyN f M fun _=>true
theorem cyA_join {f:Nat->Nat} {M:Nat} (h:Bij f M) {a b:Nat} (ha:a<M) (hb:b<M) (hn:¬ Con (eds f M) a b):cyA (tr f a b) M+1=cyA f M:=by
 have:=cyN_join h (fun _=>true) ha hb hn (fun _ _ _ _=>rfl) rfl
 rw[if_pos rfl]at this
 exact this
theorem cyA_part {f:Nat->Nat} {M:Nat} (h:Bij f M) {a b:Nat} (ha:a<M) (hb:b<M) (hne:a≠b) (hc:Con (eds f M) a b):cyA f M+1=cyA (tr f a b) M:=by
 have:=cyN_part h (fun _=>true) ha hb hne hc (fun _ _ _ _=>rfl)
 rw[if_pos rfl]at this
 exact this
theorem cyA_congr {f g:Nat->Nat} {M:Nat} (e:∀ x,x<M->f x=g x):cyA f M=cyA g M:=cyN_congr e _
theorem cyA_del {f:Nat->Nat} {M:Nat} (h:Bij f M) {w z:Nat} (hw:w<M) (e:f w=z) (hne:w≠z):cyA f M+1=cyA (tr f w z) M:=
 cyA_part h hw (e▸h.lt w hw) hne (e▸con_f hw)
theorem cyA_ins {f:Nat->Nat} {M:Nat} (h:Bij f M) {w z:Nat} (hw:w<M) (hz:z<M) (e:f z=z) (hne:w≠z):cyA (tr f w z) M+1=cyA f M:=by
 refine cyA_join h hw hz fun hc=>hne ?_
 have hS:Closed (eds f M) fun y=>y=z:=closed_eds.2 fun i hi=>by
  constructor
  · intro q;rw[q];exact e
  · intro q;exact h.inj i z hi hz (by rw[q,e])
 exact hc.symm _ hS rfl
def kN (E:List (Nat×Nat)) (M:Nat):Nat:=rq (levR (List.range M) E M) (fun _=>true) M
def edb (f a:Nat->Nat) (M:Nat):List (Nat×Nat):=eds f M++eds a M
theorem closed_edb {f a:Nat->Nat} {M:Nat} {S:Nat->Prop}:Closed (edb f a M) S↔(∀ i,i<M->(S i↔S (f i)))/\∀ i,i<M->(S i↔S (a i)):=by
 constructor
 · intro h
   exact⟨closed_eds.1 fun e he=>h e (List.mem_append_left _ he),closed_eds.1 fun e he=>h e (List.mem_append_right _ he)⟩
 · rintro⟨h1,h2⟩ e he
   rcases List.mem_append.1 he with he|he
   · exact closed_eds.2 h1 e he
   · exact closed_eds.2 h2 e he
structure CurlG (f g al:Nat->Nat) (M P Q U V:Nat):Prop where
 bf:Bij f M
 la:∀ x,x<M->al x<M
 lp:P<M
 lq:Q<M
 lu:U<M
 lv:V<M
 pq:P≠Q
 pu:P≠U
 pv:P≠V
 qu:Q≠U
 qv:Q≠V
 uv:U≠V
 aq:al P=Q
 fp:f P=P
 fq:f Q=al V
 fu:f U=Q
 fv:f V=al U
 gp:g P=al V
 gq:g Q=al U
 gu:g U=P
 gv:g V=Q
 go:∀ x,x<M->x≠P->x≠Q->x≠U->x≠V->g x=f x
theorem CurlG.count {f g al:Nat->Nat} {M P Q U V:Nat} (h:CurlG f g al M P Q U V):cyA g M+1=cyA f M:=by
 have b1:=h.bf.tr h.lu h.lq
 have c1:=cyA_del h.bf h.lu h.fu (Ne.symm h.qu)
 have e1:tr f U Q P=P:=by rw[tr_o f h.pu h.pq,h.fp]
 have c2:=cyA_ins b1 h.lu h.lp e1 (Ne.symm h.pu)
 have b2:=b1.tr h.lu h.lp
 have e2:tr (tr f U Q) U P Q=Q:=by rw[tr_o _ h.qu (Ne.symm h.pq),tr_b,h.fu]
 have c3:=cyA_ins b2 h.lv h.lq e2 (Ne.symm h.qv)
 have e:cyA (tr (tr (tr f U Q) U P) V Q) M=cyA g M:=cyA_congr fun x hx=>by
  by_cases x1:x=P
  · rw[x1,tr_o _ h.pv h.pq,tr_b,tr_a,h.fq,h.gp]
  · by_cases x2:x=Q
    · rw[x2,tr_b,tr_o _ (Ne.symm h.uv) (Ne.symm h.pv),tr_o _ (Ne.symm h.uv) (Ne.symm h.qv),h.fv,h.gq]
    · by_cases x3:x=U
      · rw[x3,tr_o _ h.uv (Ne.symm h.qu),tr_a,e1,h.gu]
      · by_cases x4:x=V
        · rw[x4,tr_a,e2,h.gv]
        · rw[tr_o _ x4 x2,tr_o _ x3 x1,tr_o _ x3 x2,h.go x hx x1 x2 x3 x4]
 omega
theorem CurlG.con {f g al:Nat->Nat} {M P Q U V:Nat} (h:CurlG f g al M P Q U V) (x y:Nat) (hc:Con (edb f al M) x y):Con (edb g al M) x y:=fun S hS=>by
 obtain⟨s1,s2⟩:=closed_edb.1 hS
 refine hc S (closed_edb.2 ⟨fun i hi=>?_,s2⟩)
 have a1:=s1 U h.lu
 have a2:=s2 P h.lp
 have a3:=s1 V h.lv
 have a4:=s2 U h.lu
 have a5:=s2 V h.lv
 rw[h.gu]at a1
 rw[h.aq]at a2
 rw[h.gv]at a3
 by_cases x1:i=P
 · rw[x1,h.fp]
 · by_cases x2:i=Q
   · rw[x2,h.fq,<-a5,<-a3]
   · by_cases x3:i=U
     · rw[x3,h.fu,a1,a2]
     · by_cases x4:i=V
       · rw[x4,h.fv,<-a4,a1,a2,a3]
       · rw[<-h.go i hi x1 x2 x3 x4];exact s1 i hi
end Go.Proofs.Ytgagenmkpmmpfaa
/- The walks of ref.ExpandOf, tangle.Expand and the law TangleExpands. -/
namespace Go.Proofs.Ytgagenmkpmmpfaa
open Go.RowKit
set_option maxHeartbeats 4000000
set_option maxRecDepth 100000
theorem expand_no (p q : Int) (w : World) (h : lowB p q = false) :
    Calls Try.prog 10 #[.int .i64 p,.int .i64 q] w fun e w'=>e=.returned (.tuple #[.slice none 0 0,.int .i64 3])/\Below w.heap.size w w':=by
 have HP:Hid (∀ W,Calls Try.prog 22 #[.int .i64 p,.int .i64 q] W fun e w'=>e=.returned (.bool false)/\Below W.heap.size W w'):=fun W=>by rw[<-h];exact proper_any p q W
 clear h
 go_enter Try.func10,Try.ntmps10
 go_wp2_with (go_at_call 22;refine(HP.out _).mono ?_;rintro e9 w2 ⟨rfl,hb2⟩;refine Hid.out ?_)
 refine Lib.hid ?_
 have HB2:Hid (Below w.heap.size w w2):=hb2
 clear hb2
 go_wp2
 go_ret2
 exact⟨rfl,HB2.out⟩
theorem expand_yes (p q : Int) (w : World) (h : lowB p q = true) :
    Calls Try.prog 10 #[.int .i64 p,.int .i64 q] w fun e w'=>∃ a c,e=.returned (.tuple #[.slice a (fixL (exLt p.toNat q.toNat)).reverse.length c,.int .i64 0])/\w'.ownsRow w.heap.size 3 1 (.slice a (fixL (exLt p.toNat q.toNat)).reverse.length c) (fixL (exLt p.toNat q.toNat)).reverse.length (intsV (fixL (exLt p.toNat q.toNat)).reverse)/\Below w.heap.size w w':=by
 have HP:Hid (∀ W,Calls Try.prog 22 #[.int .i64 p,.int .i64 q] W fun e w'=>e=.returned (.bool true)/\Below W.heap.size W w'):=fun W=>by rw[<-h];exact proper_any p q W
 obtain⟨a1,a2,a3,a4,-⟩:=lowB_yes h
 obtain⟨m,rfl⟩:∃ m:Nat,p=(m:Int):=⟨p.toNat,by omega⟩
 obtain⟨n,rfl⟩:∃ n:Nat,q=(n:Int):=⟨q.toNat,by omega⟩
 rw[Int.toNat_natCast,Int.toNat_natCast]
 have HE:Hid (∀ W,Calls Try.prog 23 #[.int .i64 (m:Nat),.int .i64 (n:Nat)] W fun e w'=>∃ v,e=.returned v/\w'.ownsRow W.heap.size 3 1 v (fixL (exLt m n)).reverse.length (intsV (fixL (exLt m n)).reverse)/\Below W.heap.size W w'):=fun W=>expanded_any m n W (by omega) (by omega) (by omega)
 generalize (fixL (exLt m n)).reverse=F at HE
 clear h
 go_enter Try.func10,Try.ntmps10
 go_wp2_with (go_at_call 22;refine(HP.out _).mono ?_;rintro e9 w2 ⟨rfl,hb2⟩;refine Hid.out ?_)
 refine Lib.hid ?_
 have HB2:Hid (Below w.heap.size w w2):=hb2
 clear hb2
 go_wp2_with (go_at_call 23;refine(HE.out _).mono ?_;rintro e9 w3 ⟨v3,rfl,hr3,hb3⟩;refine Hid.out ?_)
 refine Lib.hid ?_
 obtain⟨a3',c3',rfl⟩:=own_capS hr3
 have HFN:Hid (w3.ownsRow w.heap.size 3 1 (.slice a3' F.length c3') F.length (intsV F)/\Below w.heap.size w w3):=⟨own_low hr3 HB2.out.size,HB2.out.trans (hb3.mono HB2.out.size)⟩
 clear hb3 hr3
 go_wp2
 go_ret2
 exact⟨_,_,rfl,HFN.out⟩
end Go.Proofs.Ytgagenmkpmmpfaa
/- What Expand makes of a fraction has the fraction; plain mathematics. -/
namespace Go.Proofs.Ytgagenmkpmmpfaa
def cfT:List Int->Int×Int
 |[]=>(1,0)
 |x::L=>(x*(cfT L).1+(cfT L).2,(cfT L).1)
theorem cfT_app (x:Int):∀ L:List Int,cfT (L++[x-1,1])=cfT (L++[x])
 |[]=>by
  show((x-1)*(1*1+0)+1,(1*1+0:Int))=(x*1+0,1)
  rw[Prod.mk.injEq];omega
 |y::L=>by
  show(y*(cfT (L++[x-1,1])).1+(cfT (L++[x-1,1])).2,(cfT (L++[x-1,1])).1)=_
  rw[cfT_app x L]
  rfl
theorem frTo_cf:∀ (L M:List Int) (k:Nat),(∀ i,i<L.length->M.getD i 0=L.getD (L.length-1-i) 0)->k<=L.length->frTo M k=cfT (L.drop (L.length-k))
 |L,M,0,_,_=>by rw[Nat.sub_zero,List.drop_length];rfl
 |L,M,k+1,h,hk=>by
  have ih:=frTo_cf L M k h (by omega)
  have e:L.drop (L.length-(k+1))=L.getD (L.length-1-k) 0::L.drop (L.length-k):=by
   rw[List.drop_eq_getElem_cons (show L.length-(k+1)<L.length by omega),show L.length-(k+1)+1=L.length-k by omega]
   congr 1
   rw[List.getD_eq_getElem?_getD,List.getElem?_eq_getElem (show L.length-1-k<L.length by omega)]
   simp only[Option.getD_some,show L.length-(k+1)=L.length-1-k by omega]
  rw[e]
  show(M.getD k 0*(frTo M k).1+(frTo M k).2,(frTo M k).1)=(_*_+_,_)
  rw[ih,h k (by omega)]
theorem frTo_rev (L:List Int):frTo L.reverse L.length=cfT L:=by
 have := frTo_cf L L.reverse L.length (fun i hi => by
  rw[List.getD_eq_getElem?_getD,List.getD_eq_getElem?_getD,List.getElem?_reverse hi]) (Nat.le_refl _)
 rw[this,Nat.sub_self]
 rfl
theorem exF_cf:∀ (f a b:Nat),b<f->Nat.gcd a b=1->cfT (exF f a b)=((a:Int),(b:Int))
 |0,_,_,h,_=>by omega
 |f+1,a,b,h,hg=>by
  unfold exF
  by_cases hb:b=0
  · rw[if_pos hb]
    rw[hb,Nat.gcd_zero_right]at hg
    rw[hb,hg]
    rfl
  · rw[if_neg hb]
    have hl:=Nat.mod_lt a (Nat.pos_of_ne_zero hb)
    have ih:=exF_cf f b (a%b) (by omega) (by rw[Nat.gcd_comm,<-Nat.gcd_rec,Nat.gcd_comm];exact hg)
    show(((a / b:Nat):Int)*(cfT (exF f b (a%b))).1+(cfT (exF f b (a%b))).2,(cfT (exF f b (a%b))).1)=_
    rw[ih]
    have:=Nat.div_add_mod a b
    rw[Prod.mk.injEq]
    refine⟨?_,rfl⟩
    show((a / b:Nat):Int)*(b:Int)+((a%b:Nat):Int)=(a:Int)
    rw[<-Int.natCast_mul,<-Int.natCast_add,Nat.mul_comm]
    omega
theorem exF_one:∀ (f a b:Nat),b<=a->∀ x∈exF f a b,1<=x
 |0,_,_,_,x,hx=>by simp[exF]at hx
 |f+1,a,b,h,x,hx=>by
  unfold exF at hx
  by_cases hb:b=0
  · rw[if_pos hb]at hx;simp at hx
  · rw[if_neg hb]at hx
    have hp:=Nat.pos_of_ne_zero hb
    rcases List.mem_cons.1 hx with rfl|hx
    · have:=Nat.div_pos h hp
      omega
    · exact exF_one f b (a%b) (Nat.le_of_lt (Nat.mod_lt a hp)) x hx
theorem exF_last:∀ (f a b:Nat),b<f->b<a->0<b->∃ L x,exF f a b=L++[x]/\2<=x
 |0,_,_,h,_,_=>by omega
 |f+1,a,b,h,hab,hp=>by
  unfold exF
  rw[if_neg (by omega)]
  have hl:=Nat.mod_lt a hp
  rcases Nat.eq_zero_or_pos (a%b) with q|q
  · have e : exF f b (a % b) = [] := by
      rw[q]
      cases f with
      |zero=>rfl
      |succ f=>unfold exF;rw[if_pos rfl]
    rw[e]
    refine⟨[],_,rfl,?_⟩
    have hd:=Nat.div_add_mod a b
    rw[q,Nat.add_zero]at hd
    generalize a / b=z at hd ⊢
    have z0:z≠0:=fun r=>by rw[r]at hd;omega
    have z1:z≠1:=fun r=>by rw[r]at hd;omega
    omega
  · obtain⟨L,x,e,hx⟩:=exF_last f b (a%b) (by omega) hl q
    exact⟨((a / b:Nat):Int)::L,x,by rw[e];rfl,hx⟩
theorem expand_is {p q:Nat} (h:lowB p q=true):(∀ x∈fixL (exLt p q),1<=x)/\(fixL (exLt p q)).length%2=1/\cfT (fixL (exLt p q))=((p:Int),(q:Int)):=by
 have hc:(p=1/\q=1)∨(0<q/\q<p/\Nat.gcd p q=1):=by
  unfold lowB at h
  have:=of_decide_eq_true h
  simp only[Int.toNat_natCast]at this
  omega
 rcases hc with⟨rfl,rfl⟩|⟨h1,h2,h3⟩
 · decide
 · have e1:=exF_cf (q+1) p q (by omega) h3
   have e2:=exF_one (q+1) p q (by omega)
   obtain⟨L,x,e3,hx⟩:=exF_last (q+1) p q (by omega) h2 h1
   unfold fixL exLt
   rw[e3]at e1 e2 ⊢
   by_cases hl:(L++[x]).length%2=0
   · rw[if_pos hl]
     have e4:(L++[x]).set ((L++[x]).length-1) ((L++[x]).getD ((L++[x]).length-1) 0-1)++[1]=L++[x-1,1]:=by
      rw[show(L++[x]).length-1=L.length by simp]
      simp[List.getD_eq_getElem?_getD]
     rw[e4,cfT_app]
     refine⟨fun y hy=>?_,by simp at hl ⊢;omega,e1⟩
     rcases List.mem_append.1 hy with r|r
     · exact e2 y (List.mem_append_left _ r)
     · rcases List.mem_cons.1 r with rfl|r
       · omega
       · rw[List.mem_singleton.1 r];decide
   · rw[if_neg hl]
     exact⟨e2,by omega,e1⟩
end Go.Proofs.Ytgagenmkpmmpfaa
/- The walk of knotworkkeep.value. -/
namespace Go.Proofs.Ytgagenmkpmmpfaa
open Go.RowKit
set_option maxHeartbeats 4000000
set_option maxRecDepth 100000
theorem frTo_up (M:List Int) (h:∀ j,j<M.length->1<=M.getD j 0):∀ k,k<=M.length->1<=(frTo M k).1/\0<=(frTo M k).2/\∀ j,j<=k->(frTo M j).1<=(frTo M k).1/\(frTo M j).2<=(frTo M k).1
 |0,_=>⟨by show(1:Int)<=1;decide,by show(0:Int)<=0;decide,fun j hj=>by rw[show j=0 by omega];exact⟨Int.le_refl _,by show(0:Int)<=1;decide⟩⟩
 |k+1,hk=>by
  obtain⟨h1,h2,h3⟩:=frTo_up M h k (by omega)
  have hx:=h k (by omega)
  have e1:(frTo M (k+1)).1=M.getD k 0*(frTo M k).1+(frTo M k).2:=rfl
  have e2:(frTo M (k+1)).2=(frTo M k).1:=rfl
  have hm:(frTo M k).1<=M.getD k 0*(frTo M k).1:=by
   have:=Int.mul_le_mul_of_nonneg_right hx (show(0:Int)<=(frTo M k).1 by omega)
   omega
  refine⟨by omega,by omega,fun j hj=>?_⟩
  rcases Nat.lt_or_ge j (k+1) with q|q
  · have:=h3 j (by omega)
    omega
  · rw[show j=k+1 by omega]
    omega
theorem value_yes (a : Option Addr) (cap : Nat) (l : List Int) (p q : Int) (w : World) (hl : l.length ≤ 140737488355328) (h0 : 0 < l.length) (h1 : ∀ j, j < l.length → 1 ≤ l.getD j 0 ∧ l.getD j 0 ≤ 1000) (hf : frTo l l.length = (p, q)) (hp : p ≤ 1000) (h : RdAt w w.heap.size 1 (.slice a l.length cap) l.length (intsV l)) :
    Calls Try.prog 11 #[.slice a l.length cap,.int .i64 p,.int .i64 q] w fun e w'=>e=.returned (.bool true)/\Below w.heap.size w w':=by
 have HR:Hid (RdAt w w.heap.size 1 (.slice a l.length cap) l.length (intsV l)):=h
 have HB:Hid (Below w.heap.size w w):=Below.refl _ _
 have HUP:Hid (∀ j,j<=l.length->0<=(frTo l j).1/\(frTo l j).1<=1000/\0<=(frTo l j).2/\(frTo l j).2<=1000):=fun j hj=>by
  obtain⟨u1,u2,-⟩:=frTo_up l (fun j hj=>(h1 j hj).1) j hj
  obtain⟨-,-,u3⟩:=frTo_up l (fun j hj=>(h1 j hj).1) l.length (Nat.le_refl _)
  have:=u3 j hj
  rw[hf]at this
  have t:(frTo l j).1<=p/\(frTo l j).2<=p:=this
  omega
 obtain⟨n,hN⟩:∃ n,l.length=n:=⟨_,rfl⟩
 have HN:Hid (l.length=n):=hN
 have HF:Hid (frTo l n=(p,q)):=(by rw[<-hN];exact hf:frTo l n=(p,q))
 obtain⟨b0,off0,ea0,hbw0,hc0⟩:=HR.out.intAt 0 h0
 subst ea0
 rw[Nat.add_zero]at hc0
 have HX:Hid (frTo l 1=(l.getD 0 0,1)):=(by show(l.getD 0 0*1+0,(1:Int))=_;rw[Int.mul_one,Int.add_zero]:frTo l 1=(l.getD 0 0,1))
 rw[hN]at hl h0 ⊢
 have n0:(0:Int)<(n:Int):=by omega
 clear h hN h1 hf hp
 go_enter Try.func11,Try.ntmps11
 go_wp2
 go_loopw [7,8,9] (fun v7 v8 v9 wr=>∃ i:Nat,1<=i/\i<=n/\v9=.int .i64 (i:Nat)/\v7=.int .i64 (frTo l i).1/\v8=.int .i64 (frTo l i).2/\Hid (Below w.heap.size w wr)) (fun _ _ v9 _=>n-(intOf v9).toNat)
 case atStart=>exact⟨1,Nat.le_refl _,h0,rfl,by rw[HX.out];simp,by rw[HX.out],HB.out⟩
 case round=>
  clear HB hc0
  rename World=>W1
  obtain⟨i,hi1,hin,rfl,rfl,rfl,hb⟩:=hrel
  obtain⟨b1,b2,b3,b4⟩:=HUP.out i (by rw[HN.out];exact hin)
  by_cases hil:i<n
  · obtain⟨b,off,ea,hbw,hc⟩:=HR.out.intAt i (by rw[HN.out];exact hil)
    have e0:=bcell hb.out hbw hc
    have hsW:=hb.out.size
    have hbW:b<W1.heap.size:=by omega
    obtain⟨c1,c2,c3,c4⟩:=HUP.out (i+1) (by rw[HN.out];exact hil)
    have HE1:Hid ((frTo l (i+1)).1=l.getD i 0*(frTo l i).1+(frTo l i).2):=(rfl:(frTo l (i+1)).1=l.getD i 0*(frTo l i).1+(frTo l i).2)
    have HE2:Hid ((frTo l (i+1)).2=(frTo l i).1):=(rfl:(frTo l (i+1)).2=(frTo l i).1)
    rw[HE1.out]at c1 c2
    obtain⟨x,hx⟩:∃ x,l.getD i 0=x:=⟨_,rfl⟩
    obtain⟨p1,hp⟩:∃ p,(frTo l i).1=p:=⟨_,rfl⟩
    obtain⟨q1,hq⟩:∃ q,(frTo l i).2=q:=⟨_,rfl⟩
    rw[hx]at e0 HE1 c1 c2
    rw[hp]at HE1 HE2 b1 b2 c1 c2 ⊢
    rw[hq]at HE1 b3 b4 c1 c2 ⊢
    obtain⟨m,hm⟩:∃ m,x*p1=m:=⟨_,rfl⟩
    rw[hm]at HE1 c1 c2
    have ew1:IntKind.i64.wrap (x*p1)=m:=by rw[hm];exact IntWalk.i64_in _ (by omega)
    have ew2:IntKind.i64.wrap (m+q1)=m+q1:=IntWalk.i64_in _ (by omega)
    injection ea with ea
    injection ea with ea1 ea2
    subst ea1 ea2
    clear hx hp hq hc c3 c4
    go_wp2
    go_roundw
    case rel=>exact⟨i+1,by omega,by omega,by go_num,by rw[HE1.out],by rw[HE2.out],hb.out⟩
    case measure=>simp only[intOf];omega
  · obtain rfl:i=n:=by omega
    rw[HF.out]
    go_wp2
    go_ret
    exact⟨by first|rfl|simp,hb.out⟩
end Go.Proofs.Ytgagenmkpmmpfaa
