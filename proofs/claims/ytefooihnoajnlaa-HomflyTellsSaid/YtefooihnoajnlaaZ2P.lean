/- Several texts of the proof, one behind the other. -/
import Derived.Test.YtefooihnoajnlaaZ0P
import Derived.Test.YtefooihnoajnlaaF4P
import Derived.Test.YtefooihnoajnlaaCyP
import Derived.Test.YtefooihnoajnlaaH6P
/- Plain mathematics: in a planar diagram of one piece a set of arcs that comes to each crossing an even number of times parts two sets of faces. -/
namespace Go.Proofs.Ytefooihnoajnlaa
def aAt (C:List Cr) (k s:Nat):Nat:=((C.getD k Cr.none).arc s).toNat
theorem en_side {C:List Cr} {loops:Int} (hm:mayD C loops=true) (k s:Nat) (hk:k<C.length) (hs:s<4):enC C (aAt C k s) ((C.getD k Cr.none).comes s)=k/\enS C (aAt C k s) ((C.getD k Cr.none).comes s)=s/\1<=aAt C k s/\aAt C k s<=2*C.length:=by
 have hf:=may_fit hm k s hk hs
 have g1:=hf.1
 have g2:=hf.2.1
 have ha:1<=aAt C k s/\aAt C k s<=2*C.length:=by unfold aAt;omega
 have e:=end_one hm (aAt C k s) ha.1 ha.2 ((C.getD k Cr.none).comes s) k s hk hs (by unfold aAt;omega) rfl
 refine⟨?_,?_,ha.1,ha.2⟩
 · unfold enC;rw[e];rfl
 · unfold enS;rw[e];rfl
def sides (C:List Cr) (g:Nat->Bool) (a:Nat):Bool:=xor (g (fo C (mkD a true))) (g (fo C (mkD a false)))
end Go.Proofs.Ytefooihnoajnlaa
/- Plain mathematics: Euler's number of a piece is even and at most two. -/
namespace Go.Proofs.Ytefooihnoajnlaa
theorem Bij.onto {f:Nat->Nat} {M:Nat} (h:Bij f M) {y:Nat} (hy:y<M):∃ x,x<M/\f x=y:=by
 obtain⟨p,h0,hp⟩:=period h hy
 refine⟨it f (p-1) y,it_lt h hy _,?_⟩
 have e:it f (p-1+1) y=f (it f (p-1) y):=rfl
 rw[<-e,show p-1+1=p by omega,hp]
def al (j:Nat):Nat:=mkD (dA j) (!dB j)
def lvC (C:List Cr) (j:Nat):Nat:=enC C (dA j) (dB j)
def pd (C:List Cr) (q:Nat):Nat:=mkD (aAt C (q / 4) (q%4)) ((C.getD (q / 4) Cr.none).comes (q%4))
theorem al_may {j n:Nat} (h1:1<=j) (h2:j<=4*n):1<=al j/\al j<=4*n/\dA (al j)=dA j/\dB (al j)=!dB j:=by
 have h:=dA_le h1 h2
 have g:=mk_le (p:=!dB j) h.1 h.2
 exact⟨g.1,g.2,dA_mk h.1,dB_mk h.1⟩
theorem al_odd (i:Nat):al (2*i+1)=2*i+2:=by
 unfold al dA dB mkD
 simp only[show(2*i+1)%2=1 by omega,show(2*i+1+1) / 2=i+1 by omega]
 simp
 omega
theorem al_even (i:Nat):al (2*i+2)=2*i+1:=by
 unfold al dA dB mkD
 simp only[show(2*i+2)%2=0 by omega,show(2*i+2+1) / 2=i+1 by omega]
 simp
 omega
theorem al_al {j:Nat} (h1:1<=j):al (al j)=j:=by
 by_cases h:j%2=1
 · obtain⟨i,rfl⟩:∃ i,j=2*i+1:=⟨j / 2,by omega⟩
   rw[al_odd,al_even]
 · obtain⟨i,rfl⟩:∃ i,j=2*i+2:=⟨j / 2 - 1,by omega⟩
   rw[al_even,al_odd]
theorem dC_al {C:List Cr} {j:Nat} (h1:1<=j) (h2:j<=4*C.length):dC C (al j)=lvC C j/\dS C (al j)=enS C (dA j) (dB j):=by
 obtain⟨-,-,a1,a2⟩:=al_may h1 h2
 unfold dC dS lvC
 rw[a1,a2,Bool.not_not]
 exact⟨rfl,rfl⟩
theorem pd_at {C:List Cr} {loops:Int} (hm:mayD C loops=true) (k s:Nat) (hk:k<C.length) (hs:s<4):pd C (4*k+s)=mkD (aAt C k s) ((C.getD k Cr.none).comes s)/\lvC C (pd C (4*k+s))=k/\enS C (dA (pd C (4*k+s))) (dB (pd C (4*k+s)))=s/\1<=pd C (4*k+s)/\pd C (4*k+s)<=4*C.length:=by
 have e:pd C (4*k+s)=mkD (aAt C k s) ((C.getD k Cr.none).comes s):=by
  unfold pd
  rw[show(4*k+s) / 4=k by omega,show(4*k+s)%4=s by omega]
 have h:=en_side hm k s hk hs
 unfold lvC
 rw[e,dA_mk h.2.2.1,dB_mk h.2.2.1]
 have g:=mk_le (p:=(C.getD k Cr.none).comes s) h.2.2.1 h.2.2.2
 exact⟨rfl,h.1,h.2.1,g.1,g.2⟩
theorem pd_sig {C:List Cr} {loops:Int} (hm:mayD C loops=true) (k s:Nat) (hk:k<C.length) (hs:s<4):fd C (al (pd C (4*k+s)))=pd C (4*k+(s+3)%4):=by
 obtain⟨-,h1,h2,h3,h4⟩:=pd_at hm k s hk hs
 obtain⟨a1,a2⟩:=dC_al (C:=C) h3 h4
 rw[(pd_at hm k ((s+3)%4) hk (Nat.mod_lt _ (by decide))).1]
 unfold fd
 rw[a1,a2,h1,h2]
 rfl
theorem pd_bij {C:List Cr} {loops:Int} (hm:mayD C loops=true):Bij (fun q=>pd C q-1) (4*C.length):=by
 have hb:∀ q,q<4*C.length->∃ k s,k<C.length/\s<4/\q=4*k+s:=fun q hq=>⟨q / 4,q%4,by omega,by omega,by omega⟩
 refine⟨fun q hq=>?_,fun q r hq hr e=>?_⟩
 · obtain⟨k,s,hk,hs,rfl⟩:=hb q hq
   obtain⟨-,-,-,h3,h4⟩:=pd_at hm k s hk hs
   show pd C (4*k+s)-1<_
   omega
 · obtain⟨k,s,hk,hs,rfl⟩:=hb q hq
   obtain⟨k',s',hk',hs',rfl⟩:=hb r hr
   obtain⟨-,h1,h2,h3,h4⟩:=pd_at hm k s hk hs
   obtain⟨-,g1,g2,g3,g4⟩:=pd_at hm k' s' hk' hs'
   have e1:pd C (4*k+s)=pd C (4*k'+s'):=by
    have e':pd C (4*k+s)-1=pd C (4*k'+s')-1:=e
    omega
   rw[e1]at h1 h2
   have:k=k':=by rw[<-h1,g1]
   have:s=s':=by rw[<-h2,g2]
   omega
end Go.Proofs.Ytefooihnoajnlaa
/- Plain mathematics: rings and pieces where a crossing, or two, are passed straight. -/
namespace Go.Proofs.Ytefooihnoajnlaa
def cyA (f:Nat->Nat) (M:Nat):Nat:=cyN f M fun _=>true
theorem cyA_join {f:Nat->Nat} {M:Nat} (h:Bij f M) {a b:Nat} (ha:a<M) (hb:b<M) (hn:¬ Con (eds f M) a b):cyA (tr f a b) M+1=cyA f M:=by
 have:=cyN_join h (fun _=>true) ha hb hn (fun _ _ _ _=>rfl) rfl
 rw[if_pos rfl]at this
 exact this
theorem cyA_part {f:Nat->Nat} {M:Nat} (h:Bij f M) {a b:Nat} (ha:a<M) (hb:b<M) (hne:a≠b) (hc:Con (eds f M) a b):cyA f M+1=cyA (tr f a b) M:=by
 have:=cyN_part h (fun _=>true) ha hb hne hc (fun _ _ _ _=>rfl)
 rw[if_pos rfl]at this
 exact this
theorem cyA_congr {f g:Nat->Nat} {M:Nat} (e:∀ x,x<M->f x=g x):cyA f M=cyA g M:=cyN_congr e _
theorem cyA_del {f:Nat->Nat} {M:Nat} (h:Bij f M) {w z:Nat} (hw:w<M) (e:f w=z) (hne:w≠z):cyA f M+1=cyA (tr f w z) M:=
 cyA_part h hw (e▸h.lt w hw) hne (e▸con_f hw)
theorem cyA_ins {f:Nat->Nat} {M:Nat} (h:Bij f M) {w z:Nat} (hw:w<M) (hz:z<M) (e:f z=z) (hne:w≠z):cyA (tr f w z) M+1=cyA f M:=by
 refine cyA_join h hw hz fun hc=>hne ?_
 have hS:Closed (eds f M) fun y=>y=z:=closed_eds.2 fun i hi=>by
  constructor
  · intro q;rw[q];exact e
  · intro q;exact h.inj i z hi hz (by rw[q,e])
 exact hc.symm _ hS rfl
def edb (f a:Nat->Nat) (M:Nat):List (Nat×Nat):=eds f M++eds a M
theorem closed_edb {f a:Nat->Nat} {M:Nat} {S:Nat->Prop}:Closed (edb f a M) S↔(∀ i,i<M->(S i↔S (f i)))/\∀ i,i<M->(S i↔S (a i)):=by
 constructor
 · intro h
   exact⟨closed_eds.1 fun e he=>h e (List.mem_append_left _ he),closed_eds.1 fun e he=>h e (List.mem_append_right _ he)⟩
 · rintro⟨h1,h2⟩ e he
   rcases List.mem_append.1 he with he|he
   · exact closed_eds.2 h1 e he
   · exact closed_eds.2 h2 e he
structure CurlG (f g al:Nat->Nat) (M P Q U V:Nat):Prop where
 bf:Bij f M
 la:∀ x,x<M->al x<M
 lp:P<M
 lq:Q<M
 lu:U<M
 lv:V<M
 pq:P≠Q
 pu:P≠U
 pv:P≠V
 qu:Q≠U
 qv:Q≠V
 uv:U≠V
 aq:al P=Q
 fp:f P=P
 fq:f Q=al V
 fu:f U=Q
 fv:f V=al U
 gp:g P=al V
 gq:g Q=al U
 gu:g U=P
 gv:g V=Q
 go:∀ x,x<M->x≠P->x≠Q->x≠U->x≠V->g x=f x
theorem CurlG.count {f g al:Nat->Nat} {M P Q U V:Nat} (h:CurlG f g al M P Q U V):cyA g M+1=cyA f M:=by
 have b1:=h.bf.tr h.lu h.lq
 have c1:=cyA_del h.bf h.lu h.fu (Ne.symm h.qu)
 have e1:tr f U Q P=P:=by rw[tr_o f h.pu h.pq,h.fp]
 have c2:=cyA_ins b1 h.lu h.lp e1 (Ne.symm h.pu)
 have b2:=b1.tr h.lu h.lp
 have e2:tr (tr f U Q) U P Q=Q:=by rw[tr_o _ h.qu (Ne.symm h.pq),tr_b,h.fu]
 have c3:=cyA_ins b2 h.lv h.lq e2 (Ne.symm h.qv)
 have e:cyA (tr (tr (tr f U Q) U P) V Q) M=cyA g M:=cyA_congr fun x hx=>by
  by_cases x1:x=P
  · rw[x1,tr_o _ h.pv h.pq,tr_b,tr_a,h.fq,h.gp]
  · by_cases x2:x=Q
    · rw[x2,tr_b,tr_o _ (Ne.symm h.uv) (Ne.symm h.pv),tr_o _ (Ne.symm h.uv) (Ne.symm h.qv),h.fv,h.gq]
    · by_cases x3:x=U
      · rw[x3,tr_o _ h.uv (Ne.symm h.qu),tr_a,e1,h.gu]
      · by_cases x4:x=V
        · rw[x4,tr_a,e2,h.gv]
        · rw[tr_o _ x4 x2,tr_o _ x3 x1,tr_o _ x3 x2,h.go x hx x1 x2 x3 x4]
 omega
theorem CurlG.con {f g al:Nat->Nat} {M P Q U V:Nat} (h:CurlG f g al M P Q U V) (x y:Nat) (hc:Con (edb f al M) x y):Con (edb g al M) x y:=fun S hS=>by
 obtain⟨s1,s2⟩:=closed_edb.1 hS
 refine hc S (closed_edb.2 ⟨fun i hi=>?_,s2⟩)
 have a1:=s1 U h.lu
 have a2:=s2 P h.lp
 have a3:=s1 V h.lv
 have a4:=s2 U h.lu
 have a5:=s2 V h.lv
 rw[h.gu]at a1
 rw[h.aq]at a2
 rw[h.gv]at a3
 by_cases x1:i=P
 · rw[x1,h.fp]
 · by_cases x2:i=Q
   · rw[x2,h.fq,<-a5,<-a3]
   · by_cases x3:i=U
     · rw[x3,h.fu,a1,a2]
     · by_cases x4:i=V
       · rw[x4,h.fv,<-a4,a1,a2,a3]
       · rw[<-h.go i hi x1 x2 x3 x4];exact s1 i hi
end Go.Proofs.Ytefooihnoajnlaa
/- The walk of ref.level. -/
namespace Go.Proofs.Ytefooihnoajnlaa
open Go.RowKit
set_option maxHeartbeats 4000000
set_option maxRecDepth 100000
theorem level_any (B g n c x y : Nat) (L : List Nat) (w : World) (hx : x < n) (hy : y < n) (hL : w.ownsRow B 3 1 (.slice (some ⟨g, 0, none⟩) n c) n (nats L)) :
    Calls Try.prog 37 #[.slice (some ⟨g,0,none⟩) n c,.int .i64 x,.int .i64 y] w fun e w'=>e=.returned (.tuple #[])/\w'.ownsRow B 3 1 (.slice (some ⟨g,0,none⟩) n c) n (nats (lev L x y))/\w.grownBy w' (some g):=by
 have HR:=hidB hL
 have hll:L.length=n:=by have h:=hL.1;rw[nats_len]at h;omega
 have e0:w.cell? ⟨g,x,none⟩=some (.int .i64 (L.getD x 0:Nat)):=by
  rw[hL.cellAt x (by omega)];exact nats_get _ x (by omega)
 have e1:w.cell? ⟨g,y,none⟩=some (.int .i64 (L.getD y 0:Nat)):=by
  rw[hL.cellAt y (by omega)];exact nats_get _ y (by omega)
 have hgl:=(hL.lt g rfl).2
 clear hL hll
 go_enter Try.func37,Try.ntmps37
 by_cases hlt:L.getD x 0<L.getD y 0
 · have hdx:decide (((L.getD x 0:Nat):Int)<((L.getD y 0:Nat):Int))=true:=by simp only[decide_eq_true_eq];omega
   have hdx2:decide (L.getD x 0<L.getD y 0)=true:=by simp only[decide_eq_true_eq];omega
   have hst:=HR.out.stored y (.int .i64 (L.getD x 0:Nat))
   rw[nats_set]at hst
   have HLV:=hidB (show lev L x y=L.set y (L.getD x 0) by unfold lev;rw[if_pos hlt])
   have HST:=hidB (show(w.setCell ⟨g,y,none⟩ (.int .i64 (L.getD x 0:Nat))).drew.ownsRow B 3 1 (.slice (some ⟨g,0,none⟩) n c) n (nats (lev L x y))/\w.grownBy (w.setCell ⟨g,y,none⟩ (.int .i64 (L.getD x 0:Nat))).drew (some g) by rw[HLV.out];exact⟨own_any hst.1 (grown_below ((Below.refl _ _).drew) none),⟨hst.2.os,hst.2.tape,hst.2.output,hst.2.size,hst.2.block⟩⟩)
   have z0:w.frozen? ⟨g,y,none⟩=false:=HR.out.frozenAt y
   clear hst
   go_wp2
   go_region_held3 (fun w'=>w'.cell? ⟨g,x,none⟩=some (.int .i64 (L.getD x 0:Nat))/\w'.cell? ⟨g,y,none⟩=some (.int .i64 (L.getD y 0:Nat))) (exact⟨e0,e1⟩) (fail)
   go_wp2
   exact bodyPost_end (v:=.tuple #[]) (by simp[results,Try.results37]) rfl ⟨rfl,HST.out⟩
 · have hdx:decide (((L.getD x 0:Nat):Int)<((L.getD y 0:Nat):Int))=false:=by simp only[decide_eq_false_iff_not];omega
   have hdx2:decide (L.getD x 0<L.getD y 0)=false:=by simp only[decide_eq_false_iff_not];omega
   have hst:=HR.out.stored x (.int .i64 (L.getD y 0:Nat))
   rw[nats_set]at hst
   have HLV:=hidB (show lev L x y=L.set x (L.getD y 0) by unfold lev;rw[if_neg hlt])
   have HST:=hidB (show(w.setCell ⟨g,x,none⟩ (.int .i64 (L.getD y 0:Nat))).drew.ownsRow B 3 1 (.slice (some ⟨g,0,none⟩) n c) n (nats (lev L x y))/\w.grownBy (w.setCell ⟨g,x,none⟩ (.int .i64 (L.getD y 0:Nat))).drew (some g) by rw[HLV.out];exact⟨own_any hst.1 (grown_below ((Below.refl _ _).drew) none),⟨hst.2.os,hst.2.tape,hst.2.output,hst.2.size,hst.2.block⟩⟩)
   have z0:w.frozen? ⟨g,x,none⟩=false:=HR.out.frozenAt x
   clear hst
   go_wp2
   go_region_held3 (fun w'=>w'.cell? ⟨g,x,none⟩=some (.int .i64 (L.getD x 0:Nat))/\w'.cell? ⟨g,y,none⟩=some (.int .i64 (L.getD y 0:Nat))) (exact⟨e0,e1⟩) (fail)
   go_wp2
   exact bodyPost_end (v:=.tuple #[]) (by simp[results,Try.results37]) rfl ⟨rfl,HST.out⟩
end Go.Proofs.Ytefooihnoajnlaa
