/- Several texts of the proof, one behind the other. -/
import Derived.Test.YtefooihnoajnlaaCyGP
/- Plain mathematics: what is left of a diagram when crossings are taken out may be one. -/
namespace Go.Proofs.Ytefooihnoajnlaa
structure Lft (C:List Cr) (loops:Int) (G L:List Nat) (P:Nat->Bool):Prop where
 hm:mayD C loops=true
 go:Goes C (nx C)
 hL:uniM C (nx C) G=L
 hP:∀ v,1<=v->(P v=true↔thP C G L v)
def lft (C:List Cr) (G L:List Nat) (P:Nat->Bool):List Cr:=reTo C G (numM L P) C.length
theorem Lft.least {C:List Cr} {loops:Int} {G L:List Nat} {P:Nat->Bool} (h:Lft C loops G L P):Least (uTo C (nx C) G (2*C.length)) (2*C.length+1) L:=h.hL▸uni_least (G:=G) h.go.closed
theorem Lft.pos {C:List Cr} {loops:Int} {G L:List Nat} {P:Nat->Bool} (h:Lft C loops G L P) {a:Nat} (h1:1<=a) (h2:a<=2*C.length):1<=L.getD a 0:=
 (h.least.2 a (by omega)).1 (fun z=>1<=z) (fun e he=>by have:=uTo_lt h.go.closed e he;exact⟨fun _=>this.2.1,fun _=>this.1.1⟩) h1
theorem Lft.at {C : List Cr} {loops : Int} {G L : List Nat} {P : Nat → Bool} (h : Lft C loops G L P) {k s : Nat} (hk : k < C.length) (hG : k ∉ G) (hs : s < 4) :
    ((lft C G L P).getD (posG G k) Cr.none).arc s=((cntB P (L.getD (aAt C k s) 0)+1:Nat):Int)/\P (L.getD (aAt C k s) 0)=true/\1<=L.getD (aAt C k s) 0/\((lft C G L P).getD (posG G k) Cr.none).comes s=(C.getD k Cr.none).comes s:=by
 obtain⟨-,-,a1,a2⟩:=en_side h.hm k s hk hs
 have hp:=h.pos a1 a2
 have hP:P (L.getD (aAt C k s) 0)=true:=(h.hP _ hp).2 ⟨k,s,hk,hG,hs,rfl⟩
 unfold lft
 rw[reTo_at hG _ hk,reX_comes,reX_arc _ _ hs]
 refine⟨?_,hP,hp,rfl⟩
 show((numM L P (aAt C k s):Nat):Int)=_
 unfold numM
 rw[if_pos hP]
theorem Lft.one {C : List Cr} {loops : Int} {G L : List Nat} {P : Nat → Bool} (h : Lft C loops G L P) {k s j t : Nat} (hk : k < C.length) (hG : k ∉ G) (hs : s < 4) (hj : j < C.length) (hH : j ∉ G) (ht : t < 4)
    (e:L.getD (aAt C k s) 0=L.getD (aAt C j t) 0) (ec:(C.getD k Cr.none).comes s=(C.getD j Cr.none).comes t):k=j/\s=t:=by
 obtain⟨k1,k2,k3,k4⟩:=en_side h.hm k s hk hs
 obtain⟨j1,j2,j3,j4⟩:=en_side h.hm j t hj ht
 have ea:aAt C k s=aAt C j t:=by
  rw[<-h.hL]at e
  cases hc:(C.getD k Cr.none).comes s with
  |true=>
   rw[hc]at k1
   rw[<-ec,hc]at j1
   exact ends_one h.go G k3 k4 j3 j4 (by have q:toC C (aAt C k s)=k:=k1;rw[q];exact hG) (by have q:toC C (aAt C j t)=j:=j1;rw[q];exact hH) e
  |false=>
   rw[hc]at k1
   rw[<-ec,hc]at j1
   exact starts_one h.go G k3 k4 j3 j4 (by rw[k1];exact hG) (by rw[j1];exact hH) e
 rw[ec,ea]at k1 k2
 exact⟨k1.symm.trans j1,k2.symm.trans j2⟩
theorem cntB_cnt (P:Nat->Bool) (n:Nat):cntB P n=(List.range n).countP fun v=>decide (1<=v)&&P v:=by
 induction n with
 |zero=>rfl
 |succ n ih=>
  show cntB P n+(if 1<=n/\P n=true then 1 else 0)=_
  rw[ih,List.range_succ,List.countP_append,List.countP_singleton]
  congr 1
  by_cases q:1<=n/\P n=true
  · rw[if_pos q,if_pos (by simpa using q)]
  · rw[if_neg q,if_neg (by simpa using q)]
theorem comes_dec:∀ p:Bool,∀ s,s<4->∀ t,t<4->(s==0||(s==1&&!p)||(s==3&&p))=true->(t==0||(t==1&&!p)||(t==3&&p))=true->s%2=t%2->s=t:=by decide
theorem comes_par {X:Cr} {s t:Nat} (hs:s<4) (ht:t<4) (e1:X.comes s=true) (e2:X.comes t=true) (e:s%2=t%2):s=t:=by
 exact comes_dec X.plus s hs t ht e1 e2 e
theorem Lft.many {C:List Cr} {loops:Int} {G L:List Nat} {P:Nat->Bool} (h:Lft C loops G L P):cntB P (2*C.length+1)<=2*posG G C.length:=by
 have hw:∀ v,∃ a,v<2*C.length+1->1<=v->P v=true->1<=a/\a<=2*C.length/\L.getD a 0=v/\toC C a ∉ G:=fun v=>by
  by_cases q:v<2*C.length+1/\1<=v/\P v=true
  · obtain⟨q1,q2,q3⟩:=q
    have th:=(h.hP v q2).1 q3
    rw[<-h.hL]at th
    obtain⟨-,a,ha,e,hg⟩:=(st_th h.hm h.go G v q2).1 th
    rw[h.hL]at e
    have a1:1<=a:=by
     rcases Nat.eq_zero_or_pos a with rfl|hp
     · have:=h.least.le (v:=0) (by omega);omega
     · exact hp
    unfold goneB at hg
    rw[if_neg (by omega)]at hg
    exact⟨a,fun _ _ _=>⟨a1,by omega,e,by simpa using hg⟩⟩
  · exact⟨0,fun q1 q2 q3=>absurd ⟨q1,q2,q3⟩ q⟩
 obtain⟨w,hw⟩:=Classical.axiomOfChoice hw
 have hr:=cntB_cnt P (2*C.length+1)
 have hc:(List.range (2*posG G C.length)).countP (fun _=>true)=2*posG G C.length:=by
  rw[List.countP_eq_length.2 fun _ _=>rfl,List.length_range]
 rw[hr,<-hc]
 refine inj_cnt (fun v=>2*posG G (toC C (w v))+toS C (w v)%2) (fun v hv hP=>?_) fun u v hu hv hPu hPv e=>?_
 · simp only[Bool.and_eq_true,decide_eq_true_eq]at hP
   obtain⟨a1,a2,a3,a4⟩:=hw v hv hP.1 hP.2
   have t:=(to_may h.hm _ a1 a2).2.1
   have:=posG_lt t a4
   exact⟨by show 2*posG G (toC C (w v))+toS C (w v)%2<_;omega,rfl⟩
 · simp only[Bool.and_eq_true,decide_eq_true_eq]at hPu hPv
   obtain⟨a1,a2,a3,a4⟩:=hw u hu hPu.1 hPu.2
   obtain⟨b1,b2,b3,b4⟩:=hw v hv hPv.1 hPv.2
   obtain⟨-,t1,t2,t3,t4⟩:=to_may h.hm _ a1 a2
   obtain⟨-,u1,u2,u3,u4⟩:=to_may h.hm _ b1 b2
   have e:2*posG G (toC C (w u))+toS C (w u)%2=2*posG G (toC C (w v))+toS C (w v)%2:=e
   have ek:=posG_inj a4 b4 (by omega)
   rw[ek]at t3 t4
   have es:=comes_par t2 u2 t4 u4 (by omega)
   rw[es,u3]at t3
   rw[<-a3,<-b3,show w u=w v by omega]
end Go.Proofs.Ytefooihnoajnlaa
/- Plain mathematics: what is left may be a diagram; its darts; strands passed straight. -/
namespace Go.Proofs.Ytefooihnoajnlaa
theorem sd_zeroT {x:Cr} {a:Int} {p:Bool}:∀ k,(∀ t,t<k->¬(x.arc t=a/\x.comes t=p))->sd x a p k=0
 |0,_=>rfl
 |k+1,h=>by rw[sd,sd_zeroT k (fun t ht=>h t (by omega)),if_neg (h k (by omega))]
theorem sdTo_zeroT {C:List Cr} {a:Int} {p:Bool}:∀ i,(∀ j t,j<i->t<4->¬((C.getD j Cr.none).arc t=a/\(C.getD j Cr.none).comes t=p))->sdTo C a p i=0
 |0,_=>rfl
 |i+1,h=>by rw[sdTo,sdTo_zeroT i (fun j t hj ht=>h j t (by omega) ht),sd_zeroT 4 (fun t ht=>h i t (by omega) ht)]
theorem may_one {D : List Cr} {l : Int} (hs : sizeB D l = true) (hr : ∀ k s, k < D.length → s < 4 → 1 ≤ (D.getD k Cr.none).arc s ∧ (D.getD k Cr.none).arc s ≤ 2 * (D.length : Int))
    (one:∀ i k j t,i<D.length->k<4->j<D.length->t<4->(D.getD j Cr.none).arc t=(D.getD i Cr.none).arc k->(D.getD j Cr.none).comes t=(D.getD i Cr.none).comes k->j=i/\t=k):mayD D l=true:=by
 refine fit_yes hs fun i k hi hk=>?_
 obtain⟨h1,h2⟩:=hr i k hi hk
 refine⟨h1,h2,?_⟩
 unfold ahd
 rw[sdTo_zeroT i (fun j t hj ht h=>by have:=(one i k j t hi hk (by omega) ht h.1 h.2).1;omega),sd_zeroT k (fun t ht h=>by have:=(one i k i t hi hk hi (by omega) h.1 h.2).2;omega)]
theorem Lft.len {C:List Cr} {G L:List Nat} {P:Nat->Bool}:(lft C G L P).length=posG G C.length:=reTo_pos ..
theorem Lft.may {C:List Cr} {loops lo:Int} {G L:List Nat} {P:Nat->Bool} (h:Lft C loops G L P) (hs:sizeB (lft C G L P) lo=true):mayD (lft C G L P) lo=true:=by
 refine may_one hs (fun i s hi hs=>?_) fun i s j t hi hs hj ht ea ec=>?_
 · rw[Lft.len]at hi ⊢
   obtain⟨k,k1,k2,rfl⟩:=posG_onto hi
   obtain⟨e1,e2,e3,-⟩:=h.at k1 k2 hs
   obtain⟨-,-,a1,a2⟩:=en_side h.hm k s k1 hs
   have hlt:=h.least.lt (v:=aAt C k s) (by omega)
   have h1:=cntB_lt e3 e2 hlt
   have h2:=h.many
   rw[e1]
   omega
 · rw[Lft.len]at hi hj
   obtain⟨k,k1,k2,rfl⟩:=posG_onto hi
   obtain⟨m,m1,m2,rfl⟩:=posG_onto hj
   obtain⟨e1,e2,e3,e4⟩:=h.at k1 k2 hs
   obtain⟨f1,f2,f3,f4⟩:=h.at m1 m2 ht
   rw[e1,f1]at ea
   rw[e4,f4]at ec
   have el:=cntB_inj f3 f2 e3 e2 (by omega)
   obtain⟨q1,q2⟩:=h.one m1 m2 ht k1 k2 hs el ec
   exact⟨by rw[q1],q2⟩
theorem Lft.arc {C:List Cr} {loops:Int} {G L:List Nat} {P:Nat->Bool} (h:Lft C loops G L P) {k s:Nat} (hk:k<C.length) (hG:k ∉ G) (hs:s<4):aAt (lft C G L P) (posG G k) s=cntB P (L.getD (aAt C k s) 0)+1:=by
 have:=(h.at hk hG hs).1
 show(((lft C G L P).getD (posG G k) Cr.none).arc s).toNat=_
 rw[this,Int.toNat_natCast]
theorem comes_opp (X:Cr) {s:Nat} (hs:s<4):X.comes ((s+2)%4)=!X.comes s:=by
 have:∀ p:Bool,∀ s,s<4->((s+2)%4==0||((s+2)%4==1&&!p)||((s+2)%4==3&&p))=!(s==0||(s==1&&!p)||(s==3&&p)):=by decide
 exact this X.plus s hs
theorem ein_arc {C:List Cr} {loops:Int} (hm:mayD C loops=true) {k s:Nat} (hk:k<C.length) (hs:s<4):dA (ein C k s)=aAt C k s/\dB (ein C k s)=!(C.getD k Cr.none).comes s:=by
 obtain⟨e,-,-,h1,h2⟩:=pd_at hm k s hk hs
 obtain⟨-,-,a3,a4⟩:=al_may h1 h2
 have p:=(en_side hm k s hk hs).2.2.1
 unfold ein
 rw[a3,a4,e,dA_mk p,dB_mk p]
 exact⟨rfl,rfl⟩
theorem Lft.straight {C:List Cr} {loops:Int} {G L:List Nat} {P:Nat->Bool} (h:Lft C loops G L P) {z:Nat} (z1:1<=z) (z2:z<=4*C.length) (hz:dC C z∈G):L.getD (dA (fs C G z)) 0=L.getD (dA z) 0/\dB (fs C G z)=dB z:=by
 obtain⟨g1,g2,g3⟩:=ein_onto h.hm z1 z2
 generalize dC C z=k at g1 g3 hz
 generalize dS C z=s at g2 g3
 subst g3
 have s2:(s+2)%4<4:=by omega
 obtain⟨e1,e2⟩:=ein_arc h.hm g1 g2
 obtain⟨p1,p2,p3,p4⟩:=en_side h.hm k s g1 g2
 obtain⟨q1,q2,q3,q4⟩:=en_side h.hm k ((s+2)%4) g1 s2
 rw[fs_in h.hm g1 g2 hz,(pd_at h.hm k ((s+2)%4) g1 s2).1,dA_mk q3,dB_mk q3,e1,e2]
 refine⟨?_,comes_opp _ g2⟩
 rw[comes_opp _ g2]at q1 q2
 refine(h.least.same (by omega) (by omega)).2 ?_
 cases hc:(C.getD k Cr.none).comes s with
 |true=>
  rw[hc]at p1 p2
  refine(Con.edge (mem_uTo.2 ⟨aAt C k s,p3,p4,by have q:toC C (aAt C k s)=k:=p1;rw[q];exact hz,?_⟩)).symm
  have t1:toC C (aAt C k s)=k:=p1
  have t2:toS C (aAt C k s)=s:=p2
  unfold nx
  rw[t1,t2]
  rfl
 |false=>
  rw[hc]at q1 q2
  refine Con.edge (mem_uTo.2 ⟨aAt C k ((s+2)%4),q3,q4,by have q:toC C (aAt C k ((s+2)%4))=k:=q1;rw[q];exact hz,?_⟩)
  have t1:toC C (aAt C k ((s+2)%4))=k:=q1
  have t2:toS C (aAt C k ((s+2)%4))=(s+2)%4:=q2
  unfold nx
  rw[t1,t2,show((s+2)%4+2)%4=s by omega]
  rfl
end Go.Proofs.Ytefooihnoajnlaa
