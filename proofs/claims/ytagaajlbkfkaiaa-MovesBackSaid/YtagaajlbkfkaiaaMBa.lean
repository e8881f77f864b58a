/- Plain mathematics: the slide that moves lay: told by its places; slid back it is what it was. -/
import Derived.Test.YtagaajlbkfkaiaaME11P
namespace Go.Proofs.Ytagaajlbkfkaiaa
set_option maxHeartbeats 8000000
set_option maxRecDepth 100000
theorem com_opp (x:Cr) {s:Nat} (hs:s<4):x.comes ((s+2)%4)=!x.comes s:=by
 have hs':s=0∨s=1∨s=2∨s=3:=by omega
 rcases hs' with rfl|rfl|rfl|rfl<;>cases h:x.plus<;>simp[Cr.comes,h]
structure Lik (C E:List Cr):Prop where
 len:E.length=C.length
 plus:∀ k,(E.getD k Cr.none).plus=(C.getD k Cr.none).plus
 arc:∀ k s,k<E.length->s<4->1<=(E.getD k Cr.none).arc s/\(E.getD k Cr.none).arc s<=2*(C.length:Int)
section
variable {C E:List Cr} {lo:Int}
theorem Lik.self (hm:mayD C lo=true):Lik C C:=⟨rfl,fun _=>rfl,fun k s hk hs=>by have:=QK7 hm k s hk hs;exact⟨this.1,this.2.1⟩⟩
theorem Lik.set (h:Lik C E) {i k:Nat} (hi:i<C.length) (hk:k<4) {v:Int} (v1:1<=v) (v2:v<=2*(C.length:Int)):Lik C (setL E i k v):=by
 have hi':i<E.length:=by rw[h.len];exact hi
 refine⟨by rw[QK8];exact h.len,fun j=>by rw[setL_plus E hi'];exact h.plus j,fun j s hj hs=>?_⟩
 rw[QK8]at hj
 rw[QU3 E hi' hk v j hs]
 split
 · exact⟨v1,v2⟩
 · exact h.arc j s hj hs
theorem sl_pq (hm:mayD C lo=true) (h:Lik C E) {e:Nat} (e1:1<=e) (e2:e<=2*C.length):
    Lik C (slL C E e)/\∀ k s,k<C.length->s<4->pd (slL C E e) (4*k+s)=if k=enC C e false/\s=enS C e false then pd C (4*enC C e true+(enS C e true+2)%4) else if k=enC C e false/\s=(enS C e false+2)%4 then pd C (4*enC C e true+enS C e true) else if k=enC C e true/\s=(enS C e true+2)%4 then pd C (4*enC C e false+enS C e false) else if k=enC C e true/\s=enS C e true then pd C (4*enC C e false+(enS C e false+2)%4) else pd E (4*k+s):=by
 obtain⟨-,p1,p2,p3,p4⟩:=QJ9 hm e false e1 e2
 obtain⟨-,q1,q2,q3,q4⟩:=QJ9 hm e true e1 e2
 have m4:∀ z,z%4<4:=fun z=>Nat.mod_lt _ (by decide)
 have fA:=QK7 hm (enC C e false) ((enS C e false+2)%4) p1 (m4 _)
 have fB:=QK7 hm (enC C e true) ((enS C e true+2)%4) q1 (m4 _)
 have L1:=h.set q1 q2 fA.1 fA.2.1
 have L2:=L1.set q1 (m4 (enS C e true+2)) (v:=(e:Int)) (by omega) (by omega)
 have L3:=L2.set p1 (m4 (enS C e false+2)) (v:=(e:Int)) (by omega) (by omega)
 have L4:=L3.set p1 p2 fB.1 fB.2.1
 refine⟨L4,fun k s hk hs=>?_⟩
 have hc:∀ X:List Cr,Lik C X->(X.getD k Cr.none).comes s=(C.getD k Cr.none).comes s:=fun X hX=>plus_comes (hX.plus k) s
 unfold slL
 rw[QW0 _ _ hs,hc _ L4,QU3 _ (by rw[L3.len];exact p1) p2 _ _ hs,QU3 _ (by rw[L2.len];exact p1) (m4 _) _ _ hs,QU3 _ (by rw[L1.len];exact q1) (m4 _) _ _ hs,QU3 _ (by rw[h.len];exact q1) q2 _ _ hs]
 have cp:=com_opp (C.getD (enC C e false) Cr.none) p2
 have cq:=com_opp (C.getD (enC C e true) Cr.none) q2
 rw[p4]at cp
 rw[q4]at cq
 by_cases g1:k=enC C e false/\s=enS C e false
 · rw[if_pos g1,if_pos g1,g1.1,g1.2,p4,QW0 C _ (m4 _),cq]
   rfl
 · rw[if_neg g1,if_neg g1]
   by_cases g2:k=enC C e false/\s=(enS C e false+2)%4
   · rw[if_pos g2,if_pos g2,g2.1,g2.2,cp,QW0 C _ q2,q3,q4]
     rfl
   · rw[if_neg g2,if_neg g2]
     by_cases g3:k=enC C e true/\s=(enS C e true+2)%4
     · rw[if_pos g3,if_pos g3,g3.1,g3.2,cq,QW0 C _ p2,p3,p4]
       rfl
     · rw[if_neg g3,if_neg g3]
       by_cases g4:k=enC C e true/\s=enS C e true
       · rw[if_pos g4,if_pos g4,g4.1,g4.2,q4,QW0 C _ (m4 _),cp]
         rfl
       · rw[if_neg g4,if_neg g4,QW0 E _ hs,hc E h]
theorem sl_dart (hm:mayD C lo=true) (h:Lik C E) {x j t k s:Nat} (hx1:1<=x) (hx2:x<=4*C.length) (hj:j<C.length) (ht:t<4) (hk:k<C.length) (hs:s<4) (hne:j≠k) (e1:pd C (4*j+t)=x) (e2:pd C (4*k+s)=al x):
    Lik C (slL C E (dA x))/\∀ q,q<4*C.length->pd (slL C E (dA x)) q=if q=4*k+s then pd C (4*j+(t+2)%4) else if q=4*j+(t+2)%4 then pd C (4*k+s) else if q=4*j+t then pd C (4*k+(s+2)%4) else if q=4*k+(s+2)%4 then pd C (4*j+t) else pd E q:=by
 have hA:1<=dA x/\dA x<=2*C.length:=by unfold dA;omega
 have hmk:mkD (dA x) (dB x)=x:=by
  unfold mkD dA dB
  by_cases h:x%2=0
  · simp[h]
    omega
  · simp[h]
    omega
 have hal:mkD (dA x) (!dB x)=al x:=rfl
 obtain⟨a1,a2⟩:=en_pd hm hj ht hA.1 (e1.trans hmk.symm)
 obtain⟨b1,b2⟩:=en_pd hm hk hs hA.1 (e2.trans hal.symm)
 cases hb:dB x with
 |false=>
  rw[hb]at a1 a2 b1 b2
  have b1':enC C (dA x) true=k:=b1
  have b2':enS C (dA x) true=s:=b2
  obtain⟨l1,l2⟩:=sl_pq hm h hA.1 hA.2
  refine⟨l1,fun q hq=>?_⟩
  obtain⟨k',s',hs',hk',rfl⟩:∃ k' s',s'<4/\k'<C.length/\q=4*k'+s':=⟨q / 4,q%4,by omega,by omega,by omega⟩
  rw[l2 k' s' hk' hs',a1,a2,b1',b2']
  by_cases g1:4*k'+s'=4*k+s
  · rw[if_pos g1,if_neg (by omega),if_neg (by omega),if_neg (by omega),if_pos (by omega)]
  · rw[if_neg g1]
    by_cases g2:4*k'+s'=4*j+(t+2)%4
    · rw[if_pos g2,if_neg (by omega),if_pos (by omega)]
    · rw[if_neg g2]
      by_cases g3:4*k'+s'=4*j+t
      · rw[if_pos g3,if_pos (by omega)]
      · rw[if_neg g3]
        by_cases g4:4*k'+s'=4*k+(s+2)%4
        · rw[if_pos g4,if_neg (by omega),if_neg (by omega),if_pos (by omega)]
        · rw[if_neg g4,if_neg (by omega),if_neg (by omega),if_neg (by omega),if_neg (by omega)]
 |true=>
  rw[hb]at a1 a2 b1 b2
  have b1':enC C (dA x) false=k:=b1
  have b2':enS C (dA x) false=s:=b2
  obtain⟨l1,l2⟩:=sl_pq hm h hA.1 hA.2
  refine⟨l1,fun q hq=>?_⟩
  obtain⟨k',s',hs',hk',rfl⟩:∃ k' s',s'<4/\k'<C.length/\q=4*k'+s':=⟨q / 4,q%4,by omega,by omega,by omega⟩
  rw[l2 k' s' hk' hs',a1,a2,b1',b2']
  by_cases g1:4*k'+s'=4*k+s
  · rw[if_pos g1,if_pos (by omega)]
  · rw[if_neg g1]
    by_cases g2:4*k'+s'=4*j+(t+2)%4
    · rw[if_pos g2,if_neg (by omega),if_neg (by omega),if_pos (by omega)]
    · rw[if_neg g2]
      by_cases g3:4*k'+s'=4*j+t
      · rw[if_pos g3,if_neg (by omega),if_neg (by omega),if_neg (by omega),if_pos (by omega)]
      · rw[if_neg g3]
        by_cases g4:4*k'+s'=4*k+(s+2)%4
        · rw[if_pos g4,if_neg (by omega),if_pos (by omega)]
        · rw[if_neg g4,if_neg (by omega),if_neg (by omega),if_neg (by omega),if_neg (by omega)]
theorem slide_d (hm:mayD C lo=true) {x y z K1 K2 K3 s1 s2 s3:Nat} (h12:K1≠K2) (h23:K2≠K3) (h13:K1≠K3) (k1:K1<C.length) (k2:K2<C.length) (k3:K3<C.length) (a1:s1<4) (a2:s2<4) (a3:s3<4)
    (x1:pd C (4*K3+(s3+3)%4)=x) (x2:pd C (4*K1+s1)=al x) (y1:pd C (4*K1+(s1+3)%4)=y) (y2:pd C (4*K2+s2)=al y) (z1:pd C (4*K2+(s2+3)%4)=z) (z2:pd C (4*K3+s3)=al z):SlideD C (slLs C [x,y,z] 3) K1 K2 K3 s1 s2 s3:=by
 have m4:∀ z,z%4<4:=fun z=>Nat.mod_lt _ (by decide)
 have rng:∀ k s,k<C.length->s<4->1<=pd C (4*k+s)/\pd C (4*k+s)<=4*C.length:=fun k s hk hs=>(pd_at hm k s hk hs).2.2.2
 have rx:=rng K3 _ k3 (m4 (s3+3))
 have ry:=rng K1 _ k1 (m4 (s1+3))
 have rz:=rng K2 _ k2 (m4 (s2+3))
 rw[x1]at rx
 rw[y1]at ry
 rw[z1]at rz
 obtain⟨L1,f1⟩:=sl_dart hm (Lik.self hm) rx.1 rx.2 k3 (m4 _) k1 a1 (fun e=>h13 e.symm) x1 x2
 obtain⟨L2,f2⟩:=sl_dart hm L1 ry.1 ry.2 k1 (m4 _) k2 a2 h12 y1 y2
 obtain⟨L3,f3⟩:=sl_dart hm L2 rz.1 rz.2 k2 (m4 _) k3 a3 h23 z1 z2
 rw[show((s3+3)%4+2)%4=(s3+1)%4 by omega]at f1
 rw[show((s1+3)%4+2)%4=(s1+1)%4 by omega]at f2
 rw[show((s2+3)%4+2)%4=(s2+1)%4 by omega]at f3
 have hD:slLs C [x,y,z] 3=slL C (slL C (slL C C (dA x)) (dA y)) (dA z):=rfl
 rw[hD]
 refine⟨L3.len,h12,h23,h13,k1,k2,k3,a1,a2,a3,by rw[x2,x1,QJ4],by rw[y2,y1,QJ4],by rw[z2,z1,QJ4],fun q hq=>?_,L3.plus,fun k s hk hs=>by have:=L3.arc k s hk hs;rw[L3.len];exact this⟩
 rw[f3 q hq,f2 q hq,f1 q hq]
 obtain⟨t1,t2,t3,t4,t5,t6,t7,t8,t9,ta,tb,tc,td⟩:=tau_at h12 h23 h13 a1 a2 a3
 obtain⟨k,s,hs,rfl⟩:∃ k s,s<4/\q=4*k+s:=⟨q / 4,q%4,by omega,by omega⟩
 rcases QW4 (K1:=K1) (K2:=K2) (K3:=K3) k s hs a1 a2 a3 with(e|e|e|e)|(e|e|e|e)|(e|e|e|e)|⟨n1,n2,n3⟩
 · rw[e,t1,if_neg (by omega),if_neg (by omega),if_neg (by omega),if_neg (by omega),if_neg (by omega),if_neg (by omega),if_neg (by omega),if_neg (by omega),if_pos rfl]
 · rw[e,t6,if_neg (by omega),if_neg (by omega),if_neg (by omega),if_neg (by omega),if_neg (by omega),if_pos rfl]
 · rw[e,t4,if_neg (by omega),if_neg (by omega),if_neg (by omega),if_neg (by omega),if_neg (by omega),if_neg (by omega),if_neg (by omega),if_neg (by omega),if_neg (by omega),if_neg (by omega),if_neg (by omega),if_pos rfl]
 · rw[e,t7,if_neg (by omega),if_neg (by omega),if_neg (by omega),if_neg (by omega),if_neg (by omega),if_neg (by omega),if_pos rfl]
 · rw[e,t5,if_neg (by omega),if_neg (by omega),if_neg (by omega),if_neg (by omega),if_pos rfl]
 · rw[e,ta,if_neg (by omega),if_pos rfl]
 · rw[e,t8,if_neg (by omega),if_neg (by omega),if_neg (by omega),if_neg (by omega),if_neg (by omega),if_neg (by omega),if_neg (by omega),if_pos rfl]
 · rw[e,tb,if_neg (by omega),if_neg (by omega),if_pos rfl]
 · rw[e,t9,if_pos rfl]
 · rw[e,t2,if_neg (by omega),if_neg (by omega),if_neg (by omega),if_neg (by omega),if_neg (by omega),if_neg (by omega),if_neg (by omega),if_neg (by omega),if_neg (by omega),if_pos rfl]
 · rw[e,tc,if_neg (by omega),if_neg (by omega),if_neg (by omega),if_pos rfl]
 · rw[e,t3,if_neg (by omega),if_neg (by omega),if_neg (by omega),if_neg (by omega),if_neg (by omega),if_neg (by omega),if_neg (by omega),if_neg (by omega),if_neg (by omega),if_neg (by omega),if_pos rfl]
 · rw[td k s n1 n2 n3 hs,if_neg (by omega),if_neg (by omega),if_neg (by omega),if_neg (by omega),if_neg (by omega),if_neg (by omega),if_neg (by omega),if_neg (by omega),if_neg (by omega),if_neg (by omega),if_neg (by omega),if_neg (by omega)]
theorem pd_same {C D:List Cr} {lo:Int} (hm:mayD C lo=true) (hL:Lik C D) (h:∀ q,q<4*C.length->pd D q=pd C q):D=C:=by
 have hl:=hL.len
 refine List.ext_getElem hl fun k h1 h2=>?_
 have e1:D[k]=D.getD k Cr.none:=by rw[List.getD_eq_getElem?_getD,List.getElem?_eq_getElem h1];rfl
 have e2:C[k]=C.getD k Cr.none:=by rw[List.getD_eq_getElem?_getD,List.getElem?_eq_getElem h2];rfl
 rw[e1,e2]
 have key:∀ s,s<4->(D.getD k Cr.none).arc s=(C.getD k Cr.none).arc s:=fun s hs=>by
  have e:=h (4*k+s) (by omega)
  rw[QW0 D k hs,QW0 C k hs,plus_comes (hL.plus k) s]at e
  have f1:=QK7 hm k s h2 hs
  have f2:=hL.arc k s h1 hs
  have g1:=f1.1
  have g2:=f2.1
  have:((D.getD k Cr.none).arc s).toNat=((C.getD k Cr.none).arc s).toNat:=by
   have:=congrArg dA e
   rw[dA_mk (by omega),dA_mk (by omega)]at this
   exact this
  omega
 have k0:=key 0 (by omega)
 have k1:=key 1 (by omega)
 have k2:=key 2 (by omega)
 have k3:=key 3 (by omega)
 have e3:∀ x:Cr,x=⟨x.arc 0,x.arc 1,x.arc 2,x.arc 3,x.plus⟩:=fun x=>rfl
 rw[e3 (D.getD k Cr.none),e3 (C.getD k Cr.none),k0,k1,k2,k3,hL.plus k]
end
end Go.Proofs.Ytagaajlbkfkaiaa
