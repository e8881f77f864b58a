/- Plain mathematics: slides: planar, and slid back at a face of the same arcs they are what they were. -/
import Derived.Test.YtagaajlbkfkaiaaMBa
namespace Go.Proofs.Ytagaajlbkfkaiaa
section
variable {K1 K2 K3 s1 s2 s3:Nat}
theorem tau_rot (h12:K1≠K2) (h23:K2≠K3) (h13:K1≠K3) (a1:s1<4) (a2:s2<4) (a3:s3<4) (q:Nat):tauS K2 K3 K1 s2 s3 s1 q=tauS K1 K2 K3 s1 s2 s3 q:=by
 obtain⟨t1,t2,t3,t4,t5,t6,t7,t8,t9,ta,tb,tc,td⟩:=tau_at h12 h23 h13 a1 a2 a3
 obtain⟨u1,u2,u3,u4,u5,u6,u7,u8,u9,ua,ub,uc,ud⟩:=tau_at h23 (fun e=>h13 e.symm) (fun e=>h12 e.symm) a2 a3 a1
 obtain⟨k,s,hs,rfl⟩:∃ k s,s<4/\q=4*k+s:=⟨q / 4,q%4,by omega,by omega⟩
 rcases QW4 (K1:=K1) (K2:=K2) (K3:=K3) k s hs a1 a2 a3 with(e|e|e|e)|(e|e|e|e)|(e|e|e|e)|⟨n1,n2,n3⟩
 · rw[e,t1,u9]
 · rw[e,t6,u2]
 · rw[e,t4,uc]
 · rw[e,t7,u3]
 · rw[e,t5,u1]
 · rw[e,ta,u6]
 · rw[e,t8,u4]
 · rw[e,tb,u7]
 · rw[e,t9,u5]
 · rw[e,t2,ua]
 · rw[e,tc,u8]
 · rw[e,t3,ub]
 · rw[td k s n1 n2 n3 hs,ud k s n2 n3 n1 hs]
theorem tau_two (h12:K1≠K2) (h23:K2≠K3) (h13:K1≠K3) (a1:s1<4) (a2:s2<4) (a3:s3<4) (q:Nat):tauS K1 K2 K3 ((s1+2)%4) ((s2+2)%4) ((s3+2)%4) q=tauS K1 K2 K3 s1 s2 s3 q:=by
 obtain⟨t1,t2,t3,t4,t5,t6,t7,t8,t9,ta,tb,tc,td⟩:=tau_at h12 h23 h13 a1 a2 a3
 obtain⟨u1,u2,u3,u4,u5,u6,u7,u8,u9,ua,ub,uc,ud⟩:=tau_at h12 h23 h13 (Nat.mod_lt (s1+2) (by decide)) (Nat.mod_lt (s2+2) (by decide)) (Nat.mod_lt (s3+2) (by decide))
 have r1:∀ s,s<4->((s+2)%4+1)%4=(s+3)%4/\((s+2)%4+2)%4=s/\((s+2)%4+3)%4=(s+1)%4:=fun s hs=>by omega
 obtain⟨p1,p2,p3⟩:=r1 s1 a1
 obtain⟨q1,q2,q3⟩:=r1 s2 a2
 obtain⟨r1',r2,r3⟩:=r1 s3 a3
 rw[r1']at u1 u2
 rw[r3]at u3 u4
 rw[p2]at u3 u4
 rw[p1]at u5 u6
 rw[p3]at u7 u8
 rw[q2]at u7 u8
 rw[q1]at u9 ua
 rw[q3]at ub uc
 rw[r2]at ub uc
 obtain⟨k,s,hs,rfl⟩:∃ k s,s<4/\q=4*k+s:=⟨q / 4,q%4,by omega,by omega⟩
 rcases QW4 (K1:=K1) (K2:=K2) (K3:=K3) k s hs a1 a2 a3 with(e|e|e|e)|(e|e|e|e)|(e|e|e|e)|⟨n1,n2,n3⟩
 · rw[e,t1,u4]
 · rw[e,t6,u7]
 · rw[e,t4,u1]
 · rw[e,t7,u6]
 · rw[e,t5,u8]
 · rw[e,ta,ub]
 · rw[e,t8,u5]
 · rw[e,tb,ua]
 · rw[e,t9,uc]
 · rw[e,t2,u3]
 · rw[e,tc,u9]
 · rw[e,t3,u2]
 · rw[td k s n1 n2 n3 hs,ud k s n1 n2 n3 hs]
end
section
variable {C D:List Cr} {lo l2:Int}
structure Tri (C:List Cr) (x y z K1 K2 K3 s1 s2 s3:Nat):Prop where
 h12:K1≠K2
 h23:K2≠K3
 h13:K1≠K3
 k1:K1<C.length
 k2:K2<C.length
 k3:K3<C.length
 a1:s1<4
 a2:s2<4
 a3:s3<4
 x1:pd C (4*K3+(s3+3)%4)=x
 x2:pd C (4*K1+s1)=al x
 y1:pd C (4*K1+(s1+3)%4)=y
 y2:pd C (4*K2+s2)=al y
 z1:pd C (4*K2+(s2+3)%4)=z
 z2:pd C (4*K3+s3)=al z
theorem Tri.slide {x y z K1 K2 K3 s1 s2 s3:Nat} (T:Tri C x y z K1 K2 K3 s1 s2 s3) (hm:mayD C lo=true):SlideD C (slLs C [x,y,z] 3) K1 K2 K3 s1 s2 s3:=slide_d hm T.h12 T.h23 T.h13 T.k1 T.k2 T.k3 T.a1 T.a2 T.a3 T.x1 T.x2 T.y1 T.y2 T.z1 T.z2
theorem Tri.rot {x y z K1 K2 K3 s1 s2 s3:Nat} (T:Tri C x y z K1 K2 K3 s1 s2 s3):Tri C y z x K2 K3 K1 s2 s3 s1:=⟨T.h23,fun e=>T.h13 e.symm,fun e=>T.h12 e.symm,T.k2,T.k3,T.k1,T.a2,T.a3,T.a1,T.y1,T.y2,T.z1,T.z2,T.x1,T.x2⟩
theorem SlideD.tri {x y z K1 K2 K3 s1 s2 s3:Nat} (T:Tri C x y z K1 K2 K3 s1 s2 s3) (H:SlideD C D K1 K2 K3 s1 s2 s3):Tri D (al x) (al y) (al z) K1 K2 K3 ((s1+2)%4) ((s2+2)%4) ((s3+2)%4):=by
 have hl:=H.len
 have m4:∀ z,z%4<4:=fun z=>Nat.mod_lt _ (by decide)
 have k1:=T.k1
 have k2:=T.k2
 have k3:=T.k3
 have a1:=T.a1
 have a2:=T.a2
 have a3:=T.a3
 obtain⟨t1,t2,t3,t4,t5,t6,t7,t8,t9,ta,tb,tc,td⟩:=tau_at T.h12 T.h23 T.h13 T.a1 T.a2 T.a3
 refine⟨T.h12,T.h23,T.h13,by omega,by omega,by omega,m4 _,m4 _,m4 _,?_,?_,?_,?_,?_,?_⟩
 · rw[show((s3+2)%4+3)%4=(s3+1)%4 by omega,H.all _ (by omega),t2,T.x2]
 · rw[H.all _ (by omega),t4,T.x1,QJ4]
 · rw[show((s1+2)%4+3)%4=(s1+1)%4 by omega,H.all _ (by omega),t6,T.y2]
 · rw[H.all _ (by omega),t8,T.y1,QJ4]
 · rw[show((s2+2)%4+3)%4=(s2+1)%4 by omega,H.all _ (by omega),ta,T.z2]
 · rw[H.all _ (by omega),tc,T.z1,QJ4]
theorem Tri.fds {x y z K1 K2 K3 s1 s2 s3:Nat} (T:Tri C x y z K1 K2 K3 s1 s2 s3) (hm:mayD C lo=true):fd C x=y/\dC C x=K1/\(1<=x/\x<=4*C.length):=by
 have e:=QK6 hm K1 s1 T.k1 T.a1
 unfold ein at e
 rw[T.x2,QJ4]at e
 obtain⟨h1,h2,h3,-,-,h6⟩:=e
 exact⟨h6.trans T.y1,h3,h1,h2⟩
theorem hgt_pd (hm:mayD C lo=true) {x j t k s:Nat} (hx1:1<=x) (hj:j<C.length) (ht:t<4) (hk:k<C.length) (hs:s<4) (e1:pd C (4*j+t)=x) (e2:pd C (4*k+s)=al x):hgt C (dA x)=t%2+s%2:=by
 have hA:1<=dA x:=by unfold dA;omega
 have hmk:mkD (dA x) (dB x)=x:=by
  unfold mkD dA dB
  by_cases h:x%2=0
  · simp[h]
    omega
  · simp[h]
    omega
 have hal:mkD (dA x) (!dB x)=al x:=rfl
 have a2:=(en_pd hm hj ht hA (e1.trans hmk.symm)).2
 have b2:=(en_pd hm hk hs hA (e2.trans hal.symm)).2
 unfold hgt
 cases hb:dB x with
 |false=>
  rw[hb]at a2 b2
  have b2':enS C (dA x) true=s:=b2
  rw[a2,b2']
  omega
 |true=>
  rw[hb]at a2 b2
  have b2':enS C (dA x) false=s:=b2
  rw[a2,b2']
theorem Tri.hgt {x y z K1 K2 K3 s1 s2 s3:Nat} (T:Tri C x y z K1 K2 K3 s1 s2 s3) (hm:mayD C lo=true):hgt C (dA x)=(s3+3)%4%2+s1%2:=hgt_pd hm (T.fds hm).2.2.1 T.k3 (Nat.mod_lt _ (by decide)) T.k1 T.a1 T.x1 T.x2
theorem dA_al {x:Nat} (h:1<=x):dA (al x)=dA x:=by
 unfold al
 exact dA_mk (by unfold dA;omega)
theorem ring_three (hm:mayD D l2=true) {x y z:Nat} (hx1:1<=x) (hx2:x<=4*D.length) (n1:x≠y) (n2:y≠z) (n3:z≠x) (e1:fd D x=y) (e2:fd D y=z) (e3:fd D z=x):∃ l,l∈QQ3 D/\(l=[x,y,z]∨l=[y,z,x]∨l=[z,x,y]):=by
 have hi:=fo_lt (C:=D) x hx1 hx2
 have hu:x∈(QQ3 D).getD (fo D x) []:=(pt_mem (QJ2 (fd D) (4*D.length) x hx1 hx2) hi).2 rfl
 obtain⟨l,hl⟩:∃ l,(QQ3 D).getD (fo D x) []=l:=⟨_,rfl⟩
 have hin:l∈QQ3 D:=by
  rw[<-hl,List.getD_eq_getElem?_getD,List.getElem?_eq_getElem hi]
  exact List.getElem_mem hi
 rw[hl]at hu
 have hc:=(QV2 (QZ0 hm) (fun a b p q r s t=>fd_inj hm a b p q r s t) (4*D.length) (Nat.le_refl _)).2.2 l hin
 have hcnt:∀ y,l.count y<=1:=fun y=>by
  by_cases hy:y∈l
  · have hr:=(QV3 (QZ0 hm) (4*D.length) (Nat.le_refl _) l hin).2.2 y hy
    have h3:(QQ3 D).flatten.count y=1:=QJ2 (fd D) (4*D.length) y hr.1 hr.2
    have h4:l.count y<=(QQ3 D).flatten.count y:=(List.sublist_flatten_of_mem hin).count_le y
    omega
  · rw[List.count_eq_zero_of_not_mem hy]
    omega
 obtain⟨i,hi2,ei⟩:=mem_atZ hu
 have next:∀ j,j<l.length->l.getD (if j+1<l.length then j+1 else 0) 0=fd D (l.getD j 0):=fun j hj=>by
  split
  · rename_i q
    exact hc.1 j q
  · have:j=l.length-1:=by omega
    rw[this]
    exact hc.2.symm
 have same:∀ j k,j<l.length->k<l.length->l.getD j 0=l.getD k 0->j=k:=fun j k hj hk e=>by
  rcases Nat.lt_trichotomy j k with q|q|q
  · exact absurd e (at_ne hcnt q hk)
  · exact q
  · exact absurd e.symm (at_ne hcnt q hj)
 have m1:=next i hi2
 rw[ei,e1]at m1
 obtain⟨j,hj⟩:∃ j,(if i+1<l.length then i+1 else 0)=j:=⟨_,rfl⟩
 have hjl:j<l.length:=by
  rw[<-hj]
  split<;>omega
 rw[hj]at m1
 have m2:=next j hjl
 rw[m1,e2]at m2
 obtain⟨k,hk⟩:∃ k,(if j+1<l.length then j+1 else 0)=k:=⟨_,rfl⟩
 have hkl:k<l.length:=by
  rw[<-hk]
  split<;>omega
 rw[hk]at m2
 have m3:=next k hkl
 rw[m2,e3]at m3
 have e4:=same _ i (by split<;>omega) hi2 (m3.trans ei.symm)
 have hij:i≠j:=fun q=>n1 (by rw[<-ei,q,m1])
 have hjk:j≠k:=fun q=>n2 (by rw[<-m1,q,m2])
 have hki:k≠i:=fun q=>n3 (by rw[<-m2,q,ei])
 refine⟨l,hin,?_⟩
 have hlen:l.length=3:=by
  split at hj<;>split at hk<;>split at e4<;>omega
 match l,hlen with
 |[a,b,c],_=>
  have hi':i=0∨i=1∨i=2:=by
   have:i<3:=hi2
   omega
  rcases hi' with rfl|rfl|rfl
  · have q1:j=1:=by rw[<-hj];rfl
    subst q1
    have q2:k=2:=by rw[<-hk];rfl
    subst q2
    have ea:a=x:=ei
    have eb:b=y:=m1
    have ec:c=z:=m2
    left
    rw[ea,eb,ec]
  · have q1:j=2:=by rw[<-hj];rfl
    subst q1
    have q2:k=0:=by rw[<-hk];rfl
    subst q2
    have ea:b=x:=ei
    have eb:c=y:=m1
    have ec:a=z:=m2
    right;right
    rw[ea,eb,ec]
  · have q1:j=0:=by rw[<-hj];rfl
    subst q1
    have q2:k=1:=by rw[<-hk];rfl
    subst q2
    have ea:c=x:=ei
    have eb:a=y:=m1
    have ec:b=z:=m2
    right;left
    rw[ea,eb,ec]
theorem slR_iff (x y z:Nat):slR C [x,y,z]=true↔((∀ q,q<3->(if hgt C (dA x)=q then 1 else 0)+(if hgt C (dA y)=q then 1 else 0)+(if hgt C (dA z)=q then 1 else 0)=1)/\dC C x≠dC C y/\dC C x≠dC C z/\dC C y≠dC C z):=by
 have hq:∀ q,hcN C [x,y,z] q 3=(if hgt C (dA x)=q then 1 else 0)+(if hgt C (dA y)=q then 1 else 0)+(if hgt C (dA z)=q then 1 else 0):=fun q=>by
  show 0+(if hgt C (dA x)=q then 1 else 0)+(if hgt C (dA y)=q then 1 else 0)+(if hgt C (dA z)=q then 1 else 0)=_
  rw[Nat.zero_add]
 unfold slR
 rw[hq,hq,hq]
 show(((((decide _&&decide _)&&decide _)&&!decide (dC C x=dC C y))&&!decide (dC C x=dC C z))&&!decide (dC C y=dC C z))=true↔_
 simp only[Bool.and_eq_true,decide_eq_true_eq,Bool.not_eq_true',decide_eq_false_iff_not]
 constructor
 · rintro⟨⟨⟨⟨⟨g0,g1⟩,g2⟩,d1⟩,d2⟩,d3⟩
   refine⟨fun q hq=>?_,d1,d2,d3⟩
   have:q=0∨q=1∨q=2:=by omega
   rcases this with rfl|rfl|rfl
   · exact g0
   · exact g1
   · exact g2
 · rintro⟨g,d1,d2,d3⟩
   exact⟨⟨⟨⟨⟨g 0 (by omega),g 1 (by omega)⟩,g 2 (by omega)⟩,d1⟩,d2⟩,d3⟩
theorem par_two (a b:Nat):((a+2)%4+3)%4%2+(b+2)%4%2=(a+3)%4%2+b%2:=by omega
theorem sum_rot {a b c:Nat} (h:a+b+c=1):b+c+a=1:=by omega
theorem slide_all (hm:mayD C lo=true) (hp:QX1 C=true) {l:List Nat} (hl:l∈QQ3 C) (h3:l.length=3) (hs:slR C l=true):
    mayD (slLs C l 3) lo=true/\QX1 (slLs C l 3)=true/\∃ l',l'∈QQ3 (slLs C l 3)/\l'.length=3/\slR (slLs C l 3) l'=true/\slLs (slLs C l 3) l' 3=C/\∀ j,j∈l'->∃ i,i∈l/\dA i=dA j:=by
 obtain⟨x,y,z,rfl,hx,hy,hz,e1,e2,e3⟩:=tri_ring hm hl h3
 rw[slR_iff]at hs
 obtain⟨hh,d1,d2,d3⟩:=hs
 have at_:∀ j,1<=j/\j<=4*C.length->dC C j<C.length/\dS C j<4/\pd C (4*dC C j+dS C j)=al j/\pd C (4*dC C j+(dS C j+3)%4)=fd C j:=fun j hj=>by
  obtain⟨g1,g2,g3⟩:=QK9 hm hj.1 hj.2
  have g4:pd C (4*dC C j+dS C j)=al j:=by
   have:=congrArg al g3
   unfold ein at this
   rw[QJ4]at this
   exact this.symm
  refine⟨g1,g2,g4,?_⟩
  rw[<-pd_sig hm _ _ g1 g2,g4,QJ4]
 obtain⟨x1,x2,x3,x4⟩:=at_ x hx
 obtain⟨y1,y2,y3,y4⟩:=at_ y hy
 obtain⟨z1,z2,z3,z4⟩:=at_ z hz
 have T:Tri C x y z (dC C x) (dC C y) (dC C z) (dS C x) (dS C y) (dS C z):=⟨d1,d3,d2,x1,y1,z1,x2,y2,z2,z4.trans e3.symm,x3,x4.trans e1.symm,y3,y4.trans e2.symm,z3⟩
 obtain⟨D,hD⟩:∃ D,slLs C [x,y,z] 3=D:=⟨_,rfl⟩
 have H:=T.slide hm
 rw[hD]at H ⊢
 have hlen:=H.len
 have hmD:mayD D lo=true:=by
  obtain⟨l1,l0,l16,-⟩:=QZ2 (QK3 hm)
  exact H.may hm (sizeB_of (by omega) l0 l16 (by omega))
 refine⟨hmD,H.planar hm hmD hp,?_⟩
 have U:=H.tri T
 have V:=U.rot
 have W:=V.rot
 obtain⟨u1,u2,u3⟩:=U.fds hmD
 obtain⟨v1,v2,v3⟩:=V.fds hmD
 obtain⟨w1,w2,w3⟩:=W.fds hmD
 have gx:=T.hgt hm
 have gy:=T.rot.hgt hm
 have gz:=T.rot.rot.hgt hm
 have fx:=U.hgt hmD
 have fy:=V.hgt hmD
 have fz:=W.hgt hmD
 rw[dA_al hx.1]at fx
 rw[dA_al hy.1]at fy
 rw[dA_al hz.1]at fz
 have hgx:hgt D (dA x)=hgt C (dA x):=by rw[fx,gx];exact par_two _ _
 have hgy:hgt D (dA y)=hgt C (dA y):=by rw[fy,gy];exact par_two _ _
 have hgz:hgt D (dA z)=hgt C (dA z):=by rw[fz,gz];exact par_two _ _
 obtain⟨l',hin,hl'⟩:=ring_three hmD u3.1 u3.2 (fun e=>d1 (by rw[<-u2,<-v2,e])) (fun e=>d3 (by rw[<-v2,<-w2,e])) (fun e=>d2 (by rw[<-u2,<-w2,e])) u1 v1 w1
 have back:∀ {D':List Cr} {k1 k2 k3 r1 r2 r3:Nat},SlideD D D' k1 k2 k3 r1 r2 r3->(∀ q,tauS k1 k2 k3 r1 r2 r3 q=tauS (dC C x) (dC C y) (dC C z) (dS C x) (dS C y) (dS C z) q)->D'=C:=fun {D' k1 k2 k3 r1 r2 r3} S ht=>by
  refine pd_same hm ⟨S.len.trans hlen,fun k=>(S.plus k).trans (H.plus k),fun k s hk hs=>by have:=S.arc k s hk hs;rw[S.len,hlen]at this;exact this⟩ fun q hq=>?_
  rw[S.all q (by omega),ht,H.at_ hq]
 have t2:=fun q=>tau_two (q:=q) T.h12 T.h23 T.h13 T.a1 T.a2 T.a3
 have r2:=fun q=>tau_rot (q:=q) U.h12 U.h23 U.h13 U.a1 U.a2 U.a3
 have r3:=fun q=>tau_rot (q:=q) V.h12 V.h23 V.h13 V.a1 V.a2 V.a3
 refine⟨l',hin,?_⟩
 rcases hl' with rfl|rfl|rfl
 · refine⟨rfl,?_,back (U.slide hmD) t2,fun j hj=>?_⟩
   · rw[slR_iff,dA_al hx.1,dA_al hy.1,dA_al hz.1,hgx,hgy,hgz,u2,v2,w2]
     exact⟨hh,d1,d2,d3⟩
   · simp only[List.mem_cons,List.not_mem_nil,or_false]at hj
     rcases hj with rfl|rfl|rfl
     · exact⟨x,by simp,(dA_al hx.1).symm⟩
     · exact⟨y,by simp,(dA_al hy.1).symm⟩
     · exact⟨z,by simp,(dA_al hz.1).symm⟩
 · refine⟨rfl,?_,back (V.slide hmD) (fun q=>(r2 q).trans (t2 q)),fun j hj=>?_⟩
   · rw[slR_iff,dA_al hx.1,dA_al hy.1,dA_al hz.1,hgx,hgy,hgz,u2,v2,w2]
     exact⟨fun q hq=>sum_rot (hh q hq),d3,fun e=>d1 e.symm,fun e=>d2 e.symm⟩
   · simp only[List.mem_cons,List.not_mem_nil,or_false]at hj
     rcases hj with rfl|rfl|rfl
     · exact⟨y,by simp,(dA_al hy.1).symm⟩
     · exact⟨z,by simp,(dA_al hz.1).symm⟩
     · exact⟨x,by simp,(dA_al hx.1).symm⟩
 · refine⟨rfl,?_,back (W.slide hmD) (fun q=>(r3 q).trans ((r2 q).trans (t2 q))),fun j hj=>?_⟩
   · rw[slR_iff,dA_al hx.1,dA_al hy.1,dA_al hz.1,hgx,hgy,hgz,u2,v2,w2]
     exact⟨fun q hq=>sum_rot (sum_rot (hh q hq)),fun e=>d2 e.symm,fun e=>d3 e.symm,d1⟩
   · simp only[List.mem_cons,List.not_mem_nil,or_false]at hj
     rcases hj with rfl|rfl|rfl
     · exact⟨z,by simp,(dA_al hz.1).symm⟩
     · exact⟨x,by simp,(dA_al hx.1).symm⟩
     · exact⟨y,by simp,(dA_al hy.1).symm⟩
end
end Go.Proofs.Ytagaajlbkfkaiaa
