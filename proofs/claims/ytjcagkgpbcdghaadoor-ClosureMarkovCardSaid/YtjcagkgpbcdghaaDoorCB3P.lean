/- Several texts of the proof, one behind the other. -/
import Derived.Test.YtjcagkgpbcdghaaDoorCB2
import Derived.Test.YtjcagkgpbcdghaaDoorC15P
import Derived.Test.YtjcagkgpbcdghaaDoorCB0P
import Derived.Test.YtjcagkgpbcdghaaDoorAS3P
/- Braids closed: all that is known of its arcs; it may be a diagram. -/
namespace Go.Proofs.YtjcagkgpbcdghaaDoor
theorem Xd9 {q r m:Nat} (hq:q<m) (hr:r<m) (e:(q+1)%m=(r+1)%m):q=r:=by
 by_cases a:q+1<m
 · rw[Nat.mod_eq_of_lt a]at e
   by_cases b:r+1<m
   · rw[Nat.mod_eq_of_lt b]at e;omega
   · rw[show r+1=m by omega,Nat.mod_self]at e;omega
 · rw[show q+1=m by omega,Nat.mod_self]at e
   by_cases b:r+1<m
   · rw[Nat.mod_eq_of_lt b]at e;omega
   · omega
theorem Zw8 {p i s:Nat} (hs:s<2) (h:p=i+s):plc p i=i+(1-s):=by
 have c:s=0∨s=1:=by omega
 unfold plc
 rcases c with rfl|rfl
 · rw[if_pos (show p=i by omega)]
 · rw[if_neg (by omega),if_pos h];omega
section
variable {n:Nat} {l:List Int} (hw:∀ j,j<l.length->1<=(l.getD j 0).natAbs/\(l.getD j 0).natAbs<n) (h2:2<=n) (h5:n<=5)
include hw h2 h5
theorem Zf6 {p k s p' j t : Nat} (hp1 : 1 ≤ p) (hp2 : p ≤ n) (hk : k < l.length) (hs : s < 2) (e : pl l p k = (l.getD k 0).natAbs + s) (hp1' : 1 ≤ p') (hp2' : p' ≤ n) (hj : j < l.length) (ht : t < 2) (e' : pl l p' j = (l.getD j 0).natAbs + t) :
    (aNo l (rgs (fun p=>pl l p l.length) n).2 p k=aNo l (rgs (fun p=>pl l p l.length) n).2 p' j->k=j/\s=t)/\(aNo l (rgs (fun p=>pl l p l.length) n).2 p (k+1)=aNo l (rgs (fun p=>pl l p l.length) n).2 p' (j+1)->k=j/\s=t):=by
 have hn:=Qy9 hw h2 h5
 obtain⟨b1,b2⟩:=Qf6 hw h2 h5 hp1 hp2 hk hs e
 obtain⟨c1,c2⟩:=Qf6 hw h2 h5 hp1' hp2' hj ht e'
 obtain⟨r1,-,-,-⟩:=QH4 hw h2 h5
 obtain⟨a1,-⟩:=r1 (p - 1) (by omega)
 rw[show p-1+1=p by omega]at a1
 obtain⟨d1,-⟩:=r1 (p' - 1) (by omega)
 rw[show p'-1+1=p' by omega]at d1
 unfold aNo
 rw[Qy7 l p k hs e,Qy7 l p' j ht e',List.length_append,List.length_append,List.length_singleton,List.length_singleton]
 generalize (rgs (fun p=>pl l p l.length) n).2=L at*
 generalize hq:(wk l ((L.getD (rgJ L p) []).take (rgI L p))).length+(cl l p k).length=q at*
 generalize hq':(wk l ((L.getD (rgJ L p') []).take (rgI L p'))).length+(cl l p' j).length=q' at*
 rw[<-Nat.add_assoc,hq,<-Nat.add_assoc,hq']
 have w1:=XF8 l L a1 b1
 have w2:=XF8 l L d1 c1
 have same:(cF l (L.take (rgJ L p))).2.1+q=(cF l (L.take (rgJ L p'))).2.1+q'->k=j/\s=t:=fun h=>by
  have x1:=w1.2
  rw[h,w2.2,b2,c2]at x1
  have:=Prod.mk.inj x1
  omega
 constructor
 · intro h
   rw[Nat.mod_eq_of_lt b1,Nat.mod_eq_of_lt c1]at h
   exact same (by omega)
 · intro h
   have m1:=Nat.mod_lt (q+1) (show 0<(wk l (L.getD (rgJ L p) [])).length by omega)
   have m2:=Nat.mod_lt (q'+1) (show 0<(wk l (L.getD (rgJ L p') [])).length by omega)
   rcases Nat.lt_trichotomy (rgJ L p) (rgJ L p') with g|g|g
   · have:=Qv7 l L g (Nat.le_of_lt d1)
     omega
   · rw[g]at h m1 b1 same
     have:=Xd9 b1 c1 (by omega)
     exact same (by omega)
   · have:=Qv7 l L g (Nat.le_of_lt a1)
     omega
theorem XH2:Clo l n (QV6 l n) (aL n l):=by
 have tab:∀ k,k<l.length->∀ s,s<2->(cF l (rgs (fun p=>pl l p l.length) n).2).1 (4*k+s)=(aL n l ((l.getD k 0).natAbs+s) k:Int)/\(cF l (rgs (fun p=>pl l p l.length) n).2).1 (4*k+2+s)=(aL n l ((l.getD k 0).natAbs+(1-s)) (k+1):Int):=fun k hk s hs=>by
  have hx:=hw k hk
  obtain⟨g1,g2,g3⟩:=Xz3 hw (x:=(l.getD k 0).natAbs+s) (k:=k) (by omega) (by omega) (by omega)
  obtain⟨t1,t2⟩:=KB3 hw h2 h5 g1 g2 hk hs g3
  have e1:pl l (bgP n l ((l.getD k 0).natAbs+s) k) (k+1)=(l.getD k 0).natAbs+(1-s):=Zw8 hs g3
  have e2:=ZB5 hw (k:=k+1) (by omega) g1 g2
  rw[e1]at e2
  unfold aL
  rw[e2]
  exact⟨t1,t2⟩
 have out:∀ k,k<l.length->∀ s,s<2->∃ p,1<=p/\p<=n/\pl l p k=(l.getD k 0).natAbs+(1-s)/\aL n l ((l.getD k 0).natAbs+s) (k+1)=aNo l (rgs (fun p=>pl l p l.length) n).2 p (k+1):=fun k hk s hs=>by
  have hx:=hw k hk
  obtain⟨g1,g2,g3⟩:=Xz3 hw (x:=(l.getD k 0).natAbs+(1 - s)) (k:=k) (by omega) (by omega) (by omega)
  have e1:pl l (bgP n l ((l.getD k 0).natAbs+(1-s)) k) (k+1)=(l.getD k 0).natAbs+(1-(1-s)):=Zw8 (by omega) g3
  rw[show 1-(1-s)=s by omega]at e1
  have e2:=ZB5 hw (k:=k+1) (by omega) g1 g2
  rw[e1]at e2
  refine⟨_,g1,g2,g3,?_⟩
  unfold aL
  rw[e2]
 have inn:∀ k,k<l.length->∀ s,s<2->∃ p,1<=p/\p<=n/\pl l p k=(l.getD k 0).natAbs+s/\aL n l ((l.getD k 0).natAbs+s) k=aNo l (rgs (fun p=>pl l p l.length) n).2 p k:=fun k hk s hs=>by
  have hx:=hw k hk
  obtain⟨g1,g2,g3⟩:=Xz3 hw (x:=(l.getD k 0).natAbs+s) (k:=k) (by omega) (by omega) (by omega)
  exact⟨_,g1,g2,g3,rfl⟩
 refine⟨QU7 l n,hw,fun k hk=>?_,fun k hk x h1 h3 e1 e2=>?_,fun x h1 h3=>?_,fun k hk s hs=>?_,fun k hk s hs=>?_,fun k s j t hk hs hj ht e=>?_,fun k s j t hk hs hj ht e=>?_⟩
 · have e : (QV6 l n).getD k Cr.none = clX l (cF l (rgs (fun p => pl l p l.length) n).2).1 k := by
     unfold QV6 clC
     rw[List.getD_eq_getElem?_getD,List.getElem?_map,List.getElem?_range hk];rfl
   rw[e]
   unfold clX
   obtain⟨t1,t2⟩:=tab k hk 0 (by omega)
   obtain⟨t3,t4⟩:=tab k hk 1 (by omega)
   rw[show 4*k+2+0=4*k+2 by omega,show 1-0=1 by omega]at t2
   rw[show 4*k+2+1=4*k+3 by omega,show 1-1=0 by omega]at t4
   simp only[Nat.add_zero]at t1 t4
   rw[t1,t2,t3,t4]
 · obtain⟨g1,g2,g3⟩:=Xz3 hw (x:=x) (k:=k) (by omega) h1 h3
   have e3:pl l (bgP n l x k) (k+1)=x:=by
    show plc (pl l (bgP n l x k) k) _=x
    rw[g3]
    unfold plc
    rw[if_neg e1,if_neg e2]
   have e4:=ZB5 hw (k:=k+1) (by omega) g1 g2
   rw[e3]at e4
   unfold aL
   rw[e4]
   unfold aNo
   rw[ZY3 l _ k (by rw[g3];exact e1) (by rw[g3];exact e2)]
 · obtain⟨g1,g2,g3⟩:=Xz3 hw (x:=x) (k:=l.length) (Nat.le_refl _) h1 h3
   have e0:bgP n l x 0=x:=ZB5 hw (k:=0) (p:=x) (Nat.zero_le _) h1 h3
   unfold aL
   rw[e0,Kz0 hw h2 h5 g1 g2,g3]
 · obtain⟨p,a,b,c,d⟩:=inn k hk s hs
   rw[d];exact Zf5 hw h2 h5 a b hk hs c k
 · obtain⟨p,a,b,c,d⟩:=out k hk s hs
   rw[d];exact Zf5 hw h2 h5 a b hk (by omega) c (k+1)
 · obtain⟨p,a,b,c,d⟩:=inn k hk s hs
   obtain⟨p',a',b',c',d'⟩:=inn j hj t ht
   rw[d,d']at e
   exact(Zf6 hw h2 h5 a b hk hs c a' b' hj ht c').1 e
 · obtain⟨p,a,b,c,d⟩:=out k hk s hs
   obtain⟨p',a',b',c',d'⟩:=out j hj t ht
   rw[d,d']at e
   have:=(Zf6 hw h2 h5 a b hk (show 1-s<2 by omega) c a' b' hj (show 1-t<2 by omega) c').2 e
   omega
end
def sdP (l:List Int) (k s:Nat):Nat×Nat:=
 if 0<l.getD k 0 then(if s=0 then((l.getD k 0).natAbs+1,k) else if s=1 then((l.getD k 0).natAbs+1,k+1) else if s=2 then((l.getD k 0).natAbs,k+1) else((l.getD k 0).natAbs,k))
 else(if s=0 then((l.getD k 0).natAbs,k) else if s=1 then((l.getD k 0).natAbs+1,k) else if s=2 then((l.getD k 0).natAbs+1,k+1) else((l.getD k 0).natAbs,k+1))
theorem Qj7 {C : List Cr} {A : Nat → Nat → Nat} {l : List Int} {n : Nat} (h : Clo l n C A) {k s : Nat} (hk : k < l.length) (hs : s < 4) : (C.getD k Cr.none).arc s = (A (sdP l k s).1 (sdP l k s).2 : Int) ∧
    ∃ z,z<2/\(sdP l k s).1=(l.getD k 0).natAbs+z/\(((C.getD k Cr.none).comes s=true/\(sdP l k s).2=k)∨((C.getD k Cr.none).comes s=false/\(sdP l k s).2=k+1)):=by
 have c:s=0∨s=1∨s=2∨s=3:=by omega
 rw[h.at_ k hk]
 unfold sdP
 by_cases q:0<l.getD k 0
 · rw[if_pos q,if_pos q]
   rcases c with rfl|rfl|rfl|rfl
   · exact⟨rfl,1,by decide,rfl,Or.inl ⟨rfl,rfl⟩⟩
   · exact⟨rfl,1,by decide,rfl,Or.inr ⟨rfl,rfl⟩⟩
   · exact⟨rfl,0,by decide,rfl,Or.inr ⟨rfl,rfl⟩⟩
   · exact⟨rfl,0,by decide,rfl,Or.inl ⟨rfl,rfl⟩⟩
 · rw[if_neg q,if_neg q]
   rcases c with rfl|rfl|rfl|rfl
   · exact⟨rfl,0,by decide,rfl,Or.inl ⟨rfl,rfl⟩⟩
   · exact⟨rfl,1,by decide,rfl,Or.inl ⟨rfl,rfl⟩⟩
   · exact⟨rfl,1,by decide,rfl,Or.inr ⟨rfl,rfl⟩⟩
   · exact⟨rfl,0,by decide,rfl,Or.inr ⟨rfl,rfl⟩⟩
theorem Kf7 {l:List Int} {k s t:Nat} (hs:s<4) (ht:t<4) (e:sdP l k s=sdP l k t):s=t:=by
 have c:s=0∨s=1∨s=2∨s=3:=by omega
 have d:t=0∨t=1∨t=2∨t=3:=by omega
 unfold sdP at e
 split at e<;>(rcases c with rfl|rfl|rfl|rfl<;>rcases d with rfl|rfl|rfl|rfl<;>simp at e<;>first|rfl|omega)
theorem JJ8 {C:List Cr} {A:Nat->Nat->Nat} {l:List Int} {n:Nat} (h:Clo l n C A) {loops:Int} (hs:QF7 C loops=true):QX3 C loops=true:=by
 have hl:=h.len
 refine JQ7 hs (fun k s hk hs=>?_) fun i k j t hi hk hj ht ha hc=>?_
 · obtain⟨e,z,hz,e1,e2⟩:=Qj7 h (k:=k) (s:=s) (by omega) hs
   rw[e,hl]
   rcases e2 with⟨-,e2⟩|⟨-,e2⟩<;>rw[e1,e2]
   · have:=h.rng k (by omega) z hz;omega
   · have:=h.rngO k (by omega) z hz;omega
 · obtain⟨e,z,hz,e1,e2⟩:=Qj7 h (k:=i) (s:=k) (by omega) hk
   obtain⟨f,y,hy,f1,f2⟩:=Qj7 h (k:=j) (s:=t) (by omega) ht
   rw[e,f,e1,f1]at ha
   have key:j=i/\y=z:=by
    rcases e2 with⟨c1,e2⟩|⟨c1,e2⟩<;>rcases f2 with⟨d1,f2⟩|⟨d1,f2⟩
    · rw[e2,f2]at ha
      exact h.inj j y i z (by omega) hy (by omega) hz (by omega)
    · rw[c1,d1]at hc;cases hc
    · rw[c1,d1]at hc;cases hc
    · rw[e2,f2]at ha
      exact h.injO j y i z (by omega) hy (by omega) hz (by omega)
   obtain⟨rfl,rfl⟩:=key
   refine⟨rfl,Kf7 (l:=l) (k:=j) ht hk (Prod.ext (by rw[f1,e1]) ?_)⟩
   rcases e2 with⟨c1,e2⟩|⟨c1,e2⟩<;>rcases f2 with⟨d1,f2⟩|⟨d1,f2⟩
   · rw[e2,f2]
   · rw[c1,d1]at hc;cases hc
   · rw[c1,d1]at hc;cases hc
   · rw[e2,f2]
end Go.Proofs.YtjcagkgpbcdghaaDoor
/- Braids closed: from any level a strand comes to a crossing; the regions beside strands; pieces. -/
namespace Go.Proofs.YtjcagkgpbcdghaaDoor
def Tch (l:List Int) (x k:Nat):Prop:=x=(l.getD k 0).natAbs∨x=(l.getD k 0).natAbs+1
def JU4 {α:Type} (l:List Int) (x:Nat) (F:Nat->α):Prop:=(∀ j,j<l.length->¬ Tch l x j->F (j+1)=F j)/\F l.length=F 0
theorem Qb8 (l:List Int) (x:Nat):∀ d k,k+d=l.length->(∃ j,k<=j/\j<l.length/\Tch l x j/\∀ {α:Type} (F:Nat->α),(∀ i,i<l.length->¬ Tch l x i->F (i+1)=F i)->F k=F j)∨((∀ j,k<=j->j<l.length->¬ Tch l x j)/\∀ {α:Type} (F:Nat->α),(∀ i,i<l.length->¬ Tch l x i->F (i+1)=F i)->F k=F l.length)
 |0,k,h=>Or.inr ⟨fun j h1 h2=>by omega,fun F _=>by rw[show k=l.length by omega]⟩
 |d+1,k,h=>by
  by_cases t:Tch l x k
  · exact Or.inl ⟨k,Nat.le_refl _,by omega,t,fun F _=>rfl⟩
  · rcases Qb8 l x d (k+1) (by omega) with⟨j,h1,h2,h3,h4⟩|⟨h1,h2⟩
    · exact Or.inl ⟨j,by omega,h2,h3,fun F hF=>by rw[<-h4 F hF,hF k (by omega) t]⟩
    · refine Or.inr ⟨fun j g1 g2=>?_,fun F hF=>by rw[<-h2 F hF,hF k (by omega) t]⟩
      by_cases e:j=k
      · rw[e];exact t
      · exact h1 j (by omega) g2
theorem reach {l:List Int} {x:Nat} (hu:∃ k,k<l.length/\Tch l x k) {k:Nat} (hk:k<=l.length):∃ j,j<l.length/\Tch l x j/\∀ {α:Type} (F:Nat->α),JU4 l x F->F k=F j:=by
 rcases Qb8 l x (l.length - k) k (by omega) with⟨j,-,h2,h3,h4⟩|⟨-,h2⟩
 · exact⟨j,h2,h3,fun F hF=>h4 F hF.1⟩
 · rcases Qb8 l x l.length 0 (by omega) with⟨j,-,g2,g3,g4⟩|⟨g1,-⟩
   · exact⟨j,g2,g3,fun F hF=>by rw[h2 F hF.1,hF.2,g4 F hF.1]⟩
   · obtain⟨i,i1,i2⟩:=hu
     exact absurd i2 (g1 i (Nat.zero_le _) i1)
def lk (l:List Int) (c:Nat):Nat->Option Nat
 |0=>none
 |k+1=>if(l.getD k 0).natAbs=c then some k else lk l c k
theorem Zu9 (l:List Int) (c:Nat):∀ k j,lk l c k=some j->j<k/\(l.getD j 0).natAbs=c
 |0,_,h=>by cases h
 |k+1,j,h=>by
  unfold lk at h
  split at h
  · rename_i e
    obtain rfl:=Option.some.inj h
    exact⟨Nat.lt_succ_self _,e⟩
  · have:=Zu9 l c k j h
    exact⟨by omega,this.2⟩
theorem Zy0 (l:List Int) (c:Nat):∀ k,lk l c k=none->∀ j,j<k->(l.getD j 0).natAbs≠c
 |0,_,_,hj=>by omega
 |k+1,h,j,hj=>by
  unfold lk at h
  split at h
  · cases h
  · rename_i e
    by_cases q:j=k
    · rw[q];exact e
    · exact Zy0 l c k h j (by omega)
def Rg (l:List Int) (c k z:Nat):Nat:=match lk l c k with
 |some j=>j
 |none=>match lk l c l.length with
  |some j=>j
  |none=>l.length+2*c+z
theorem Xd2 (l:List Int) {c k:Nat} (z:Nat) (h:(l.getD k 0).natAbs≠c):Rg l c (k+1) z=Rg l c k z:=by
 unfold Rg
 rw[show lk l c (k+1)=if(l.getD k 0).natAbs=c then some k else lk l c k from rfl,if_neg h]
theorem Kj1 (l:List Int) {c k:Nat} (z:Nat) (h:(l.getD k 0).natAbs=c):Rg l c (k+1) z=k:=by
 unfold Rg
 rw[show lk l c (k+1)=if(l.getD k 0).natAbs=c then some k else lk l c k from rfl,if_pos h]
theorem KF5 (l:List Int) (c z:Nat):Rg l c l.length z=Rg l c 0 z:=by
 unfold Rg
 rw[show lk l c 0=none from rfl]
 cases lk l c l.length<;>rfl
theorem Kg8 (l:List Int) {c k j:Nat} (z y:Nat) (hj:j<l.length) (h:(l.getD j 0).natAbs=c):Rg l c k z=Rg l c k y:=by
 unfold Rg
 cases lk l c k with
 |some _=>rfl
 |none=>
  cases e:lk l c l.length with
  |some _=>rfl
  |none=>exact absurd h (Zy0 l c l.length e j hj)
theorem Zw6 (l:List Int) {c:Nat} (k z:Nat) (hk:k<=l.length) (h:∀ j,j<l.length->(l.getD j 0).natAbs≠c):Rg l c k z=l.length+2*c+z:=by
 have e:∀ k,k<=l.length->lk l c k=none:=fun k hk=>by
  cases e:lk l c k with
  |none=>rfl
  |some j=>
   have:=Zu9 l c k j e
   exact absurd this.2 (h j (by omega))
 unfold Rg
 rw[e k hk,e l.length (Nat.le_refl _)]
theorem Zw7 (l:List Int) {c x:Nat} (z:Nat) (h:c=x∨c+1=x):JU4 l x fun k=>Rg l c k z:=
 ⟨fun j _ ht=>Xd2 l z fun e=>ht (by unfold Tch;omega),KF5 l c z⟩
def lbC (C:List Cr) (l:List Int) (k s:Nat):Nat:=if(C.getD k Cr.none).comes s=true then Rg l (sdP l k s).1 (sdP l k s).2 1 else Rg l ((sdP l k s).1-1) (sdP l k s).2 0
section
variable {C:List Cr} {A:Nat->Nat->Nat} {l:List Int} {n:Nat} (h:Clo l n C A)
include h
theorem Jx4 {k s:Nat} (hk:k<l.length) (hs:s<4):lbC C l k ((s+3)%4)=if(C.getD k Cr.none).comes s=true then Rg l ((sdP l k s).1-1) (sdP l k s).2 0 else Rg l (sdP l k s).1 (sdP l k s).2 1:=by
 have hx:=h.lets k hk
 have c:s=0∨s=1∨s=2∨s=3:=by omega
 have n1:∀ z,Rg l ((l.getD k 0).natAbs+1) (k+1) z=Rg l ((l.getD k 0).natAbs+1) k z:=fun z=>Xd2 l z (by omega)
 have n2:∀ z,Rg l ((l.getD k 0).natAbs-1) (k+1) z=Rg l ((l.getD k 0).natAbs-1) k z:=fun z=>Xd2 l z (by omega)
 have u1:∀ j z y,Rg l (l.getD k 0).natAbs j z=Rg l (l.getD k 0).natAbs j y:=fun j z y=>Kg8 l z y hk rfl
 unfold lbC sdP
 rw[h.at_ k hk]
 by_cases q:0<l.getD k 0
 · simp only[if_pos q]
   rcases c with rfl|rfl|rfl|rfl
   · exact u1 _ _ _
   · exact(n1 1).symm
   · exact u1 _ _ _
   · exact n2 0
 · simp only[if_neg q]
   rcases c with rfl|rfl|rfl|rfl
   · exact n2 0
   · exact u1 _ _ _
   · exact(n1 1).symm
   · exact u1 _ _ _
theorem Clo.stay {x:Nat} (h1:1<=x) (h2:x<=n):JU4 l x (A x):=⟨fun j hj ht=>h.still j hj x h1 h2 (fun e=>ht (Or.inl e)) (fun e=>ht (Or.inr e)),h.ring x h1 h2⟩
theorem Clo.along {k j s t:Nat} (hk:k<l.length) (hs:s<2) (hj:j<l.length) (ht:t<2) (e:A ((l.getD k 0).natAbs+s) (k+1)=A ((l.getD j 0).natAbs+t) j):(l.getD k 0).natAbs+s=(l.getD j 0).natAbs+t/\∀ {α:Type} (F:Nat->α),JU4 l ((l.getD k 0).natAbs+s) F->F (k+1)=F j:=by
 have hx:=h.lets k hk
 have hT:Tch l ((l.getD k 0).natAbs+s) k:=by unfold Tch;omega
 obtain⟨i,hi,hti,hF⟩:=reach ⟨k,hk,hT⟩ (k:=k+1) (by omega)
 have e1:=hF _ (h.stay (x:=(l.getD k 0).natAbs+s) (by omega) (by omega))
 obtain⟨r,hr,e2⟩:∃ r,r<2/\(l.getD k 0).natAbs+s=(l.getD i 0).natAbs+r:=by
  rcases hti with q|q
  · exact⟨0,by decide,q⟩
  · exact⟨1,by decide,q⟩
 rw[e,e2]at e1
 obtain⟨rfl,rfl⟩:=h.inj j t i r hj ht hi hr e1
 exact⟨e2,fun F hS=>hF F hS⟩
end
end Go.Proofs.YtjcagkgpbcdghaaDoor
/- Braids closed: planar. -/
namespace Go.Proofs.YtjcagkgpbcdghaaDoor
theorem ZC5 {f:Nat->Nat} {M K:Nat} (h:Bij f M) (F:Nat->Nat) (hF:∀ x,x<M->F (f x)=F x) {P:Nat->Bool} (hP:∀ v,v<K->P v=true->∃ x,x<M/\F x=v):(List.range K).countP P<=cyA f M:=by
 have hL:=QG3 h.lt
 have hc:∀ x y,Con (eds f M) x y->F x=F y:=fun x y hxy=>hxy (fun z=>F x=F z) (closed_eds.2 fun i hi=>by rw[hF i hi]) rfl
 let g:Nat->Nat:=fun v=>if q:∃ x,x<M/\F x=v then(cyW f M).getD (Classical.choose q) 0 else 0
 have hg:∀ v,v<K->P v=true->∃ x,x<M/\F x=v/\g v=(cyW f M).getD x 0:=fun v hv hp=>by
  have q:=hP v hv hp
  refine⟨Classical.choose q,(Classical.choose_spec q).1,(Classical.choose_spec q).2,?_⟩
  show(if q:∃ x,x<M/\F x=v then(cyW f M).getD (Classical.choose q) 0 else 0)=_
  rw[dif_pos q]
 unfold cyA cyN
 rw[Qy1]
 refine Zy5 g (fun v hv hp=>?_) (fun u v hu hv pu pv e=>?_)
 · obtain⟨x,h1,-,h3⟩:=hg v hv hp
   rw[h3]
   refine⟨hL.lt h1,?_⟩
   rw[Bool.and_true]
   exact decide_eq_true (hL.root h1)
 · obtain⟨x,h1,h2,h3⟩:=hg u hu pu
   obtain⟨y,g1,g2,g3⟩:=hg v hv pv
   rw[h3,g3]at e
   rw[<-h2,<-g2]
   exact hc x y ((hL.same h1 g1).1 e)
def XW1 (l:List Int) (c:Nat):Bool:=(List.range l.length).any fun k=>decide ((l.getD k 0).natAbs=c)
theorem colU_iff {l:List Int} {c:Nat}:XW1 l c=true↔∃ k,k<l.length/\(l.getD k 0).natAbs=c:=by
 unfold XW1
 rw[List.any_eq_true]
 constructor
 · rintro⟨k,hk,e⟩
   exact⟨k,List.mem_range.1 hk,of_decide_eq_true e⟩
 · rintro⟨k,hk,e⟩
   exact⟨k,List.mem_range.2 hk,decide_eq_true e⟩
def lfU (l:List Int) (c:Nat):Bool:=!XW1 l c&&XW1 l (c+1)
def rtU (l:List Int) (c:Nat):Bool:=!XW1 l c&&(decide (1<=c)&&XW1 l (c-1))
theorem JY5 (l:List Int) (h0:XW1 l 0=false):∀ c,(List.range c).countP (lfU l)=(List.range (c+1)).countP (rtU l)+if XW1 l c=true then 1 else 0
 |0=>by
  rw[h0]
  show 0=(List.range 1).countP (rtU l)+0
  rw[show List.range 1=[0] from rfl,List.countP_singleton]
  unfold rtU
  simp
 |c+1=>by
  have ih:=JY5 l h0 c
  rw[List.range_succ,List.countP_append,List.countP_singleton,ih,List.range_succ (n:=c+1),List.countP_append,List.countP_singleton]
  unfold lfU rtU
  rw[show c+1-1=c by omega,decide_eq_true (show 1<=c+1 by omega)]
  cases XW1 l c<;>cases XW1 l (c+1)<;>simp
def sb (l:List Int):Nat->Nat
 |0=>0
 |c+1=>if XW1 l c=true then sb l c else c
theorem JU8 (l:List Int) (h0:XW1 l 0=false):∀ c,XW1 l c=true->sb l c<c/\lfU l (sb l c)=true
 |0,h=>by rw[h0]at h;cases h
 |c+1,h=>by
  unfold sb
  by_cases q:XW1 l c=true
  · rw[if_pos q]
    have:=JU8 l h0 c q
    exact⟨by omega,this.2⟩
  · rw[if_neg q]
    refine⟨Nat.lt_succ_self _,?_⟩
    unfold lfU
    rw[h]
    cases hq:XW1 l c with
    |true=>exact absurd hq q
    |false=>rfl
def lbP (l:List Int) (v:Nat):Bool:=if v<l.length then true else if(v-l.length)%2=0 then lfU l ((v-l.length) / 2) else rtU l ((v-l.length) / 2)
theorem Zy1 (l:List Int):∀ c,(List.range (l.length+2*c)).countP (lbP l)=l.length+(List.range c).countP (lfU l)+(List.range c).countP (rtU l)
 |0=>by
  show(List.range l.length).countP (lbP l)=l.length+0+0
  have:(List.range l.length).countP (lbP l)=(List.range l.length).length:=List.countP_eq_length.2 fun v hv=>by
   unfold lbP
   rw[if_pos (List.mem_range.1 hv)]
  rw[this,List.length_range]
  rfl
 |c+1=>by
  have ih:=Zy1 l c
  have e1:lbP l (l.length+2*c)=lfU l c:=by
   unfold lbP
   rw[if_neg (by omega),if_pos (by omega)]
   congr 1;omega
  have e2:lbP l (l.length+2*c+1)=rtU l c:=by
   unfold lbP
   rw[if_neg (by omega),if_neg (by omega)]
   congr 1;omega
  rw[show l.length+2*(c+1)=l.length+2*c+1+1 by omega,List.range_succ,List.range_succ,List.countP_append,List.countP_append,List.countP_singleton,List.countP_singleton,ih,e1,e2,List.range_succ,List.countP_append,List.countP_append,List.countP_singleton,List.countP_singleton]
  omega
section
variable {C:List Cr} {A:Nat->Nat->Nat} {l:List Int} {n:Nat} (h:Clo l n C A) {loops:Int} (hm:QX3 C loops=true)
include h hm
theorem Jx5 {j:Nat} (h1:1<=j) (h2:j<=4*C.length):lbC C l (lvC C (fd C j)) (enS C (dA (fd C j)) (dB (fd C j)))=lbC C l (lvC C j) (enS C (dA j) (dB j)):=by
 have hl:=h.len
 obtain⟨-,d2,d3⟩:=XF6 hm j h1 h2
 have e1:fd C j=pd C (4*dC C j+(dS C j+3)%4):=by
  rw[(Qj5 hm (dC C j) ((dS C j+3)%4) d2 (Nat.mod_lt _ (by decide))).1]
  rfl
 obtain⟨-,p2,p3,-,-⟩:=Qj5 hm (dC C j) ((dS C j+3)%4) d2 (Nat.mod_lt _ (by decide))
 rw[e1,p2,p3,Jx4 h (by omega) d3]
 have ha:=Qx7 h1 h2
 obtain⟨-,a2,a3,a4,a5⟩:=QJ3 hm (dA j) (dB j) ha.1 ha.2
 obtain⟨-,b2,b3,b4,b5⟩:=QJ3 hm (dA j) (!dB j) ha.1 ha.2
 change dC C j<C.length at b2
 change dS C j<4 at b3
 change (C.getD (dC C j) Cr.none).arc (dS C j)=(dA j:Int) at b4
 change (C.getD (dC C j) Cr.none).comes (dS C j)=!dB j at b5
 change lvC C j<C.length at a2
 change (C.getD (lvC C j) Cr.none).arc (enS C (dA j) (dB j))=(dA j:Int) at a4
 change (C.getD (lvC C j) Cr.none).comes (enS C (dA j) (dB j))=dB j at a5
 generalize dC C j=k at*
 generalize dS C j=s at*
 generalize lvC C j=k2 at*
 generalize enS C (dA j) (dB j)=s2 at*
 obtain⟨f1,z,hz,f2,f3⟩:=Qj7 h (k:=k) (s:=s) (by omega) b3
 obtain⟨g1,y,hy,g2,g3⟩:=Qj7 h (k:=k2) (s:=s2) (by omega) a3
 have eA:A (sdP l k s).1 (sdP l k s).2=A (sdP l k2 s2).1 (sdP l k2 s2).2:=by omega
 unfold lbC
 rw[a5,b5]
 rw[a5]at g3
 rw[b5]at f3
 cases hb:dB j
 · rw[hb]at f3 g3
   have f4:(sdP l k s).2=k:=f3.elim (fun q=>q.2) (fun q=>by cases q.1)
   have g4:(sdP l k2 s2).2=k2+1:=g3.elim (fun q=>by cases q.1) (fun q=>q.2)
   rw[f4,g4]at eA ⊢
   rw[f2,g2]at eA ⊢
   obtain⟨q1,q2⟩:=h.along (k:=k2) (j:=k) (by omega) hy (by omega) hz eA.symm
   show Rg l ((l.getD k 0).natAbs+z-1) k 0=Rg l ((l.getD k2 0).natAbs+y-1) (k2+1) 0
   rw[<-q1]
   have hx:=h.lets k2 (by omega)
   exact(q2 _ (Zw7 l 0 (by omega))).symm
 · rw[hb]at f3 g3
   have f4:(sdP l k s).2=k+1:=f3.elim (fun q=>by cases q.1) (fun q=>q.2)
   have g4:(sdP l k2 s2).2=k2:=g3.elim (fun q=>q.2) (fun q=>by cases q.1)
   rw[f4,g4]at eA ⊢
   rw[f2,g2]at eA ⊢
   obtain⟨q1,q2⟩:=h.along (k:=k) (j:=k2) (by omega) hz (by omega) hy eA
   show Rg l ((l.getD k 0).natAbs+z) (k+1) 1=Rg l ((l.getD k2 0).natAbs+y) k2 1
   rw[<-q1]
   exact q2 _ (Zw7 l 1 (by omega))
theorem XZ5 {S:Nat->Prop} (hS:Closed (Qz0 C) S) {x:Nat} (h1:1<=x) (h2:x<=n) {j:Nat} (hj:j<l.length) (hT:Tch l x j):S j↔S (enC C (A x 0) true):=by
 have hl:=h.len
 have side:∀ i,i<l.length->∀ s,s<4->(S i↔S (enC C (A (sdP l i s).1 (sdP l i s).2) true)):=fun i hi s hs=>by
  obtain⟨g1,g2,g3⟩:=Qd3 hm i s (by omega) hs
  obtain⟨f1,-⟩:=Qj7 h hi hs
  rw[f1,Int.toNat_natCast]at g1 g2 g3
  have hcl:=hS _ (XA2 (C:=C) g1 g2)
  cases hc:(C.getD i Cr.none).comes s
  · rw[hc]at g3
    rw[hcl,g3]
  · rw[hc]at g3
    rw[g3]
 have at2:∀ i,i<l.length->∀ z,z<2->∀ k,(k=i∨k=i+1)->∃ s,s<4/\sdP l i s=((l.getD i 0).natAbs+z,k):=fun i hi z hz k hk=>by
  unfold sdP
  have cz:z=0∨z=1:=by omega
  by_cases q:0<l.getD i 0
  · simp only[if_pos q]
    rcases cz with rfl|rfl<;>rcases hk with rfl|rfl
    · exact⟨3,by decide,rfl⟩
    · exact⟨2,by decide,rfl⟩
    · exact⟨0,by decide,rfl⟩
    · exact⟨1,by decide,rfl⟩
  · simp only[if_neg q]
    rcases cz with rfl|rfl<;>rcases hk with rfl|rfl
    · exact⟨0,by decide,rfl⟩
    · exact⟨3,by decide,rfl⟩
    · exact⟨1,by decide,rfl⟩
    · exact⟨2,by decide,rfl⟩
 have own:∀ i,i<l.length->Tch l x i->∀ k,(k=i∨k=i+1)->(S i↔S (enC C (A x k) true)):=fun i hi ht k hk=>by
  obtain⟨z,hz,e⟩:∃ z,z<2/\x=(l.getD i 0).natAbs+z:=by
   rcases ht with q|q
   · exact⟨0,by decide,q⟩
   · exact⟨1,by decide,q⟩
  obtain⟨s,hs,es⟩:=at2 i hi z hz k hk
  have:=side i hi s hs
  rw[es,<-e]at this
  exact this
 have key:∀ k,k<=l.length->(S (enC C (A x k) true)↔S (enC C (A x 0) true)):=fun k=>by
  induction k with
  |zero=>intro _;exact Iff.rfl
  |succ k ih=>
   intro hk
   rw[<-ih (by omega)]
   by_cases ht:Tch l x k
   · rw[<-own k (by omega) ht (k+1) (Or.inr rfl),own k (by omega) ht k (Or.inl rfl)]
   · rw[(h.stay h1 h2).1 k (by omega) ht]
 rw[own j hj hT j (Or.inl rfl),key j (by omega)]
omit hm in
theorem Xz1 {c:Nat} (hc:XW1 l c=true):1<=c/\c<n:=by
 obtain⟨k,hk,rfl⟩:=colU_iff.1 hc
 exact h.lets k hk
theorem Zw0 {S:Nat->Prop} (hS:Closed (Qz0 C) S):∀ c,XW1 l c=true->(S (enC C (A c 0) true)↔S (enC C (A (sb l c+1) 0) true))
 |0,hc=>by have:=(Xz1 h hc).1;omega
 |c+1,hc=>by
  have hn:=Xz1 h hc
  unfold sb
  by_cases q:XW1 l c=true
  · rw[if_pos q,<-Zw0 hS c q]
    obtain⟨k,hk,e⟩:=colU_iff.1 q
    have hq:=Xz1 h q
    rw[<-XZ5 h hm hS (x:=c) (by omega) (by omega) hk (Or.inl e.symm),<-XZ5 h hm hS (x:=c+1) (by omega) (by omega) hk (Or.inr (by omega))]
  · rw[if_neg q]
theorem Kf9 {j k:Nat} (hj:j<l.length) (hk:k<l.length) (e:sb l (l.getD j 0).natAbs=sb l (l.getD k 0).natAbs):Con (Qz0 C) j k:=fun S hS hx=>by
 have one:∀ i,i<l.length->(S i↔S (enC C (A (sb l (l.getD i 0).natAbs+1) 0) true)):=fun i hi=>by
  have hx:=h.lets i hi
  rw[XZ5 h hm hS (x:=(l.getD i 0).natAbs) (by omega) (by omega) hi (Or.inl rfl),Zw0 h hm hS _ (colU_iff.2 ⟨i,hi,rfl⟩)]
 rw[one k hk,<-e,<-one j hj]
 exact hx
theorem XF1:QZ1 C=true:=by
 have hl:=h.len
 have c0:XW1 l 0=false:=by
  cases q:XW1 l 0 with
  |false=>rfl
  |true=>have:=(Xz1 h q).1;omega
 have cn:XW1 l n=false:=by
  cases q:XW1 l n with
  |false=>rfl
  |true=>have:=(Xz1 h q).2;omega
 -- pieces
 have pc:pcN C<=(List.range n).countP (lfU l):=by
  unfold pcN kN
  rw[Qy1]
  have hW:=QU1 hm
  refine Zy5 (fun v=>sb l (l.getD v 0).natAbs) (fun v hv _=>?_) (fun u v hu hv pu pv e=>?_)
  · have hx:=h.lets v (by omega)
    obtain⟨s1,s2⟩:=JU8 l c0 _ (colU_iff.2 ⟨v,by omega,rfl⟩)
    exact⟨by omega,s2⟩
  · have hc:=Kf9 h hm (j:=u) (k:=v) (by omega) (by omega) e
    rw[Bool.and_true]at pu pv
    have pu:=of_decide_eq_true pu
    have pv:=of_decide_eq_true pv
    have:=(hW.same hu hv).2 hc
    change (Qx8 C).getD u 0=u at pu
    change (Qx8 C).getD v 0=v at pv
    omega
 have lr:=JY5 l c0 n
 rw[cn]at lr
 have cnt:=Zy1 l (n+1)
 have hlf:(List.range n).countP (lfU l)<=(List.range (n+1)).countP (lfU l):=by
  rw[List.range_succ,List.countP_append];omega
 -- labels
 let F:Nat->Nat:=fun j=>if j=0 then l.length+2*(n+1) else lbC C l (lvC C j) (enS C (dA j) (dB j))
 have lab := ZC5 (K := l.length + 2 * (n + 1) + 1) (P := fun v => if v < l.length + 2 * (n + 1) then lbP l v else true) (Ku0 hm) F (fun x hx => by
  by_cases e:x=0
  · subst e;rfl
  · rw[QK7 _ (by omega)]
    have:=(XY1 hm x (by omega) (by omega)).2.2
    show(if fd C x=0 then _ else _)=(if x=0 then _ else _)
    rw[if_neg (by omega),if_neg e]
    exact Jx5 h hm (by omega) (by omega)) (fun v hv hp=>by
  by_cases hv2:v<l.length+2*(n+1)
  · rw[if_pos hv2]at hp
    have give:∀ k s,k<l.length->s<4->lbC C l k s=v->∃ x,x<4*C.length+1/\F x=v:=fun k s hk hs e=>by
     obtain⟨-,q1,q2,q3,q4⟩:=Qj5 hm k s (by omega) hs
     refine⟨pd C (4*k+s),by omega,?_⟩
     show(if pd C (4*k+s)=0 then _ else _)=v
     rw[if_neg (by omega),q1,q2]
     exact e
    unfold lbP at hp
    by_cases g1:v<l.length
    · by_cases q:0<l.getD v 0
      · refine give v 1 g1 (by decide) ?_
        unfold lbC sdP
        rw[h.at_ v g1]
        simp only[if_pos q]
        exact Kj1 l 0 rfl
      · refine give v 2 g1 (by decide) ?_
        unfold lbC sdP
        rw[h.at_ v g1]
        simp only[if_neg q]
        exact Kj1 l 0 rfl
    · rw[if_neg g1]at hp
      by_cases g2:(v-l.length)%2=0
      · rw[if_pos g2]at hp
        unfold lfU at hp
        rw[Bool.and_eq_true]at hp
        obtain⟨k,hk,e⟩:=colU_iff.1 hp.2
        have hno:∀ j,j<l.length->(l.getD j 0).natAbs≠(v-l.length) / 2:=fun j hj e=>by
         have:=colU_iff.2 ⟨j,hj,e⟩
         rw[this]at hp;exact absurd hp.1 (by decide)
        have rv:=Zw6 l (k+1) 0 (by omega) hno
        by_cases q:0<l.getD k 0
        · refine give k 2 hk (by decide) ?_
          unfold lbC sdP
          rw[h.at_ k hk]
          simp only[if_pos q]
          show Rg l ((l.getD k 0).natAbs-1) (k+1) 0=v
          rw[e,Nat.add_sub_cancel,rv];omega
        · refine give k 3 hk (by decide) ?_
          unfold lbC sdP
          rw[h.at_ k hk]
          simp only[if_neg q]
          show Rg l ((l.getD k 0).natAbs-1) (k+1) 0=v
          rw[e,Nat.add_sub_cancel,rv];omega
      · rw[if_neg g2]at hp
        unfold rtU at hp
        rw[Bool.and_eq_true,Bool.and_eq_true]at hp
        obtain⟨k,hk,e⟩:=colU_iff.1 hp.2.2
        have h1:=of_decide_eq_true hp.2.1
        have hno:∀ j,j<l.length->(l.getD j 0).natAbs≠(v-l.length) / 2:=fun j hj e=>by
         have:=colU_iff.2 ⟨j,hj,e⟩
         rw[this]at hp;exact absurd hp.1 (by decide)
        have rv:=Zw6 l k 1 (by omega) hno
        by_cases q:0<l.getD k 0
        · refine give k 0 hk (by decide) ?_
          unfold lbC sdP
          rw[h.at_ k hk]
          simp only[if_pos q]
          show Rg l ((l.getD k 0).natAbs+1) k 1=v
          rw[e,Nat.sub_add_cancel h1,rv];omega
        · refine give k 1 hk (by decide) ?_
          unfold lbC sdP
          rw[h.at_ k hk]
          simp only[if_neg q]
          show Rg l ((l.getD k 0).natAbs+1) k 1=v
          rw[e,Nat.sub_add_cancel h1,rv];omega
  · exact⟨0,by omega,by show l.length+2*(n+1)=v;omega⟩)
 rw[JA4 hm,List.range_succ,List.countP_append,List.countP_singleton,if_neg (Nat.lt_irrefl _),if_pos rfl]at lab
 have same:(List.range (l.length+2*(n+1))).countP (fun v=>if v<l.length+2*(n+1) then lbP l v else true)=(List.range (l.length+2*(n+1))).countP (lbP l):=List.countP_congr fun v hv=>by
  rw[if_pos (List.mem_range.1 hv)]
 rw[same,cnt]at lab
 refine(XB4 hm).2.2 ?_
 rw[if_neg (by decide)]at lr
 omega
end
end Go.Proofs.YtjcagkgpbcdghaaDoor
/- Alexander's minor of a sum, by arcs: the product of both but for powers of t. -/
namespace Go.Proofs.YtjcagkgpbcdghaaDoor
theorem Xw1 (a b:Nat->Int) (Y:List (Nat->Int)):∀ (X:List (Nat->Int)) (cs:List Nat),dZ (X++a::b::Y) cs = -dZ (X++b::a::Y) cs
 |[],cs=>Xk8 a b cs (dZ Y)
 |x::X,cs=>by
  show QK5 x cs (dZ (X++a::b::Y)) = -QK5 x cs (dZ (X++b::a::Y))
  have e:dZ (X++a::b::Y)=fun rest => -1*dZ (X++b::a::Y) rest:=funext fun rest=>by rw[Xw1 a b Y X rest];omega
  rw[e,Qf9];omega
theorem QD8 {R R':List (Nat->Int)} (h:R.Perm R') (cs:List Nat):(dZ R cs).natAbs=(dZ R' cs).natAbs:=by
 have key:∀ {R R':List (Nat->Int)},R.Perm R'->∀ X:List (Nat->Int),(dZ (X++R) cs).natAbs=(dZ (X++R') cs).natAbs:=fun h=>by
  induction h with
  |nil=>intro X;rfl
  |cons c _ ih=>
   intro X
   have:=ih (X++[c])
   simpa using this
  |swap c d l=>
   intro X
   rw[Xw1,Int.natAbs_neg]
  |trans _ _ ih1 ih2=>intro X;rw[ih1 X,ih2 X]
 exact key h []
theorem Qv4 {α:Type} (f:α->Nat->Int) (w:α->Int) (cs:List Nat) (I:List α):∀ (X Z:List α) (a:Nat->Int),I=Z++X->dZ ((fun c=>a c+(X.map fun i=>w i*f i c).sum)::I.map f) cs=dZ (a::I.map f) cs
 |[],Z,a,_=>by simp
 |i::X,Z,a,e=>by
  have h1:=Qv4 f w cs I X (Z++[i]) (fun c=>a c+w i*f i c) (by rw[e];simp)
  have h2:=Qd4 [] (I.map f) a (f i) (w i) cs
  have h3:dZ (f i::I.map f) cs=0:=by rw[e,List.map_append,List.map_cons];exact Zb5 (Z.map f) (X.map f) (f i) cs
  simp only[List.nil_append]at h2
  rw[h2,h3,Int.mul_zero,Int.add_zero]at h1
  rw[<-h1]
  congr 2
  funext c
  simp only[List.map_cons,List.sum_cons]
  omega
theorem XB1 (r:Nat->Int) (Y:List Nat) (D:Int) (hr:∀ c∈Y,r c=0):∀ (X:List Nat) (h g:List Nat->Int),(∀ rest,rest.length+1=X.length->h (rest++Y)=g rest*D)->QK5 r (X++Y) h=QK5 r X g*D
 |[],h,_,_=>by
  show QK5 r Y h=0*D
  rw[QK3 r Y h hr];omega
 |c::X,h,g,hh=>by
  show r c*h (X++Y)-QK5 r (X++Y) _=(r c*g X-QK5 r X _)*D
  rw[hh X rfl,XB1 r Y D hr X (fun rest=>h (c::rest)) (fun rest=>g (c::rest)) (fun rest hl=>hh (c::rest) (by simp;omega))]
  grind
theorem Qv5 (Q:List (Nat->Int)) (Y:List Nat):∀ (P:List (Nat->Int)) (X:List Nat),P.length=X.length->(∀ r∈P,∀ c∈Y,r c=0)->dZ (P++Q) (X++Y)=dZ P X*dZ Q Y
 |[],X,hl,_=>by
  obtain rfl:X=[]:=List.length_eq_zero_iff.1 hl.symm
  show dZ Q Y=1*dZ Q Y
  omega
 |r::P,X,hl,hz=>XB1 r Y (dZ Q Y) (hz r (.head _)) X _ _ fun rest hr=>Qv5 Q Y P rest (by simp at hl;omega) fun r' h'=>hz r' (.tail _ h')
section
variable {C:List Cr} {loops:Int} (hm:QX3 C loops=true)
include hm
end
def lmK (C:List Cr) (L:Nat->Nat) (t:Int) (k:Nat):Int:=if(C.getD k Cr.none).plus=true then t ^ L (aAt C k 2) else -(t ^ L (aAt C k 0))
def leK (C:List Cr) (L:Nat->Nat) (k:Nat):Nat:=if(C.getD k Cr.none).plus=true then L (aAt C k 2) else L (aAt C k 0)
theorem JG6 (C:List Cr) (L:Nat->Nat) (t:Int) (k:Nat):(lmK C L t k).natAbs=t.natAbs ^ leK C L k:=by
 unfold lmK leK
 split
 · rw[Int.natAbs_pow]
 · rw[Int.natAbs_neg,Int.natAbs_pow]
theorem JQ9 {C : List Cr} {L : Nat → Nat} {t : Int} {k : Nat} (hL : ((C.getD k Cr.none).plus = true → L (aAt C k 3) = L (aAt C k 2) ∧ L (aAt C k 1) = L (aAt C k 0) ∧ L (aAt C k 0) = L (aAt C k 2) + 1) ∧
    ((C.getD k Cr.none).plus=false->L (aAt C k 1)=L (aAt C k 2)/\L (aAt C k 3)=L (aAt C k 0)/\L (aAt C k 2)=L (aAt C k 0)+1)) (s:Nat) (hs:s<4):
    lmK C L t k*(qR t (C.getD k Cr.none) s+qE s)=(if(C.getD k Cr.none).comes s=true then -1 else 1)*t ^ L (aAt C k s):=by
 have c:s=0∨s=1∨s=2∨s=3:=by omega
 cases hpl:(C.getD k Cr.none).plus
 · obtain⟨a1,a2,a3⟩:=hL.2 hpl
   have eL:lmK C L t k = -(t ^ L (aAt C k 0)):=by unfold lmK;rw[hpl];rfl
   have c1:(C.getD k Cr.none).comes 1=true:=by unfold Cr.comes;rw[hpl];rfl
   have c3:(C.getD k Cr.none).comes 3=false:=by unfold Cr.comes;rw[hpl];rfl
   have q0:qR t (C.getD k Cr.none) 0=1:=by unfold qR;rw[hpl];rfl
   have q2:qR t (C.getD k Cr.none) 2 = -t:=by unfold qR;rw[hpl];rfl
   rw[eL]
   rcases c with rfl|rfl|rfl|rfl
   · rw[q0,show(C.getD k Cr.none).comes 0=true from rfl,show qE 0=0 from rfl,if_pos rfl];omega
   · rw[show qR t (C.getD k Cr.none) 1=t-1 from rfl,c1,show qE 1=1 from rfl,if_pos rfl,a1,a3,Int.pow_succ];grind
   · rw[q2,show(C.getD k Cr.none).comes 2=false from rfl,show qE 2=0 from rfl,if_neg (by decide),a3,Int.pow_succ];grind
   · rw[show qR t (C.getD k Cr.none) 3=0 from rfl,c3,show qE 3 = -1 from rfl,if_neg (by decide),a2];omega
 · obtain⟨a1,a2,a3⟩:=hL.1 hpl
   have eL:lmK C L t k=t ^ L (aAt C k 2):=by unfold lmK;rw[hpl];rfl
   have c1:(C.getD k Cr.none).comes 1=false:=by unfold Cr.comes;rw[hpl];rfl
   have c3:(C.getD k Cr.none).comes 3=true:=by unfold Cr.comes;rw[hpl];rfl
   have q0:qR t (C.getD k Cr.none) 0 = -t:=by unfold qR;rw[hpl];rfl
   have q2:qR t (C.getD k Cr.none) 2=1:=by unfold qR;rw[hpl];rfl
   rw[eL]
   rcases c with rfl|rfl|rfl|rfl
   · rw[q0,show(C.getD k Cr.none).comes 0=true from rfl,show qE 0=0 from rfl,if_pos rfl,a3,Int.pow_succ];grind
   · rw[show qR t (C.getD k Cr.none) 1=t-1 from rfl,c1,show qE 1=1 from rfl,if_neg (by decide),a2,a3,Int.pow_succ];grind
   · rw[q2,show(C.getD k Cr.none).comes 2=false from rfl,show qE 2=0 from rfl,if_neg (by decide)];omega
   · rw[show qR t (C.getD k Cr.none) 3=0 from rfl,c3,show qE 3 = -1 from rfl,if_pos rfl,a1];omega
end Go.Proofs.YtjcagkgpbcdghaaDoor
/- Determinants: a first column that is a sum of others; diagonal ones; rows traded by a relation; rows to which others are added; values that are one but for powers of t. -/
namespace Go.Proofs.YtjcagkgpbcdghaaDoor
section
variable {α:Type}
def cz (I:List α) (f:α->Nat->Int) (φ:α->Int) (rest:List Nat):Int:=dZ (I.map fun i c=>if c=0 then φ i else f i c) (0::rest)
theorem KY2 (I:List α) (f:α->Nat->Int) (u:Nat) {rest:List Nat} (h0:∀ c∈rest,c≠0):cz I f (fun i=>f i u) rest=dZ (I.map f) (u::rest):=by
 have em:(0::rest).map (fun c=>if c=0 then u else c)=u::rest:=by
  rw[List.map_cons,if_pos rfl]
  congr 1
  exact(List.map_congr_left (g:=id) fun c hc=>if_neg (h0 c hc)).trans (List.map_id _)
 rw[<-em,XY2,List.map_map]
 refine QW2 _ _ I _ fun i _ c _=>?_
 show(if c=0 then f i u else f i c)=f i (if c=0 then u else c)
 split<;>rfl
theorem Zk1 (I:List α) (f:α->Nat->Int) (φ ψ:α->Int) (k:Int) (hI:I≠[]) {rest:List Nat} (h0:∀ c∈rest,c≠0):cz I f (fun i=>φ i+k*ψ i) rest=cz I f φ rest+k*cz I f ψ rest:=by
 obtain⟨B,hB0,hB⟩:∃ B,0<B/\∀ c∈rest,c<B:=by
  refine⟨rest.sum+1,by omega,fun c hc=>?_⟩
  have:∀ l:List Nat,c∈l->c<=l.sum:=fun l=>by
   induction l with
   |nil=>intro h;cases h
   |cons x l ih=>
    intro h
    rw[List.sum_cons]
    cases h with
    |head=>omega
    |tail _ h=>have:=ih h;omega
  have:=this rest hc
  omega
 let g:α->Nat->Int:=fun i c=>if c=0 then φ i+k*ψ i else if c=B then φ i else if c=B+1 then ψ i else f i c
 have e0:cz I f (fun i=>φ i+k*ψ i) rest=dZ (I.map g) (0::rest):=QW2 _ _ I _ fun i _ c hc=>by
  show(if c=0 then φ i+k*ψ i else f i c)=g i c
  show _=(if c=0 then φ i+k*ψ i else if c=B then φ i else if c=B+1 then ψ i else f i c)
  cases hc with
  |head=>rw[if_pos rfl,if_pos rfl]
  |tail _ hc=>
   have:=hB c hc
   rw[if_neg (h0 c hc),if_neg (h0 c hc),if_neg (by omega),if_neg (by omega)]
 have e1:∀ (u:Nat) (χ:α->Int),u≠0->(∀ i,g i u=χ i)->B<=u->cz I f χ rest=dZ (I.map g) (u::rest):=fun u χ hu hχ hBu=>by
  rw[<-KY2 I g u h0]
  refine QW2 _ _ I _ fun i _ c hc=>?_
  show(if c=0 then χ i else f i c)=(if c=0 then g i u else g i c)
  cases hc with
  |head=>rw[if_pos rfl,if_pos rfl,hχ]
  |tail _ hc=>
   have:=hB c hc
   rw[if_neg (h0 c hc),if_neg (h0 c hc)]
   show f i c=(if c=0 then φ i+k*ψ i else if c=B then φ i else if c=B+1 then ψ i else f i c)
   rw[if_neg (h0 c hc),if_neg (by omega),if_neg (by omega)]
 have e2 := e1 B φ (by omega) (fun i => by
  show(if B=0 then _ else if B=B then φ i else _)=φ i
  rw[if_neg (by omega),if_pos rfl]) (Nat.le_refl _)
 have e3 := e1 (B + 1) ψ (by omega) (fun i => by
  show(if B+1=0 then _ else if B+1=B then φ i else if B+1=B+1 then ψ i else _)=ψ i
  rw[if_neg (by omega),if_neg (by omega),if_pos rfl]) (by omega)
 rw[e0,e2,e3]
 refine XQ3 k (I.map g) (by simpa using hI) (fun r hr=>?_) rest
 obtain⟨i,-,rfl⟩:=List.mem_map.1 hr
 have q1:g i 0=φ i+k*ψ i:=if_pos rfl
 have q2:g i B=φ i:=by
  show(if B=0 then _ else if B=B then φ i else _)=φ i
  rw[if_neg (by omega),if_pos rfl]
 have q3:g i (B+1)=ψ i:=by
  show(if B+1=0 then _ else if B+1=B then φ i else if B+1=B+1 then ψ i else _)=ψ i
  rw[if_neg (by omega),if_neg (by omega),if_pos rfl]
 rw[q1,q2,q3]
theorem JK9 (I:List α) (f:α->Nat->Int) (hI:I≠[]) {rest:List Nat} (h0:∀ c∈rest,c≠0):cz I f (fun _=>0) rest=0:=by
 have:=Zk1 I f (fun _=>0) (fun _=>0) 1 hI h0
 simp only[Int.mul_zero,Int.add_zero,Int.one_mul]at this
 omega
theorem Ku8 (I:List α) (f:α->Nat->Int) (u:Nat) (x:Int) (κ:Nat->Int) (hI:I≠[]) {rest:List Nat} (h0:∀ c∈rest,c≠0):∀ cs:List Nat,(∀ c∈cs,c∈rest)->cz I f (fun i=>x*f i u+(cs.map fun c=>κ c*f i c).sum) rest=x*dZ (I.map f) (u::rest)
 |[],_=>by
  have e:=Zk1 I f (fun _=>0) (fun i=>f i u) x hI h0
  rw[JK9 I f hI h0,KY2 I f u h0,Int.zero_add]at e
  rw[<-e]
  congr 1
  funext i
  simp
 |c::cs,h=>by
  have ih:=Ku8 I f u x κ hI h0 cs fun d hd=>h d (.tail _ hd)
  have e:=Zk1 I f (fun i=>x*f i u+(cs.map fun c=>κ c*f i c).sum) (fun i=>f i c) (κ c) hI h0
  rw[ih,KY2 I f c h0,Ku6 _ _ _ (h c (.head _)),Int.mul_zero,Int.add_zero]at e
  rw[<-e]
  congr 1
  funext i
  simp only[List.map_cons,List.sum_cons]
  omega
theorem Zb7 {β:Type} (f:β->Nat->Int) (g:β->Nat) (u:β->Int):∀ (L:List β),(∀ x∈L,f x (g x)=u x)->L.Pairwise (fun x y=>f x (g y)=0)->(dZ (L.map f) (L.map g)).natAbs=(L.map fun x=>(u x).natAbs).foldr (·*·) 1
 |[],_,_=>rfl
 |x::L,h,hp=>by
  rw[List.pairwise_cons]at hp
  have ih:=Zb7 f g u L (fun y hy=>h y (.tail _ hy)) hp.2
  show(f x (g x)*dZ (L.map f) (L.map g)-QK5 (f x) (L.map g) _).natAbs=_
  rw [QK3 _ _ _ (fun c hc => by
   obtain⟨y,hy,rfl⟩:=List.mem_map.1 hc
   exact hp.1 y hy),h x (.head _),Int.sub_zero,Int.natAbs_mul,ih]
  rfl
theorem Qg9 (f:α->Nat->Int) (u:α->Int):∀ (I:List α) (cs:List Nat),(dZ (I.map fun i c=>u i*f i c) cs).natAbs=((I.map fun x=>(u x).natAbs).foldr (·*·) 1)*(dZ (I.map f) cs).natAbs
 |[],cs=>by show _=1*_;rw[Nat.one_mul];rfl
 |i::I,cs=>by
  have key:∀ (X:List (Nat->Int)),dZ ((fun c=>u i*f i c)::X) cs=u i*dZ (f i::X) cs:=fun X=>by
   have e:=Qd4 [] X (fun _=>0) (f i) (u i) cs
   simp only[List.nil_append]at e
   rw[show dZ ((fun _=>(0:Int))::X) cs=0 from QK3 _ _ _ fun _ _=>rfl,Int.zero_add]at e
   rw[<-e]
   congr 2
   funext c
   omega
  have key2:∀ (Y:List α) (X:List (Nat->Int)) (cs:List Nat),(dZ (X++Y.map fun i c=>u i*f i c) cs).natAbs=((Y.map fun x=>(u x).natAbs).foldr (·*·) 1)*(dZ (X++Y.map f) cs).natAbs:=fun Y=>by
   induction Y with
   |nil=>intro X cs;show _=1*_;rw[Nat.one_mul];rfl
   |cons y Y ih=>
    intro X cs
    have e:=ih (X++[fun c=>u y*f y c]) cs
    rw[List.append_assoc,List.append_assoc]at e
    show(dZ (X++(fun c=>u y*f y c)::Y.map fun i c=>u i*f i c) cs).natAbs=_
    rw[show(X++(fun c=>u y*f y c)::Y.map fun i c=>u i*f i c)=X++([fun c=>u y*f y c]++Y.map fun i c=>u i*f i c) from rfl,e]
    have e2:=Qd4 X (Y.map f) (fun _=>0) (f y) (u y) cs
    have e3:dZ (X++(fun _=>(0:Int))::Y.map f) cs=0:=by
     rw[Qh0,show dZ ((fun _=>(0:Int))::(X++Y.map f)) cs=0 from QK3 _ _ _ fun _ _=>rfl,Int.mul_zero]
    rw[e3,Int.zero_add]at e2
    rw[show(X++([fun c=>u y*f y c]++Y.map f))=X++(fun c=>0+u y*f y c)::Y.map f by congr 2;simp,e2,Int.natAbs_mul]
    show _=(u y).natAbs*_*_
    rw[Nat.mul_left_comm,<-Nat.mul_assoc]
    rfl
  exact key2 (i::I) [] cs
theorem JA3 (f:α->Nat->Int) (w:α->Int) (a b:α) (J:List α) (cs:List Nat) (h:∀ c,w a*f a c+(w b*f b c+(J.map fun i=>w i*f i c).sum)=0):(w a).natAbs*(dZ (f a::J.map f) cs).natAbs=(w b).natAbs*(dZ (f b::J.map f) cs).natAbs:=by
 have one:∀ x:α,dZ ((fun c=>w x*f x c)::J.map f) cs=w x*dZ (f x::J.map f) cs:=fun x=>by
  have e:=Qd4 [] (J.map f) (fun _=>0) (f x) (w x) cs
  simp only[List.nil_append]at e
  rw[show dZ ((fun _=>(0:Int))::J.map f) cs=0 from QK3 _ _ _ fun _ _=>rfl,Int.zero_add]at e
  rw[<-e]
  congr 2
  funext c
  omega
 have e1:=Qv4 f w cs J J [] (fun c=>w a*f a c) rfl
 have e2:=Qd4 [] (J.map f) (fun _=>0) (fun c=>w b*f b c) (-1) cs
 simp only[List.nil_append]at e2
 rw[show dZ ((fun _=>(0:Int))::J.map f) cs=0 from QK3 _ _ _ fun _ _=>rfl,Int.zero_add,one b]at e2
 rw[show(fun c=>0 + -1*(w b*f b c))=fun c=>w a*f a c+(J.map fun i=>w i*f i c).sum from funext fun c=>by have:=h c;omega,e1,one a]at e2
 rw[<-Int.natAbs_mul,<-Int.natAbs_mul,e2]
 omega
theorem Zb6 (f:α->Nat->Int) (g:α->Nat->Int) (k:α->Int) (P:List (Nat->Int)) (cs:List Nat):∀ (I:List α) (Q:List (Nat->Int)),(∀ i∈I,g i∈P)->(dZ (P++(Q++I.map fun i c=>f i c+k i*g i c)) cs).natAbs=(dZ (P++(Q++I.map f)) cs).natAbs
 |[],_,_=>rfl
 |i::I,Q,h=>by
  have ih:=Zb6 f g k P cs I (Q++[fun c=>f i c+k i*g i c]) fun j hj=>h j (.tail _ hj)
  rw[List.append_assoc,List.append_assoc]at ih
  show(dZ (P++(Q++([fun c=>f i c+k i*g i c]++I.map _))) cs).natAbs=_
  rw[ih]
  have e:=Qd4 (P++Q) (I.map f) (f i) (g i) (k i) cs
  have e2:dZ (P++Q++g i::I.map f) cs=0:=by
   obtain⟨X,Y,hXY⟩:=List.append_of_mem (h i (.head _))
   rw[hXY,show X++g i::Y++Q++g i::I.map f=X++g i::(Y++Q++g i::I.map f) by simp,Qh0]
   rw[show X++(Y++Q++g i::I.map f)=(X++(Y++Q))++g i::I.map f by simp,Zb5,Int.mul_zero]
  rw[e2,Int.mul_zero,Int.add_zero]at e
  rw[show P++(Q++([fun c=>f i c+k i*g i c]++I.map f))=P++Q++(fun c=>f i c+k i*g i c)::I.map f by simp,e]
  congr 2
  simp
theorem JK3 (f:α->Nat->Int) (w:α->Int) (a:α) (J:List α) (cs:List Nat) (h1:w a=1) (h:∀ c,w a*f a c+(J.map fun i=>w i*f i c).sum=0):dZ (f a::J.map f) cs=0:=by
 have e1:=Qv4 f w cs J J [] (f a) rfl
 rw[<-e1]
 refine QK3 _ _ _ fun c _=>?_
 have:=h c
 rw[h1,Int.one_mul]at this
 exact this
end
def Pq (F G:Nat->Nat):Prop:=∃ e f:Nat,∀ t:Nat,1<=t->t ^ e*F t=t ^ f*G t
theorem Pq.rfl' {F G:Nat->Nat} (h:∀ t,1<=t->F t=G t):Pq F G:=⟨0,0,fun t ht=>by rw[h t ht]⟩
theorem Pq.symm {F G:Nat->Nat}:Pq F G->Pq G F:=fun⟨e,f,h⟩=>⟨f,e,fun t ht=>(h t ht).symm⟩
theorem Pq.trans {F G H : Nat → Nat} : Pq F G → Pq G H → Pq F H := fun ⟨e, f, h⟩ ⟨e', f', h'⟩ => ⟨e + e', f + f', fun t ht => by
 have a:=h t ht
 have b:=h' t ht
 rw[Nat.pow_add,Nat.pow_add,Nat.mul_comm (t ^ e) (t ^ e'),Nat.mul_assoc,a,Nat.mul_left_comm,b,Nat.mul_assoc]⟩
theorem Pq.pow {F G:Nat->Nat} (e f:Nat) (h:∀ t,1<=t->t ^ e*F t=t ^ f*G t):Pq F G:=⟨e,f,h⟩
theorem Qv1 {β:Type} (t:Nat) (u:β->Nat) (e:β->Nat):∀ (L:List β),(∀ x∈L,u x=t ^ e x)->(L.map u).foldr (·*·) 1=t ^ (L.map e).sum
 |[],_=>rfl
 |x::L,h=>by
  show u x*(L.map u).foldr (·*·) 1=t ^ ((x::L).map e).sum
  rw[Qv1 t u e L fun y hy=>h y (.tail _ hy),h x (.head _),List.map_cons,List.sum_cons,Nat.pow_add]
end Go.Proofs.YtjcagkgpbcdghaaDoor
