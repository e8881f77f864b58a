/- Plain mathematics: the determinant of Alexander's table is small, and of few terms; there are as many overpasses as crossings, or more. -/
import Derived.Test.YtgagenmkpmmpfaaAD6P
import Derived.Test.YtgagenmkpmmpfaaAS0P
namespace Go.Proofs.Ytgagenmkpmmpfaa
open Poly
theorem absI_abs (c:Int):absI c=(c.natAbs:Int):=by unfold absI;split<;>omega
theorem sizeL_aPol (x y:Int):sizeL (aPol x y)=(x.natAbs:Int)+(y.natAbs:Int):=by
 unfold sizeL aPol
 by_cases hx:x=0<;>by_cases hy:y=0<;>simp[hx,hy,sizeTo,absI_abs]
theorem sizeTo_nonneg (l:List (Int×Int)) (k:Nat):0<=sizeTo l k:=by
 induction k with
 |zero=>simp[sizeTo]
 |succ k ih=>simp only[sizeTo];rw[absI_abs];omega
theorem sizeL_nonneg (l:List (Int×Int)):0<=sizeL l:=sizeTo_nonneg l l.length
def rowS (F:Nat->Int×Int):Nat->Int
 |0=>0
 |m+1=>rowS F m+(((F m).1.natAbs:Int)+((F m).2.natAbs:Int))
theorem rowS_nonneg (F:Nat->Int×Int) (m:Nat):0<=rowS F m:=by
 induction m with
 |zero=>exact Int.le_refl _
 |succ m ih=>simp only[rowS];omega
theorem rowS_far (F:Nat->Int×Int) (p:Nat) (dx dy:Int) (m:Nat) (h:m<=p):rowS (addFa F p dx dy) m=rowS F m:=by
 induction m with
 |zero=>rfl
 |succ m ih=>
  simp only[rowS]
  rw[ih (by omega)]
  have e:addFa F p dx dy m=F m:=by unfold addFa;rw[if_neg (by omega)]
  rw[e]
theorem rowS_add (F:Nat->Int×Int) (p:Nat) (dx dy:Int) (m:Nat):rowS (addFa F p dx dy) m<=rowS F m+((dx.natAbs:Int)+(dy.natAbs:Int)):=by
 induction m with
 |zero=>simp only[rowS];omega
 |succ m ih=>
  simp only[rowS]
  by_cases e:m=p
  · rw[rowS_far F p dx dy m (by omega)]
    have e2:addFa F p dx dy m=((F m).1+dx,(F m).2+dy):=by unfold addFa;rw[if_pos e]
    rw[e2]
    simp only
    omega
  · have e2:addFa F p dx dy m=F m:=by unfold addFa;rw[if_neg e]
    rw[e2]
    omega
theorem rowS_zero (m:Nat):rowS zeroF m=0:=by
 induction m with
 |zero=>rfl
 |succ m ih=>simp[rowS,ih,zeroF]
theorem rowS_al (C:List Cr) (k m:Nat):rowS (alF C k) m<=4:=by
 unfold alF rowF
 refine Int.le_trans (rowS_add _ _ _ _ m) ?_
 have h1:=rowS_add (addFa zeroF (outC' C (C.getD k Cr.none)) 1 0) (inC C (C.getD k Cr.none)) 0 (-1) m
 have h2:=rowS_add zeroF (outC' C (C.getD k Cr.none)) 1 0 m
 rw[rowS_zero]at h2
 simp only[Int.natAbs_neg,Int.natAbs_one,Int.natAbs_zero]at h1 h2 ⊢
 omega
theorem rowS_at (F:Nat->Int×Int) (m j:Nat) (h:j<m):((F j).1.natAbs:Int)+((F j).2.natAbs:Int)<=rowS F m:=by
 induction m with
 |zero=>omega
 |succ m ih=>
  simp only[rowS]
  by_cases e:j=m
  · subst e;have:=rowS_nonneg F j;omega
  · have:=ih (by omega);omega
theorem al_small (C:List Cr) (k j:Nat):((alF C k j).1.natAbs:Int)+((alF C k j).2.natAbs:Int)<=4:=Int.le_trans (rowS_at _ (j+1) j (by omega)) (rowS_al C k (j+1))
def alR (C:List Cr) (n i:Nat):List (List (Int×Int)):=(List.range n).map fun j=>aPol (alF C i j).1 (alF C i j).2
def alT (C:List Cr) (n:Nat):List (List (List (Int×Int))):=(List.range n).map (alR C n)
theorem alR_len (C:List Cr) (n i:Nat):(alR C n i).length=n:=by simp[alR]
theorem alT_len (C:List Cr) (n:Nat):(alT C n).length=n:=by simp[alT]
theorem alR_at (C:List Cr) (n i j:Nat) (h:j<n):(alR C n i).getD j []=aPol (alF C i j).1 (alF C i j).2:=by simp[alR,List.getD_eq_getElem?_getD,h]
theorem alT_at (C:List Cr) (n i:Nat) (h:i<n):(alT C n).getD i []=alR C n i:=by simp[alT,List.getD_eq_getElem?_getD,h]
theorem al_mayX (C:List Cr) (i j:Nat):mayB (aPol (alF C i j).1 (alF C i j).2)=true:=by
 have:=al_small C i j
 exact aPol_may _ _ (by omega) (by omega)
theorem al_good (C:List Cr) (n:Nat):GoodT (alT C n) n:=by
 refine⟨alT_len C n,fun R hR=>?_⟩
 obtain⟨i,-,rfl⟩:=List.mem_map.1 hR
 refine⟨alR_len C n i,fun l hl=>?_⟩
 obtain⟨j,-,rfl⟩:=List.mem_map.1 hl
 exact⟨al_mayX C i j,by rw[sizeL_aPol];exact al_small C i j⟩
def sumRx (R:List (List (Int×Int))):Int:=(R.map sizeL).sum
theorem sumR_cons (l:List (Int×Int)) (R:List (List (Int×Int))):sumRx (l::R)=sizeL l+sumRx R:=by simp[sumRx]
theorem sumR_nonneg (R:List (List (Int×Int))):0<=sumRx R:=by
 induction R with
 |nil=>simp[sumRx]
 |cons l R ih=>rw[sumR_cons];have:=sizeL_nonneg l;omega
theorem sumR_erase (R:List (List (Int×Int))) (c:Nat):sumRx (R.eraseIdx c)<=sumRx R:=by
 induction R generalizing c with
 |nil=>simp[sumRx]
 |cons l R ih=>
  cases c with
  |zero=>rw[List.eraseIdx_cons_zero,sumR_cons];have:=sizeL_nonneg l;omega
  |succ c=>rw[List.eraseIdx_cons_succ,sumR_cons,sumR_cons];have:=ih c;omega
theorem sumR_row (C:List Cr) (m i:Nat):sumRx (alR C m i)=rowS (alF C i) m:=by
 induction m with
 |zero=>rfl
 |succ m ih=>
  have:alR C (m+1) i=alR C m i++[aPol (alF C i m).1 (alF C i m).2]:=by simp[alR,List.range_succ]
  rw[this]
  unfold sumRx at ih ⊢
  rw[List.map_append,List.sum_append,ih]
  simp[rowS,sizeL_aPol]
theorem sumR_al (C:List Cr) (n i:Nat):sumRx (alR C n i)<=4:=by
 rw[sumR_row]
 exact rowS_al C i n
def Slim (T:List (List (List (Int×Int)))) (n:Nat):Prop:=T.length=n/\∀ R∈T,R.length=n/\sumRx R<=4/\∀ l∈R,∀ t∈l,0<=t.1/\t.1<=1
theorem slim_less {R:List (List (Int×Int))} {T:List (List (List (Int×Int)))} {n c:Nat} (h:Slim (R::T) (n+1)) (hc:c<n+1):Slim (lessOf (R::T) c) n:=by
 obtain⟨h1,h2⟩:=h
 refine⟨by simp[lessOf]at h1 ⊢;omega,fun R' hR'=>?_⟩
 obtain⟨Q,hQ,rfl⟩:=List.mem_map.1 hR'
 obtain⟨q1,q2,q3⟩:=h2 Q (List.Mem.tail _ hQ)
 refine⟨by rw[List.length_eraseIdx_of_lt (by omega)];omega,Int.le_trans (sumR_erase Q c) q2,fun l hl=>q3 l (List.mem_of_mem_eraseIdx hl)⟩
def partS (R:List (List (Int×Int))):Nat->Int
 |0=>0
 |m+1=>partS R m+sizeL (R.getD m [])
theorem partS_cons (l:List (Int×Int)) (R:List (List (Int×Int))) (m:Nat):partS (l::R) (m+1)=sizeL l+partS R m:=by
 induction m with
 |zero=>simp[partS]
 |succ m ih=>rw[partS,ih,partS];simp;omega
theorem partS_all (R:List (List (Int×Int))):partS R R.length=sumRx R:=by
 induction R with
 |nil=>rfl
 |cons l R ih=>rw[List.length_cons,partS_cons,ih,sumR_cons]
theorem prodL_size (l:List (Int×Int)) (g:Int->Int) (H:Nat) (hg:∀ x,(g x).natAbs<=H) (y:Int):((prodL l g y).natAbs:Int)<=sizeL l*(H:Int):=by
 have h:=prodL_abs l g H hg y l.length (Nat.le_refl _)
 rw[List.take_length]at h
 exact h
theorem altTo_size (R:List (List (Int×Int))) (h:Nat->Int->Int) (H:Nat) (m:Nat) (hh:∀ c,c<m->∀ x,(h c x).natAbs<=H) (y:Int):((altTo (fun c=>prodL (R.getD c []) (h c)) m y).natAbs:Int)<=partS R m*(H:Int):=by
 induction m with
 |zero=>simp[altTo,partS]
 |succ m ih=>
  have i1:=ih (fun c hc=>hh c (by omega))
  have i2:=prodL_size (R.getD m []) (h m) H (hh m (by omega)) y
  simp only[altTo,partS,Int.add_mul]
  have i3:=Int.natAbs_add_le (altTo (fun c=>prodL (R.getD c []) (h c)) m y) (sgn m*prodL (R.getD m []) (h m) y)
  have i4:(sgn m*prodL (R.getD m []) (h m) y).natAbs=(prodL (R.getD m []) (h m) y).natAbs:=by
   rcases sgn_one m with e|e<;>rw[e]<;>simp
  omega
def prSx:List (List (List (Int×Int)))->Nat
 |[]=>1
 |R::T=>(sumRx R).toNat*prSx T
theorem prS_erase (T:List (List (List (Int×Int)))) (c:Nat):prSx (T.map (fun R=>R.eraseIdx c))<=prSx T:=by
 induction T with
 |nil=>exact Nat.le_refl _
 |cons R T ih=>
  simp only[List.map_cons,prSx]
  have:=sumR_erase R c
  exact Nat.mul_le_mul (by omega) ih
theorem prS_four (T:List (List (List (Int×Int)))) (h:∀ R∈T,sumRx R<=4):prSx T<=4 ^ T.length:=by
 induction T with
 |nil=>exact Nat.le_refl _
 |cons R T ih=>
  have h1:=ih fun R' h'=>h R' (List.Mem.tail _ h')
  have h2:=h R (List.Mem.head _)
  rw[List.length_cons,Nat.pow_succ,Nat.mul_comm (4 ^ T.length)]
  exact Nat.mul_le_mul (by omega) h1
theorem prS_three (T:List (List (List (Int×Int)))) (h:∀ R∈T,sumRx R<=4) (R0:List (List (Int×Int))) (h0:R0∈T) (h3:sumRx R0<=3):4*prSx T<=3*4 ^ T.length:=by
 induction T with
 |nil=>cases h0
 |cons R T ih=>
  have h4:4 ^ (T.length+1)=4*4 ^ T.length:=by rw[Nat.pow_succ];omega
  rw[List.length_cons,h4]
  simp only[prSx]
  rcases List.mem_cons.1 h0 with e|e
  · have h1:=prS_four T fun R' h'=>h R' (List.Mem.tail _ h')
    have h2:(sumRx R).toNat*prSx T<=3*4 ^ T.length:=Nat.mul_le_mul (by rw[<-e];omega) h1
    omega
  · have h1:=ih (fun R' h'=>h R' (List.Mem.tail _ h')) e
    have h2:=h R (List.Mem.head _)
    have h5:(sumRx R).toNat*prSx T<=4*prSx T:=Nat.mul_le_mul (by omega) (Nat.le_refl _)
    omega
theorem det_small:∀ (n:Nat) (T:List (List (List (Int×Int)))),Slim T n->∀ y,(detOf T y).natAbs<=prSx T:=by
 intro n
 induction n with
 |zero=>
  intro T hT y
  obtain rfl:T=[]:=List.length_eq_zero_iff.1 hT.1
  by_cases e:y=0
  · simp[detOf,detF,rowsOf,oneF,e,prSx]
  · simp[detOf,detF,rowsOf,oneF,e,prSx]
 |succ n ih=>
  intro T hT y
  obtain⟨R,T',rfl⟩:∃ R T',T=R::T':=by
   cases T with
   |nil=>exact absurd hT.1 (by simp)
   |cons R T'=>exact⟨R,T',rfl⟩
  have hl:T'.length=n:=by have:=hT.1;simpa using this
  rw[detOf_cons,hl]
  have h1:=altTo_size R (fun c=>detOf (lessOf (R::T') c)) (prSx T') (n+1) (fun c hc x=>Nat.le_trans (ih _ (slim_less hT hc) x) (prS_erase T' c)) y
  obtain⟨q1,-,-⟩:=hT.2 R (List.Mem.head _)
  have h2:partS R (n+1)=sumRx R:=by rw[<-q1,partS_all]
  rw[h2]at h1
  have h3:=sumR_nonneg R
  have h4:((prSx (R::T'):Nat):Int)=sumRx R*((prSx T':Nat):Int):=by
   simp only[prSx]
   rw[Int.natCast_mul,Int.toNat_of_nonneg h3]
  rw[<-h4]at h1
  omega
theorem prodL_some (l:List (Int×Int)) (g:Int->Int) (y:Int) (h:prodL l g y≠0):∃ t∈l,g (y-t.1)≠0:=by
 induction l with
 |nil=>exact absurd rfl h
 |cons t l ih=>
  by_cases e:g (y-t.1)=0
  · have h2:prodL l g y≠0:=fun q=>h (by simp[prodL,e,q])
    obtain⟨u,hu,hg⟩:=ih h2
    exact⟨u,List.Mem.tail _ hu,hg⟩
  · exact⟨t,List.Mem.head _,e⟩
theorem det_few:∀ (n:Nat) (T:List (List (List (Int×Int)))),Slim T n->∀ y,detOf T y≠0->0<=y/\y<=(n:Int):=by
 intro n
 induction n with
 |zero=>
  intro T hT y hy
  obtain rfl:T=[]:=List.length_eq_zero_iff.1 hT.1
  by_cases e:y=0
  · omega
  · exact absurd (by simp[detOf,detF,rowsOf,oneF,e]) hy
 |succ n ih=>
  intro T hT y hy
  obtain⟨R,T',rfl⟩:∃ R T',T=R::T':=by
   cases T with
   |nil=>exact absurd hT.1 (by simp)
   |cons R T'=>exact⟨R,T',rfl⟩
  have hl:T'.length=n:=by have:=hT.1;simpa using this
  rw[detOf_cons,hl]at hy
  obtain⟨j,hj,hne⟩:=altTo_supp _ _ y hy
  obtain⟨t,ht,hg⟩:=prodL_some _ _ y hne
  have h1:=ih _ (slim_less hT hj) _ hg
  obtain⟨q1,-,q3⟩:=hT.2 R (List.Mem.head _)
  have h2:=q3 (R.getD j []) (getD_mem R j [] (by omega)) t ht
  omega
theorem aPol_exps (x y:Int):∀ t∈aPol x y,0<=t.1/\t.1<=1:=by
 intro t ht
 unfold aPol at ht
 rcases List.mem_append.1 ht with h|h
 · split at h
   · cases h
   · obtain rfl:=List.mem_singleton.1 h
     exact⟨by simp,by simp⟩
 · split at h
   · cases h
   · obtain rfl:=List.mem_singleton.1 h
     exact⟨by simp,by simp⟩
theorem al_slim (C:List Cr) (n:Nat):Slim (alT C n) n:=by
 refine⟨alT_len C n,fun R hR=>?_⟩
 obtain⟨i,-,rfl⟩:=List.mem_map.1 hR
 refine⟨alR_len C n i,sumR_al C n i,fun l hl=>?_⟩
 obtain⟨j,-,rfl⟩:=List.mem_map.1 hl
 exact aPol_exps _ _
theorem canon_mayB {l:List (Int×Int)} {f:Int->Int} (h:Canon l f) (h1:∀ x,f x≠0->0<=x/\x<=10) (h2:∀ x,(f x).natAbs<=1000000):mayB l=true:=by
 have hlen:=canon_len h 10 (fun x hx=>by have:=h1 x hx;omega)
 refine(may_iff l).2 ⟨by omega,fun i hi=>?_⟩
 have hm:(l.getD i (0,0))∈l:=getD_mem l i (0,0) hi
 obtain⟨e,hc⟩:=(h.2 (l.getD i (0,0)).1 (l.getD i (0,0)).2).1 hm
 have hx:=h1 (l.getD i (0,0)).1 (by rw[e];exact hc)
 have hb:=h2 (l.getD i (0,0)).1
 rw[e]at hb
 rw[okB_iff]
 refine⟨by omega,by omega,by omega,by omega,hc,fun h0=>?_⟩
 have hp:=List.pairwise_iff_getElem.1 h.1 (i-1) i (by omega) hi (by omega)
 have g1:l.getD i (0,0)=l[i]:=by simp[List.getD_eq_getElem?_getD,hi]
 have g2:l.getD (i-1) (0,0)=l[i-1]:=by simp[List.getD_eq_getElem?_getD,show i-1<l.length by omega]
 rw[g1,g2]
 exact hp
theorem al_det' {C:List Cr} {n:Nat} (hn:n<=10) (hp:prSx (alT C n)<=1000000) {l:List (Int×Int)} (h:Canon l (detOf (alT C n))):mayB l=true:=by
 refine canon_mayB h (fun x hx=>?_) (fun x=>?_)
 · have:=det_few n _ (al_slim C n) x hx
   omega
 · have h1:=det_small n _ (al_slim C n) x
   omega
theorem roots_mer (W:List Nat) (x y:Nat) (n:Nat) (hl:W.length=n):∀ k,k<=n->rootsN W k<=rootsN (mer W x y) k+(if max (W.getD x 0) (W.getD y 0)<k then 1 else 0):=by
 intro k
 induction k with
 |zero=>intro _;simp[rootsN]
 |succ k ih=>
  intro hk
  have i1:=ih (by omega)
  simp only[rootsN]
  have hm:=mer_at W x y k (by omega)
  by_cases hr:1<=k/\W.getD k 0=k
  · rw[if_pos hr]
    by_cases he:k=max (W.getD x 0) (W.getD y 0)
    · rw[if_neg (by omega)]at i1
      rw[if_pos (show max (W.getD x 0) (W.getD y 0)<k+1 by omega)]
      omega
    · rw[if_neg (by rw[hr.2];exact he)]at hm
      rw[if_pos (show 1<=k/\(mer W x y).getD k 0=k from⟨hr.1,by rw[hm];exact hr.2⟩)]
      split at i1<;>split<;>omega
  · rw[if_neg hr]
    by_cases hq:max (W.getD x 0) (W.getD y 0)<k
    · rw[if_pos hq]at i1
      rw[if_pos (show max (W.getD x 0) (W.getD y 0)<k+1 by omega)]
      omega
    · rw[if_neg hq]at i1
      omega
theorem roots_mers (n:Nat):∀ (E:List (Nat×Nat)) (W:List Nat),W.length=n->rootsN W n<=rootsN (mers W E) n+E.length:=by
 intro E
 induction E with
 |nil=>intro W _;simp[mers]
 |cons e E ih=>
  intro W hl
  have h1:=roots_mer W e.1 e.2 n hl n (Nat.le_refl _)
  have h2:=ih (mer W e.1 e.2) (by rw[mer_len];exact hl)
  simp only[mers,List.length_cons]
  split at h1<;>omega
theorem roots_all (n:Nat):∀ k,k<=n->rootsN (List.range n) k=k-1:=by
 intro k
 induction k with
 |zero=>intro _;rfl
 |succ k ih=>
  intro hk
  have:=ih (by omega)
  have e:(List.range n).getD k 0=k:=by simp[List.getD_eq_getElem?_getD,show k<n by omega]
  simp only[rootsN,e]
  by_cases h1:1<=k
  · rw[if_pos ⟨h1,trivial⟩];omega
  · rw[if_neg (fun q=>h1 q.1)];omega
theorem ovC_ge (C:List Cr):C.length<=ovC C:=by
 have h:=roots_mers (2*C.length+1) (ovE C) (List.range (2*C.length+1)) (by simp)
 rw[roots_all _ _ (Nat.le_refl _)]at h
 have e:(ovE C).length=C.length:=by simp[ovE]
 unfold ovC lowM
 omega
theorem roots_last (L:List Nat):∀ k,0<rootsN L k->∃ r,1<=r/\r<k/\L.getD r 0=r/\rootsN L r+1=rootsN L k:=by
 intro k
 induction k with
 |zero=>intro h;simp[rootsN]at h
 |succ k ih=>
  intro h
  by_cases hr:1<=k/\L.getD k 0=k
  · refine⟨k,hr.1,by omega,hr.2,?_⟩
    simp only[rootsN]
    rw[if_pos hr]
  · have e:rootsN L (k+1)=rootsN L k:=by simp only[rootsN];rw[if_neg hr];rfl
    rw[e]at h ⊢
    obtain⟨r,r1,r2,r3,r4⟩:=ih h
    exact⟨r,r1,by omega,r3,r4⟩
theorem last_touch {C:List Cr} {loops:Int} (hm:mayD C loops=true) (h0:0<C.length):∃ i,i<C.length/\(outC' C (C.getD i Cr.none)=ovC C-1∨inC C (C.getD i Cr.none)=ovC C-1∨ovM C (C.getD i Cr.none).b.toNat=ovC C-1):=by
 obtain⟨r,r1,r2,r3,r4⟩:=roots_last (lowM C) (2*C.length+1) (by have:=ovC_ge C;unfold ovC at this;omega)
 have hr:ovM C r=ovC C-1:=by unfold ovM ovC;rw[r3];omega
 obtain⟨i,k,hi,hk,ha,-,-⟩:=end_may hm r r1 (by omega) true
 have hL:=lowM_least (ovE_lt hm)
 have hmem:C.getD i Cr.none∈C:=(by simp[List.getD_eq_getElem?_getD,hi])
 refine⟨i,hi,?_⟩
 have hk4:k=0∨k=1∨k=2∨k=3:=by omega
 rcases hk4 with rfl|rfl|rfl|rfl
 · have e:(C.getD i Cr.none).a.toNat=r:=by have:(C.getD i Cr.none).a=(r:Int):=ha;omega
   unfold outC' inC
   rw[e]
   cases (C.getD i Cr.none).plus
   · left;exact hr
   · right;left;exact hr
 · have e:(C.getD i Cr.none).b.toNat=r:=by have:(C.getD i Cr.none).b=(r:Int):=ha;omega
   right;right;rw[e];exact hr
 · have e:(C.getD i Cr.none).c.toNat=r:=by have:(C.getD i Cr.none).c=(r:Int):=ha;omega
   unfold outC' inC
   rw[e]
   cases (C.getD i Cr.none).plus
   · right;left;exact hr
   · left;exact hr
 · have e:(C.getD i Cr.none).d.toNat=r:=by have:(C.getD i Cr.none).d=(r:Int):=ha;omega
   right;right
   have hE:((C.getD i Cr.none).b.toNat,(C.getD i Cr.none).d.toNat)∈ovE C:=List.mem_map.2 ⟨_,hmem,rfl⟩
   have hlt:=ovE_lt hm _ hE
   have hbd:(lowM C).getD (C.getD i Cr.none).b.toNat 0=(lowM C).getD (C.getD i Cr.none).d.toNat 0:=(hL.same hlt.1 hlt.2).2 (Con.edge hE)
   unfold ovM at hr ⊢
   rw[hbd,e]
   exact hr
theorem rowS_touch (o i v m:Nat) (h:o=m∨i=m∨v=m):rowS (rowF o i v) m<=3:=by
 unfold rowF
 rcases h with rfl|rfl|rfl
 · have h1:=rowS_add (addFa (addFa zeroF o 1 0) i 0 (-1)) v (-1) 1 o
   have h2:=rowS_add (addFa zeroF o 1 0) i 0 (-1) o
   have h3:=rowS_far zeroF o 1 0 o (Nat.le_refl _)
   rw[rowS_zero]at h3
   simp only[Int.natAbs_neg,Int.natAbs_one,Int.natAbs_zero]at h1 h2
   omega
 · have h1:=rowS_add (addFa (addFa zeroF o 1 0) i 0 (-1)) v (-1) 1 i
   have h2:=rowS_far (addFa zeroF o 1 0) i 0 (-1) i (Nat.le_refl _)
   have h3:=rowS_add zeroF o 1 0 i
   rw[rowS_zero]at h3
   simp only[Int.natAbs_neg,Int.natAbs_one,Int.natAbs_zero]at h1 h3
   omega
 · have h1:=rowS_far (addFa (addFa zeroF o 1 0) i 0 (-1)) v (-1) 1 v (Nat.le_refl _)
   have h2:=rowS_add (addFa zeroF o 1 0) i 0 (-1) v
   have h3:=rowS_add zeroF o 1 0 v
   rw[rowS_zero]at h3
   simp only[Int.natAbs_neg,Int.natAbs_one,Int.natAbs_zero]at h2 h3
   omega
theorem al_det {C:List Cr} {loops:Int} (hm:mayD C loops=true) (h0:0<C.length) (h10:C.length<=10) (hs:ovC C-1<=C.length) {l:List (Int×Int)} (h:Canon l (detOf (alT C (ovC C-1)))):mayB l=true:=by
 have hS:=al_slim C (ovC C-1)
 have h4:∀ R∈alT C (ovC C-1),sumRx R<=4:=fun R hR=>(hS.2 R hR).2.1
 refine al_det' (by omega) ?_ h
 by_cases h9:ovC C-1<=9
 · have h1:=prS_four _ h4
   rw[alT_len]at h1
   have h2:4 ^ (ovC C-1)<=4 ^ 9:=Nat.pow_le_pow_right (by decide) h9
   have h3:(4:Nat) ^ 9<=1000000:=by decide
   omega
 · obtain⟨i,hi,ht⟩:=last_touch hm h0
   have h1 := prS_three _ h4 (alR C (ovC C - 1) i) (List.mem_map.2 ⟨i, List.mem_range.2 (by omega), rfl⟩) (by
    rw[sumR_row]
    exact rowS_touch _ _ _ _ ht)
   rw[alT_len]at h1
   have e:ovC C-1=10:=by omega
   rw[e]at h1
   rw[e]
   have h3:3*4 ^ 10<=4*1000000:=by decide
   omega
end Go.Proofs.Ytgagenmkpmmpfaa
