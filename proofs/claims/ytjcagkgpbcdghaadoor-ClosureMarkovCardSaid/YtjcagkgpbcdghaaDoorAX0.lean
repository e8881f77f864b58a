/- Plain mathematics: the determinant of Alexander's table is small, and of few terms; there are as many overpasses as crossings, or more. -/
import Derived.Test.YtjcagkgpbcdghaaDoorAD6P
import Derived.Test.YtjcagkgpbcdghaaDoorW3P
namespace Go.Proofs.YtjcagkgpbcdghaaDoor
open Poly
theorem ZB0 (c:Int):Xy8 c=(c.natAbs:Int):=by unfold Xy8;split<;>omega
theorem XY9 (x y:Int):QF6 (QY5 x y)=(x.natAbs:Int)+(y.natAbs:Int):=by
 unfold QF6 QY5
 by_cases hx:x=0<;>by_cases hy:y=0<;>simp[hx,hy,QZ8,ZB0]
theorem XC7 (l:List (Int×Int)) (k:Nat):0<=QZ8 l k:=by
 induction k with
 |zero=>simp[QZ8]
 |succ k ih=>simp only[QZ8];rw[ZB0];omega
theorem Qd7 (l:List (Int×Int)):0<=QF6 l:=XC7 l l.length
def Xq8 (F:Nat->Int×Int):Nat->Int
 |0=>0
 |m+1=>Xq8 F m+(((F m).1.natAbs:Int)+((F m).2.natAbs:Int))
theorem Xh7 (F:Nat->Int×Int) (m:Nat):0<=Xq8 F m:=by
 induction m with
 |zero=>exact Int.le_refl _
 |succ m ih=>simp only[Xq8];omega
theorem Qg1 (F:Nat->Int×Int) (p:Nat) (dx dy:Int) (m:Nat) (h:m<=p):Xq8 (QX7 F p dx dy) m=Xq8 F m:=by
 induction m with
 |zero=>rfl
 |succ m ih=>
  simp only[Xq8]
  rw[ih (by omega)]
  have e:QX7 F p dx dy m=F m:=by unfold QX7;rw[if_neg (by omega)]
  rw[e]
theorem QB2 (F:Nat->Int×Int) (p:Nat) (dx dy:Int) (m:Nat):Xq8 (QX7 F p dx dy) m<=Xq8 F m+((dx.natAbs:Int)+(dy.natAbs:Int)):=by
 induction m with
 |zero=>simp only[Xq8];omega
 |succ m ih=>
  simp only[Xq8]
  by_cases e:m=p
  · rw[Qg1 F p dx dy m (by omega)]
    have e2:QX7 F p dx dy m=((F m).1+dx,(F m).2+dy):=by unfold QX7;rw[if_pos e]
    rw[e2]
    simp only
    omega
  · have e2:QX7 F p dx dy m=F m:=by unfold QX7;rw[if_neg e]
    rw[e2]
    omega
theorem Qw2 (m:Nat):Xq8 QK1 m=0:=by
 induction m with
 |zero=>rfl
 |succ m ih=>simp[Xq8,ih,QK1]
theorem Zw4 (C:List Cr) (k m:Nat):Xq8 (alF C k) m<=4:=by
 unfold alF rowF
 refine Int.le_trans (QB2 _ _ _ _ m) ?_
 have h1:=QB2 (QX7 QK1 (XW7 C (C.getD k Cr.none)) 1 0) (inC C (C.getD k Cr.none)) 0 (-1) m
 have h2:=QB2 QK1 (XW7 C (C.getD k Cr.none)) 1 0 m
 rw[Qw2]at h2
 simp only[Int.natAbs_neg,Int.natAbs_one,Int.natAbs_zero]at h1 h2 ⊢
 omega
theorem Kg5 (F:Nat->Int×Int) (m j:Nat) (h:j<m):((F j).1.natAbs:Int)+((F j).2.natAbs:Int)<=Xq8 F m:=by
 induction m with
 |zero=>omega
 |succ m ih=>
  simp only[Xq8]
  by_cases e:j=m
  · subst e;have:=Xh7 F j;omega
  · have:=ih (by omega);omega
theorem ZY7 (C:List Cr) (k j:Nat):((alF C k j).1.natAbs:Int)+((alF C k j).2.natAbs:Int)<=4:=Int.le_trans (Kg5 _ (j+1) j (by omega)) (Zw4 C k (j+1))
def alR (C:List Cr) (n i:Nat):List (List (Int×Int)):=(List.range n).map fun j=>QY5 (alF C i j).1 (alF C i j).2
def alT (C:List Cr) (n:Nat):List (List (List (Int×Int))):=(List.range n).map (alR C n)
theorem XX2 (C:List Cr) (n i:Nat):(alR C n i).length=n:=by simp[alR]
theorem Qk3 (C:List Cr) (n:Nat):(alT C n).length=n:=by simp[alT]
theorem Zk7 (C:List Cr) (n i j:Nat) (h:j<n):(alR C n i).getD j []=QY5 (alF C i j).1 (alF C i j).2:=by simp[alR,List.getD_eq_getElem?_getD,h]
theorem JC0 (C:List Cr) (n i:Nat) (h:i<n):(alT C n).getD i []=alR C n i:=by simp[alT,List.getD_eq_getElem?_getD,h]
theorem JW1 (C:List Cr) (i j:Nat):mayB (QY5 (alF C i j).1 (alF C i j).2)=true:=by
 have:=ZY7 C i j
 exact XC5 _ _ (by omega) (by omega)
theorem JW2 (C:List Cr) (n:Nat):KY4 (alT C n) n:=by
 refine⟨Qk3 C n,fun R hR=>?_⟩
 obtain⟨i,-,rfl⟩:=List.mem_map.1 hR
 refine⟨XX2 C n i,fun l hl=>?_⟩
 obtain⟨j,-,rfl⟩:=List.mem_map.1 hl
 exact⟨JW1 C i j,by rw[XY9];exact ZY7 C i j⟩
def QD4 (R:List (List (Int×Int))):Int:=(R.map QF6).sum
theorem QC6 (l:List (Int×Int)) (R:List (List (Int×Int))):QD4 (l::R)=QF6 l+QD4 R:=by simp[QD4]
theorem Xh2 (R:List (List (Int×Int))):0<=QD4 R:=by
 induction R with
 |nil=>simp[QD4]
 |cons l R ih=>rw[QC6];have:=Qd7 l;omega
theorem XY8 (R:List (List (Int×Int))) (c:Nat):QD4 (R.eraseIdx c)<=QD4 R:=by
 induction R generalizing c with
 |nil=>simp[QD4]
 |cons l R ih=>
  cases c with
  |zero=>rw[List.eraseIdx_cons_zero,QC6];have:=Qd7 l;omega
  |succ c=>rw[List.eraseIdx_cons_succ,QC6,QC6];have:=ih c;omega
theorem ZJ5 (C:List Cr) (m i:Nat):QD4 (alR C m i)=Xq8 (alF C i) m:=by
 induction m with
 |zero=>rfl
 |succ m ih=>
  have:alR C (m+1) i=alR C m i++[QY5 (alF C i m).1 (alF C i m).2]:=by simp[alR,List.range_succ]
  rw[this]
  unfold QD4 at ih ⊢
  rw[List.map_append,List.sum_append,ih]
  simp[Xq8,XY9]
theorem Kf2 (C:List Cr) (n i:Nat):QD4 (alR C n i)<=4:=by
 rw[ZJ5]
 exact Zw4 C i n
def JU5 (T:List (List (List (Int×Int)))) (n:Nat):Prop:=T.length=n/\∀ R∈T,R.length=n/\QD4 R<=4/\∀ l∈R,∀ t∈l,0<=t.1/\t.1<=1
theorem Xk6 {R:List (List (Int×Int))} {T:List (List (List (Int×Int)))} {n c:Nat} (h:JU5 (R::T) (n+1)) (hc:c<n+1):JU5 (XQ0 (R::T) c) n:=by
 obtain⟨h1,h2⟩:=h
 refine⟨by simp[XQ0]at h1 ⊢;omega,fun R' hR'=>?_⟩
 obtain⟨Q,hQ,rfl⟩:=List.mem_map.1 hR'
 obtain⟨q1,q2,q3⟩:=h2 Q (List.Mem.tail _ hQ)
 refine⟨by rw[List.length_eraseIdx_of_lt (by omega)];omega,Int.le_trans (XY8 Q c) q2,fun l hl=>q3 l (List.mem_of_mem_eraseIdx hl)⟩
def Qh6 (R:List (List (Int×Int))):Nat->Int
 |0=>0
 |m+1=>Qh6 R m+QF6 (R.getD m [])
theorem ZG8 (l:List (Int×Int)) (R:List (List (Int×Int))) (m:Nat):Qh6 (l::R) (m+1)=QF6 l+Qh6 R m:=by
 induction m with
 |zero=>simp[Qh6]
 |succ m ih=>rw[Qh6,ih,Qh6];simp;omega
theorem KX7 (R:List (List (Int×Int))):Qh6 R R.length=QD4 R:=by
 induction R with
 |nil=>rfl
 |cons l R ih=>rw[List.length_cons,ZG8,ih,QC6]
theorem prodL_size (l:List (Int×Int)) (g:Int->Int) (H:Nat) (hg:∀ x,(g x).natAbs<=H) (y:Int):((QQ5 l g y).natAbs:Int)<=QF6 l*(H:Int):=by
 have h:=Xj4 l g H hg y l.length (Nat.le_refl _)
 rw[List.take_length]at h
 exact h
theorem Zq9 (R:List (List (Int×Int))) (h:Nat->Int->Int) (H:Nat) (m:Nat) (hh:∀ c,c<m->∀ x,(h c x).natAbs<=H) (y:Int):((QH2 (fun c=>QQ5 (R.getD c []) (h c)) m y).natAbs:Int)<=Qh6 R m*(H:Int):=by
 induction m with
 |zero=>simp[QH2,Qh6]
 |succ m ih=>
  have i1:=ih (fun c hc=>hh c (by omega))
  have i2:=prodL_size (R.getD m []) (h m) H (hh m (by omega)) y
  simp only[QH2,Qh6,Int.add_mul]
  have i3:=Int.natAbs_add_le (QH2 (fun c=>QQ5 (R.getD c []) (h c)) m y) (sgn m*QQ5 (R.getD m []) (h m) y)
  have i4:(sgn m*QQ5 (R.getD m []) (h m) y).natAbs=(QQ5 (R.getD m []) (h m) y).natAbs:=by
   rcases Kf6 m with e|e<;>rw[e]<;>simp
  omega
def Xq9:List (List (List (Int×Int)))->Nat
 |[]=>1
 |R::T=>(QD4 R).toNat*Xq9 T
theorem KX3 (T:List (List (List (Int×Int)))) (c:Nat):Xq9 (T.map (fun R=>R.eraseIdx c))<=Xq9 T:=by
 induction T with
 |nil=>exact Nat.le_refl _
 |cons R T ih=>
  simp only[List.map_cons,Xq9]
  have:=XY8 R c
  exact Nat.mul_le_mul (by omega) ih
theorem ZV7 (T:List (List (List (Int×Int)))) (h:∀ R∈T,QD4 R<=4):Xq9 T<=4 ^ T.length:=by
 induction T with
 |nil=>exact Nat.le_refl _
 |cons R T ih=>
  have h1:=ih fun R' h'=>h R' (List.Mem.tail _ h')
  have h2:=h R (List.Mem.head _)
  rw[List.length_cons,Nat.pow_succ,Nat.mul_comm (4 ^ T.length)]
  exact Nat.mul_le_mul (by omega) h1
theorem KX1 (T:List (List (List (Int×Int)))) (h:∀ R∈T,QD4 R<=4) (R0:List (List (Int×Int))) (h0:R0∈T) (h3:QD4 R0<=3):4*Xq9 T<=3*4 ^ T.length:=by
 induction T with
 |nil=>cases h0
 |cons R T ih=>
  have h4:4 ^ (T.length+1)=4*4 ^ T.length:=by rw[Nat.pow_succ];omega
  rw[List.length_cons,h4]
  simp only[Xq9]
  rcases List.mem_cons.1 h0 with e|e
  · have h1:=ZV7 T fun R' h'=>h R' (List.Mem.tail _ h')
    have h2:(QD4 R).toNat*Xq9 T<=3*4 ^ T.length:=Nat.mul_le_mul (by rw[<-e];omega) h1
    omega
  · have h1:=ih (fun R' h'=>h R' (List.Mem.tail _ h')) e
    have h2:=h R (List.Mem.head _)
    have h5:(QD4 R).toNat*Xq9 T<=4*Xq9 T:=Nat.mul_le_mul (by omega) (Nat.le_refl _)
    omega
theorem KV3:∀ (n:Nat) (T:List (List (List (Int×Int)))),JU5 T n->∀ y,(detOf T y).natAbs<=Xq9 T:=by
 intro n
 induction n with
 |zero=>
  intro T hT y
  obtain rfl:T=[]:=List.length_eq_zero_iff.1 hT.1
  by_cases e:y=0
  · simp[detOf,Xx2,rowsOf,KU3,e,Xq9]
  · simp[detOf,Xx2,rowsOf,KU3,e,Xq9]
 |succ n ih=>
  intro T hT y
  obtain⟨R,T',rfl⟩:∃ R T',T=R::T':=by
   cases T with
   |nil=>exact absurd hT.1 (by simp)
   |cons R T'=>exact⟨R,T',rfl⟩
  have hl:T'.length=n:=by have:=hT.1;simpa using this
  rw[XD9,hl]
  have h1:=Zq9 R (fun c=>detOf (XQ0 (R::T') c)) (Xq9 T') (n+1) (fun c hc x=>Nat.le_trans (ih _ (Xk6 hT hc) x) (KX3 T' c)) y
  obtain⟨q1,-,-⟩:=hT.2 R (List.Mem.head _)
  have h2:Qh6 R (n+1)=QD4 R:=by rw[<-q1,KX7]
  rw[h2]at h1
  have h3:=Xh2 R
  have h4:((Xq9 (R::T'):Nat):Int)=QD4 R*((Xq9 T':Nat):Int):=by
   simp only[Xq9]
   rw[Int.natCast_mul,Int.toNat_of_nonneg h3]
  rw[<-h4]at h1
  omega
theorem ZG2 (l:List (Int×Int)) (g:Int->Int) (y:Int) (h:QQ5 l g y≠0):∃ t∈l,g (y-t.1)≠0:=by
 induction l with
 |nil=>exact absurd rfl h
 |cons t l ih=>
  by_cases e:g (y-t.1)=0
  · have h2:QQ5 l g y≠0:=fun q=>h (by simp[QQ5,e,q])
    obtain⟨u,hu,hg⟩:=ih h2
    exact⟨u,List.Mem.tail _ hu,hg⟩
  · exact⟨t,List.Mem.head _,e⟩
theorem Xg0:∀ (n:Nat) (T:List (List (List (Int×Int)))),JU5 T n->∀ y,detOf T y≠0->0<=y/\y<=(n:Int):=by
 intro n
 induction n with
 |zero=>
  intro T hT y hy
  obtain rfl:T=[]:=List.length_eq_zero_iff.1 hT.1
  by_cases e:y=0
  · omega
  · exact absurd (by simp[detOf,Xx2,rowsOf,KU3,e]) hy
 |succ n ih=>
  intro T hT y hy
  obtain⟨R,T',rfl⟩:∃ R T',T=R::T':=by
   cases T with
   |nil=>exact absurd hT.1 (by simp)
   |cons R T'=>exact⟨R,T',rfl⟩
  have hl:T'.length=n:=by have:=hT.1;simpa using this
  rw[XD9,hl]at hy
  obtain⟨j,hj,hne⟩:=Zq8 _ _ y hy
  obtain⟨t,ht,hg⟩:=ZG2 _ _ y hne
  have h1:=ih _ (Xk6 hT hj) _ hg
  obtain⟨q1,-,q3⟩:=hT.2 R (List.Mem.head _)
  have h2:=q3 (R.getD j []) (getD_mem R j [] (by omega)) t ht
  omega
theorem KU1 (x y:Int):∀ t∈QY5 x y,0<=t.1/\t.1<=1:=by
 intro t ht
 unfold QY5 at ht
 rcases List.mem_append.1 ht with h|h
 · split at h
   · cases h
   · obtain rfl:=List.mem_singleton.1 h
     exact⟨by simp,by simp⟩
 · split at h
   · cases h
   · obtain rfl:=List.mem_singleton.1 h
     exact⟨by simp,by simp⟩
theorem XX1 (C:List Cr) (n:Nat):JU5 (alT C n) n:=by
 refine⟨Qk3 C n,fun R hR=>?_⟩
 obtain⟨i,-,rfl⟩:=List.mem_map.1 hR
 refine⟨XX2 C n i,Kf2 C n i,fun l hl=>?_⟩
 obtain⟨j,-,rfl⟩:=List.mem_map.1 hl
 exact KU1 _ _
theorem Zq5 {l:List (Int×Int)} {f:Int->Int} (h:Canon l f) (h1:∀ x,f x≠0->0<=x/\x<=10) (h2:∀ x,(f x).natAbs<=1000000):mayB l=true:=by
 have hlen:=KW3 h 10 (fun x hx=>by have:=h1 x hx;omega)
 refine(may_iff l).2 ⟨by omega,fun i hi=>?_⟩
 have hm:(l.getD i (0,0))∈l:=getD_mem l i (0,0) hi
 obtain⟨e,hc⟩:=(h.2 (l.getD i (0,0)).1 (l.getD i (0,0)).2).1 hm
 have hx:=h1 (l.getD i (0,0)).1 (by rw[e];exact hc)
 have hb:=h2 (l.getD i (0,0)).1
 rw[e]at hb
 rw[okB_iff]
 refine⟨by omega,by omega,by omega,by omega,hc,fun h0=>?_⟩
 have hp:=List.pairwise_iff_getElem.1 h.1 (i-1) i (by omega) hi (by omega)
 have g1:l.getD i (0,0)=l[i]:=by simp[List.getD_eq_getElem?_getD,hi]
 have g2:l.getD (i-1) (0,0)=l[i-1]:=by simp[List.getD_eq_getElem?_getD,show i-1<l.length by omega]
 rw[g1,g2]
 exact hp
theorem JW3 {C:List Cr} {n:Nat} (hn:n<=10) (hp:Xq9 (alT C n)<=1000000) {l:List (Int×Int)} (h:Canon l (detOf (alT C n))):mayB l=true:=by
 refine Zq5 h (fun x hx=>?_) (fun x=>?_)
 · have:=Xg0 n _ (XX1 C n) x hx
   omega
 · have h1:=KV3 n _ (XX1 C n) x
   omega
theorem Zh8 (W:List Nat) (x y:Nat) (n:Nat) (hl:W.length=n):∀ k,k<=n->QQ6 W k<=QQ6 (mer W x y) k+(if max (W.getD x 0) (W.getD y 0)<k then 1 else 0):=by
 intro k
 induction k with
 |zero=>intro _;simp[QQ6]
 |succ k ih=>
  intro hk
  have i1:=ih (by omega)
  simp only[QQ6]
  have hm:=QC0 W x y k (by omega)
  by_cases hr:1<=k/\W.getD k 0=k
  · rw[if_pos hr]
    by_cases he:k=max (W.getD x 0) (W.getD y 0)
    · rw[if_neg (by omega)]at i1
      rw[if_pos (show max (W.getD x 0) (W.getD y 0)<k+1 by omega)]
      omega
    · rw[if_neg (by rw[hr.2];exact he)]at hm
      rw[if_pos (show 1<=k/\(mer W x y).getD k 0=k from⟨hr.1,by rw[hm];exact hr.2⟩)]
      split at i1<;>split<;>omega
  · rw[if_neg hr]
    by_cases hq:max (W.getD x 0) (W.getD y 0)<k
    · rw[if_pos hq]at i1
      rw[if_pos (show max (W.getD x 0) (W.getD y 0)<k+1 by omega)]
      omega
    · rw[if_neg hq]at i1
      omega
theorem ZF5 (n:Nat):∀ (E:List (Nat×Nat)) (W:List Nat),W.length=n->QQ6 W n<=QQ6 (QF5 W E) n+E.length:=by
 intro E
 induction E with
 |nil=>intro W _;simp[QF5]
 |cons e E ih=>
  intro W hl
  have h1:=Zh8 W e.1 e.2 n hl n (Nat.le_refl _)
  have h2:=ih (mer W e.1 e.2) (by rw[XG4];exact hl)
  simp only[QF5,List.length_cons]
  split at h1<;>omega
theorem KQ0 (n:Nat):∀ k,k<=n->QQ6 (List.range n) k=k-1:=by
 intro k
 induction k with
 |zero=>intro _;rfl
 |succ k ih=>
  intro hk
  have:=ih (by omega)
  have e:(List.range n).getD k 0=k:=by simp[List.getD_eq_getElem?_getD,show k<n by omega]
  simp only[QQ6,e]
  by_cases h1:1<=k
  · rw[if_pos ⟨h1,trivial⟩];omega
  · rw[if_neg (fun q=>h1 q.1)];omega
theorem ZZ7 (C:List Cr):C.length<=ovC C:=by
 have h:=ZF5 (2*C.length+1) (ovE C) (List.range (2*C.length+1)) (by simp)
 rw[KQ0 _ _ (Nat.le_refl _)]at h
 have e:(ovE C).length=C.length:=by simp[ovE]
 unfold ovC QK4
 omega
theorem ZF6 (L:List Nat):∀ k,0<QQ6 L k->∃ r,1<=r/\r<k/\L.getD r 0=r/\QQ6 L r+1=QQ6 L k:=by
 intro k
 induction k with
 |zero=>intro h;simp[QQ6]at h
 |succ k ih=>
  intro h
  by_cases hr:1<=k/\L.getD k 0=k
  · refine⟨k,hr.1,by omega,hr.2,?_⟩
    simp only[QQ6]
    rw[if_pos hr]
  · have e:QQ6 L (k+1)=QQ6 L k:=by simp only[QQ6];rw[if_neg hr];rfl
    rw[e]at h ⊢
    obtain⟨r,r1,r2,r3,r4⟩:=ih h
    exact⟨r,r1,by omega,r3,r4⟩
theorem ZA4 {C:List Cr} {loops:Int} (hm:QX3 C loops=true) (h0:0<C.length):∃ i,i<C.length/\(XW7 C (C.getD i Cr.none)=ovC C-1∨inC C (C.getD i Cr.none)=ovC C-1∨ovM C (C.getD i Cr.none).b.toNat=ovC C-1):=by
 obtain⟨r,r1,r2,r3,r4⟩:=ZF6 (QK4 C) (2*C.length+1) (by have:=ZZ7 C;unfold ovC at this;omega)
 have hr:ovM C r=ovC C-1:=by unfold ovM ovC;rw[r3];omega
 obtain⟨i,k,hi,hk,ha,-,-⟩:=Xf7 hm r r1 (by omega) true
 have hL:=QU4 (Qz2 hm)
 have hmem:C.getD i Cr.none∈C:=(by simp[List.getD_eq_getElem?_getD,hi])
 refine⟨i,hi,?_⟩
 have hk4:k=0∨k=1∨k=2∨k=3:=by omega
 rcases hk4 with rfl|rfl|rfl|rfl
 · have e:(C.getD i Cr.none).a.toNat=r:=by have:(C.getD i Cr.none).a=(r:Int):=ha;omega
   unfold XW7 inC
   rw[e]
   cases (C.getD i Cr.none).plus
   · left;exact hr
   · right;left;exact hr
 · have e:(C.getD i Cr.none).b.toNat=r:=by have:(C.getD i Cr.none).b=(r:Int):=ha;omega
   right;right;rw[e];exact hr
 · have e:(C.getD i Cr.none).c.toNat=r:=by have:(C.getD i Cr.none).c=(r:Int):=ha;omega
   unfold XW7 inC
   rw[e]
   cases (C.getD i Cr.none).plus
   · right;left;exact hr
   · left;exact hr
 · have e:(C.getD i Cr.none).d.toNat=r:=by have:(C.getD i Cr.none).d=(r:Int):=ha;omega
   right;right
   have hE:((C.getD i Cr.none).b.toNat,(C.getD i Cr.none).d.toNat)∈ovE C:=List.mem_map.2 ⟨_,hmem,rfl⟩
   have hlt:=Qz2 hm _ hE
   have hbd:(QK4 C).getD (C.getD i Cr.none).b.toNat 0=(QK4 C).getD (C.getD i Cr.none).d.toNat 0:=(hL.same hlt.1 hlt.2).2 (Con.edge hE)
   unfold ovM at hr ⊢
   rw[hbd,e]
   exact hr
theorem ZF2 (o i v m:Nat) (h:o=m∨i=m∨v=m):Xq8 (rowF o i v) m<=3:=by
 unfold rowF
 rcases h with rfl|rfl|rfl
 · have h1:=QB2 (QX7 (QX7 QK1 o 1 0) i 0 (-1)) v (-1) 1 o
   have h2:=QB2 (QX7 QK1 o 1 0) i 0 (-1) o
   have h3:=Qg1 QK1 o 1 0 o (Nat.le_refl _)
   rw[Qw2]at h3
   simp only[Int.natAbs_neg,Int.natAbs_one,Int.natAbs_zero]at h1 h2
   omega
 · have h1:=QB2 (QX7 (QX7 QK1 o 1 0) i 0 (-1)) v (-1) 1 i
   have h2:=Qg1 (QX7 QK1 o 1 0) i 0 (-1) i (Nat.le_refl _)
   have h3:=QB2 QK1 o 1 0 i
   rw[Qw2]at h3
   simp only[Int.natAbs_neg,Int.natAbs_one,Int.natAbs_zero]at h1 h3
   omega
 · have h1:=Qg1 (QX7 (QX7 QK1 o 1 0) i 0 (-1)) v (-1) 1 v (Nat.le_refl _)
   have h2:=QB2 (QX7 QK1 o 1 0) i 0 (-1) v
   have h3:=QB2 QK1 o 1 0 v
   rw[Qw2]at h3
   simp only[Int.natAbs_neg,Int.natAbs_one,Int.natAbs_zero]at h2 h3
   omega
theorem Ky3 {C:List Cr} {loops:Int} (hm:QX3 C loops=true) (h0:0<C.length) (h10:C.length<=10) (hs:ovC C-1<=C.length) {l:List (Int×Int)} (h:Canon l (detOf (alT C (ovC C-1)))):mayB l=true:=by
 have hS:=XX1 C (ovC C-1)
 have h4:∀ R∈alT C (ovC C-1),QD4 R<=4:=fun R hR=>(hS.2 R hR).2.1
 refine JW3 (by omega) ?_ h
 by_cases h9:ovC C-1<=9
 · have h1:=ZV7 _ h4
   rw[Qk3]at h1
   have h2:4 ^ (ovC C-1)<=4 ^ 9:=Nat.pow_le_pow_right (by decide) h9
   have h3:(4:Nat) ^ 9<=1000000:=by decide
   omega
 · obtain⟨i,hi,ht⟩:=ZA4 hm h0
   have h1 := KX1 _ h4 (alR C (ovC C - 1) i) (List.mem_map.2 ⟨i, List.mem_range.2 (by omega), rfl⟩) (by
    rw[ZJ5]
    exact ZF2 _ _ _ _ ht)
   rw[Qk3]at h1
   have e:ovC C-1=10:=by omega
   rw[e]at h1
   rw[e]
   have h3:3*4 ^ 10<=4*1000000:=by decide
   omega
end Go.Proofs.YtjcagkgpbcdghaaDoor
