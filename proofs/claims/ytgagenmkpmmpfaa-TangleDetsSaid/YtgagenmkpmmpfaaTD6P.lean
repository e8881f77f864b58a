/- Several texts of the proof, one behind the other. -/
import Derived.Test.YtgagenmkpmmpfaaTD2P
import Derived.Test.YtgagenmkpmmpfaaAS4P
/- The link's arcs as classes of the tangle's: how many; plain mathematics. -/
namespace Go.Proofs.Ytgagenmkpmmpfaa
theorem tV_ties (st:Nat->Bool×Bool) (n:Nat):Ties n (tV st n):=by
 have h0:=(tN_tel st n).1
 have h1:=jn_invo h0 (a:=0) (b:=1) (by unfold Dom;omega) (by unfold Dom;omega) (by decide)
 have h2:=jn_invo h1 (a:=2) (b:=3) ⟨by unfold Dom;omega,by decide,by decide⟩ ⟨by unfold Dom;omega,by decide,by decide⟩ (by decide)
 have h3:=h2.congr (D':=SpT n) fun x=>by
  unfold Dom SpT
  constructor
  · intro hx;omega
  · intro hx;exact⟨⟨by omega,by omega,by omega⟩,by omega,by omega⟩
 exact⟨h3.sp,h3.inv,h3.ne⟩
def tK (st:Nat->Bool×Bool) (n:Nat):List (Nat×Nat):=[(tE st n 0,tE st n 1),(tE st n 2,tE st n 3)]
def tB (st:Nat->Bool×Bool) (n:Nat):List Nat:=mers (List.range (2*n+3)) (tK st n)
theorem tK_in (st:Nat->Bool×Bool) (n:Nat):∀ e∈tK st n,1<=e.1/\e.1<=2*n+2/\1<=e.2/\e.2<=2*n+2:=fun e he=>by
 have h0:=tE_lt st n 0
 have h1:=tE_lt st n 1
 have h2:=tE_lt st n 2
 have h3:=tE_lt st n 3
 rcases List.mem_cons.1 he with rfl|he
 · exact⟨h0.1,h0.2,h1.1,h1.2⟩
 · rw[List.mem_singleton.1 he];exact⟨h2.1,h2.2,h3.1,h3.2⟩
theorem tB_least (st:Nat->Bool×Bool) (n:Nat):Least (tK st n) (2*n+2+1) (tB st n):=by
 have:=mers_least (2*n+3) (tK st n) [] (List.range (2*n+3)) (fun e he=>by have:=tK_in st n e (by simpa using he);omega) (least_nil _)
 rwa [List.nil_append]at this
theorem tM_con (st:Nat->Bool×Bool) (n v:Nat):Con (tK st n) v (tM st n v):=by
 unfold tM
 split
 · rename_i h
   rw[h]
   exact(Con.edge (List.mem_cons_self)).symm
 · exact Con.refl _ _
theorem tW_con (st:Nat->Bool×Bool) (n v:Nat):Con (tK st n) v (tW st n v):=by
 unfold tW
 split
 · rename_i h
   refine(tM_con st n v).trans ?_
   rw[h]
   refine(tM_con st n _).symm.trans (Con.trans (Con.symm (Con.edge (x:=tE st n 2) (y:=tE st n 3) (List.mem_cons_of_mem _ (List.mem_cons_self)))) (tM_con st n _))
 · exact tM_con st n v
theorem tB_same (st:Nat->Bool×Bool) (n:Nat) {v w:Nat} (hv:v<=2*n+2) (hw:w<=2*n+2):(tB st n).getD v 0=(tB st n).getD w 0↔tW st n v=tW st n w:=by
 rw[(tB_least st n).same (by omega) (by omega)]
 constructor
 · intro h
   refine h (fun z=>tW st n v=tW st n z) (fun e he=>?_) rfl
   have k:tW st n e.1=tW st n e.2:=by
    rcases List.mem_cons.1 he with rfl|he
    · show tW st n (tE st n 0)=tW st n (tE st n 1)
      have:tM st n (tE st n 0)=tM st n (tE st n 1):=by
       unfold tM
       rw[if_pos (show tE st n 1=tE st n 1 from rfl)]
       split<;>rfl
      unfold tW
      rw[this]
    · rw[List.mem_singleton.1 he]
      show tW st n (tE st n 2)=tW st n (tE st n 3)
      unfold tW
      rw[if_pos (show tM st n (tE st n 3)=tM st n (tE st n 3) from rfl)]
      split<;>rfl
   show tW st n v=tW st n e.1↔tW st n v=tW st n e.2
   rw[k]
 · intro h
   refine(tW_con st n v).trans ?_
   rw[h]
   exact(tW_con st n w).symm
theorem arc_cls (st:Nat->Bool×Bool) (n:Nat) {x y:Nat} (hx:SpT n x) (hy:SpT n y):FL (tV st n) (goC n (tV st n) n) x=FL (tV st n) (goC n (tV st n) n) y↔(tB st n).getD (tN st n x) 0=(tB st n).getD (tN st n y) 0:=by
 have bx:=tN_bd st n x
 have b:=tN_bd st n y
 rw[FL_one (tV_ties st n) hx hy,tB_same st n bx.2 b.2]
 exact(tV_tel st n x y hx hy).symm
theorem tB_len (st:Nat->Bool×Bool) (n:Nat) (h1:tE st n 0≠tE st n 1) (h2:tM st n (tE st n 2)≠tM st n (tE st n 3)):(rtL (2*n+2) (tB st n)).length+2=2*n+1:=by
 have e0:=tE_lt st n 0
 have e1:=tE_lt st n 1
 have e2:=tE_lt st n 2
 have e3:=tE_lt st n 3
 have hg:∀ c,c<2*n+3->(List.range (2*n+3)).getD c 0=c:=fun c hc=>by
  rw[List.getD_eq_getElem?_getD,List.getElem?_range hc];rfl
 obtain⟨-,m1⟩:=merge_one (M:=2*n+2) (least_nil (2*n+3)) (by simp) (b:=tE st n 0) (d:=tE st n 1) e0 e1 (by rw[hg _ (by omega),hg _ (by omega)];exact h1) []
 have l1:=mer_least (least_nil (2*n+3)) (tE st n 0) (tE st n 1) (by omega) (by omega) (by simp)
 rw[List.nil_append]at l1
 have hne:(mer (List.range (2*n+3)) (tE st n 0) (tE st n 1)).getD (tE st n 2) 0≠(mer (List.range (2*n+3)) (tE st n 0) (tE st n 1)).getD (tE st n 3) 0:=fun q=>by
  rw[l1.same (by omega) (by omega)]at q
  have c := q (fun z => tM st n (tE st n 2) = tM st n z) (fun e he => by
   rw[List.mem_singleton.1 he]
   have:tM st n (tE st n 0)=tM st n (tE st n 1):=by
    unfold tM
    rw[if_pos (show tE st n 1=tE st n 1 from rfl)]
    split<;>rfl
   show tM st n (tE st n 2)=tM st n (tE st n 0)↔tM st n (tE st n 2)=tM st n (tE st n 1)
   rw[this]) rfl
  exact h2 c
 obtain⟨-,m2⟩:=merge_one (M:=2*n+2) l1 (fun e he=>by rw[List.mem_singleton.1 he];exact⟨e0.1,e1.1⟩) (b:=tE st n 2) (d:=tE st n 3) e2 e3 hne []
 have em:tB st n=mer (mer (List.range (2*n+3)) (tE st n 0) (tE st n 1)) (tE st n 2) (tE st n 3):=rfl
 have r0:(rtL (2*n+2) (List.range (2*n+3))).length=2*n+1:=by
  have:rtL (2*n+2) (List.range (2*n+3))=List.range' 2 (2*n+1):=by
   unfold rtL
   rw[show 2*n+2-1=2*n+1 by omega,List.filter_eq_self]
   intro c hc
   rw[List.mem_range'_1]at hc
   rw[hg c (by omega)]
   exact decide_eq_true rfl
  rw[this,List.length_range']
 rw[em]
 omega
theorem tB_det (st : Nat → Bool × Bool) (n : Nat) (h : 0 < n) : ((rtL (2 * n + 2) (tB st n)).length + 2 = 2 * n + 1 → (dZ (((List.range n).map (tP st) ++ (List.range (n - 1)).map (tQ st)).map (rowW (2 * n + 2) (tB st n))) (rtL (2 * n + 2) (tB st n))).natAbs = (tL st n 1).natAbs) ∧
    ((rtL (2*n+2) (tB st n)).length+2≠2*n+1->tL st n 1=0):=by
 have hg:∀ c,c<2*n+3->(List.range (2*n+3)).getD c 0=c:=fun c hc=>by
  rw[List.getD_eq_getElem?_getD,List.getElem?_range hc];rfl
 have r0:rtL (2*n+2) (List.range (2*n+3))=List.range' 2 (2*n+1):=by
  unfold rtL
  rw[show 2*n+2-1=2*n+1 by omega,List.filter_eq_self]
  intro c hc
  rw[List.mem_range'_1]at hc
  rw[hg c (by omega)]
  exact decide_eq_true rfl
 obtain⟨-,m2,m3⟩:=merge_all (M:=2*n+2) ((List.range n).map (tP st)++(List.range (n - 1)).map (tQ st)) (tK st n) [] (List.range (2*n+3)) (least_nil _) (fun e he=>tK_in st n e (by simpa using he))
 have hstart:dZ (((tK st n).map dfR++((List.range n).map (tP st)++(List.range (n-1)).map (tQ st))).map (rowW (2*n+2) (List.range (2*n+3)))) (List.range' 2 (2*n+1))=dZ ([fun c=>at1 (tE st n 0) c-at1 (tE st n 1) c,fun c=>at1 (tE st n 2) c-at1 (tE st n 3) c]++((List.range n).map (tP st)++(List.range (n-1)).map (tQ st))) (List.range' 2 (2*n+1)):=by
  have f:∀ b d,dfR (b,d)=fun c=>at1 b c-at1 d c:=fun b d=>funext fun c=>by unfold dfR at1;rw[if_flip c,if_flip c]
  have e0:(tK st n).map dfR=[fun c=>at1 (tE st n 0) c-at1 (tE st n 1) c,fun c=>at1 (tE st n 2) c-at1 (tE st n 3) c]:=by
   unfold tK
   rw[List.map_cons,List.map_cons,List.map_nil,f,f]
  rw[e0]
  generalize [fun c=>at1 (tE st n 0) c-at1 (tE st n 1) c,fun c=>at1 (tE st n 2) c-at1 (tE st n 3) c]++((List.range n).map (tP st)++(List.range (n-1)).map (tQ st))=R
  have e1:dZ (R.map (rowW (2*n+2) (List.range (2*n+3)))) (List.range' 2 (2*n+1))=dZ (R.map id) (List.range' 2 (2*n+1)):=dZ_ext _ _ _ _ fun r _ c hc=>by
   rw[List.mem_range'_1]at hc
   show sumS (2*n+2) (fun i=>if(List.range (2*n+3)).getD (i+1) 0=c then r (i+1) else 0)=r c
   rw[<-sumS_at (2*n+2) c (by omega) (by omega) r]
   exact sumS_congr fun i hi=>by rw[hg (i+1) (by omega)]
  rw[e1,List.map_id]
 have hm:mers (List.range (2*n+3)) (tK st n)=tB st n:=rfl
 have hk:(tK st n).length=2:=rfl
 rw[hm,hk,r0,List.length_range']at m2 m3
 have ha:=td_abs st n h
 rw[<-hstart]at ha
 refine⟨fun q=>?_,fun q=>?_⟩
 · rw[<-m2 (by omega),ha]
 · rw[m3 (by omega)]at ha
   have ha:0=(tL st n 1).natAbs:=ha
   omega
end Go.Proofs.Ytgagenmkpmmpfaa
/- The determinant of a list's link; plain mathematics. -/
namespace Go.Proofs.Ytgagenmkpmmpfaa
theorem perm_sub:∀ {A B:List Nat},A.Nodup->(∀ a∈A,a∈B)->B.length<=A.length->A.Perm B
 |[],B,_,_,h=>by
  have:B=[]:=List.length_eq_zero_iff.1 (by simpa using h)
  rw[this]
 |a::A,B,hn,hs,h=>by
  have ha:=hs a List.mem_cons_self
  have hn2:=List.nodup_cons.1 hn
  refine(List.Perm.cons a (perm_sub (B:=B.erase a) hn2.2 (fun x hx=>?_) ?_)).trans (List.perm_cons_erase ha).symm
  · exact(List.mem_erase_of_ne (fun e:x=a=>hn2.1 (by rw[<-e];exact hx))).2 (hs x (List.mem_cons_of_mem _ hx))
  · rw[List.length_erase_of_mem ha]
    simp at h
    omega
theorem dZ_moreT (P:List (Nat->Int)) (cs:List Nat) (g h:Nat->Nat->Int) (k:Nat->Int):∀ (I:List Nat) (Q:List (Nat->Int)),(∀ i∈I,h i∈P)->dZ (P++(Q++I.map fun i c=>g i c+k i*h i c)) cs=dZ (P++(Q++I.map g)) cs
 |[],_,_=>rfl
 |i::I,Q,hP=>by
  have ih:=dZ_moreT P cs g h k I (Q++[fun c=>g i c+k i*h i c]) fun j hj=>hP j (.tail _ hj)
  rw[List.append_assoc,List.append_assoc]at ih
  show dZ (P++(Q++([fun c=>g i c+k i*h i c]++I.map _))) cs=_
  rw[ih]
  have e:=dZ_addr (P++Q) (I.map g) (g i) (h i) (k i) cs (by simp[hP i (.head _)])
  rw[List.append_assoc,List.append_assoc]at e
  exact e
theorem dZ_sgnT (f:Nat->Nat->Int) (e:Nat->Int) (he:∀ k,e k=1∨e k = -1) (Y:List (Nat->Int)) (cs:List Nat):∀ (I:List Nat) (X:List (Nat->Int)),(dZ (X++(I.map (fun k c=>e k*f k c)++Y)) cs).natAbs=(dZ (X++(I.map f++Y)) cs).natAbs
 |[],_=>rfl
 |k::I,X=>by
  have ih:=dZ_sgnT f e he Y cs I (X++[f k])
  rw[List.append_assoc,List.append_assoc]at ih
  have one:(dZ (X++(fun c=>e k*f k c)::(I.map (fun k c=>e k*f k c)++Y)) cs).natAbs=(dZ (X++f k::(I.map (fun k c=>e k*f k c)++Y)) cs).natAbs:=by
   rw[dZ_front,dZ_front X _ (f k),Int.natAbs_mul,Int.natAbs_mul]
   congr 1
   rcases he k with q|q
   · rw[q,show(fun c=>1*f k c)=f k from funext fun c=>by omega]
   · rw[q,show(fun c => -1*f k c)=fun c => -f k c from funext fun c=>by omega]
     exact dZ_headneg _ _ _
  exact one.trans ih
theorem rowW_at1 (M:Nat) (W:List Nat) {x:Nat} (h1:1<=x) (h2:x<=M) (c:Nat):rowW M W (at1 x) c=if W.getD x 0=c then 1 else 0:=by
 have e:=sumS_at M x h1 h2 (fun a=>if W.getD a 0=c then 1 else 0)
 refine Eq.trans (sumS_congr fun i _=>?_) e
 unfold at1
 by_cases e1:W.getD (i+1) 0=c
 · rw[if_pos e1]
   by_cases e2:x=i+1
   · rw[if_pos e2,if_pos e2.symm,if_pos e1]
   · rw[if_neg e2,if_neg (fun z=>e2 z.symm)]
 · rw[if_neg e1]
   by_cases e2:i+1=x
   · rw[if_pos e2,if_neg e1]
   · rw[if_neg e2]
theorem rowW_lin (M:Nat) (W:List Nat) (f g:Nat->Int) (k:Int) (c:Nat):rowW M W (fun a=>f a+k*g a) c=rowW M W f c+k*rowW M W g c:=by
 unfold rowW
 rw[<-sumS_mulL,<-sumS_add]
 refine sumS_congr fun i _=>?_
 split
 · rfl
 · rw[Int.mul_zero];rfl
theorem rowW_P (st:Nat->Bool×Bool) (n k c:Nat) (hk:k<n):rowW (2*n+2) (tB st n) (tP st k) c=if(st k).2=true then(if(tB st n).getD (tE st k 3) 0=c then 1 else 0)-(if(tB st n).getD (2*k+3) 0=c then 1 else 0) else(if(tB st n).getD (tE st k (tG (st k).1)) 0=c then 1 else 0)-(if(tB st n).getD (2*k+4) 0=c then 1 else 0):=by
 have h3:=tE_lt st k 3
 have h4:=tE_lt st k (tG (st k).1)
 split
 · rename_i q
   have e:tP st k=fun a=>at1 (tE st k 3) a + -1*at1 (2*k+3) a:=funext fun a=>by unfold tP;rw[if_pos q];omega
   rw[e,rowW_lin,rowW_at1 _ _ (by omega) (by omega),rowW_at1 _ _ (by omega) (by omega)]
   omega
 · rename_i q
   have e:tP st k=fun a=>at1 (tE st k (tG (st k).1)) a + -1*at1 (2*k+4) a:=funext fun a=>by unfold tP;rw[if_neg q];omega
   rw[e,rowW_lin,rowW_at1 _ _ (by omega) (by omega),rowW_at1 _ _ (by omega) (by omega)]
   omega
theorem rowW_Q (st:Nat->Bool×Bool) (n k c:Nat) (hk:k<n):rowW (2*n+2) (tB st n) (tQ st k) c=if(st k).2=true then(if(tB st n).getD (tE st k (tG (st k).1)) 0=c then 1 else 0)+(if(tB st n).getD (2*k+4) 0=c then 1 else 0)-2*(if(tB st n).getD (tE st k 3) 0=c then 1 else 0) else(if(tB st n).getD (tE st k 3) 0=c then 1 else 0)+(if(tB st n).getD (2*k+3) 0=c then 1 else 0)-2*(if(tB st n).getD (tE st k (tG (st k).1)) 0=c then 1 else 0):=by
 have h3:=tE_lt st k 3
 have h4:=tE_lt st k (tG (st k).1)
 split
 · rename_i q
   have e:tQ st k=fun a=>(fun a=>at1 (tE st k (tG (st k).1)) a+1*at1 (2*k+4) a) a + -2*at1 (tE st k 3) a:=funext fun a=>by
    unfold tQ
    rw[if_pos q]
    show _=at1 (tE st k (tG (st k).1)) a+1*at1 (2*k+4) a + -2*at1 (tE st k 3) a
    omega
   rw[e,rowW_lin,rowW_lin,rowW_at1 _ _ (by omega) (by omega),rowW_at1 _ _ (by omega) (by omega),rowW_at1 _ _ (by omega) (by omega)]
   omega
 · rename_i q
   have e:tQ st k=fun a=>(fun a=>at1 (tE st k 3) a+1*at1 (2*k+3) a) a + -2*at1 (tE st k (tG (st k).1)) a:=funext fun a=>by
    unfold tQ
    rw[if_neg q]
    show _=at1 (tE st k 3) a+1*at1 (2*k+3) a + -2*at1 (tE st k (tG (st k).1)) a
    omega
   rw[e,rowW_lin,rowW_lin,rowW_at1 _ _ (by omega) (by omega),rowW_at1 _ _ (by omega) (by omega),rowW_at1 _ _ (by omega) (by omega)]
   omega
theorem tN_sides (st:Nat->Bool×Bool) (n k:Nat) (hk:k<n):(st k).2=true->(tN st n (4*k+4+0)=tE st k (tG (st k).1)/\tN st n (4*k+4+2)=2*k+4/\((tN st n (4*k+4+1)=tE st k 3/\tN st n (4*k+4+3)=2*k+3)∨(tN st n (4*k+4+1)=2*k+3/\tN st n (4*k+4+3)=tE st k 3))):=fun hu=>by
 have h:=tN_cor st k n hk
 rw[hu]at h
 revert h
 cases (st k).1<;>simp[corT,sdOf,tG]<;>intros<;>simp_all
theorem tN_sidesD (st:Nat->Bool×Bool) (n k:Nat) (hk:k<n):(st k).2=false->(tN st n (4*k+4+3)=tE st k (tG (st k).1)/\tN st n (4*k+4+1)=2*k+4/\((tN st n (4*k+4+0)=tE st k 3/\tN st n (4*k+4+2)=2*k+3)∨(tN st n (4*k+4+0)=2*k+3/\tN st n (4*k+4+2)=tE st k 3))):=fun hu=>by
 have h:=tN_cor st k n hk
 rw[hu]at h
 revert h
 cases (st k).1<;>simp[corT,sdOf,tG]<;>intros<;>simp_all
end Go.Proofs.Ytgagenmkpmmpfaa
/- The determinant of a list's link is its fraction's numerator; plain mathematics. -/
namespace Go.Proofs.Ytgagenmkpmmpfaa
section
variable {st:Nat->Bool×Bool} {n:Nat} {loops:Int} (hm:mayD (lkC n (tV st n)) loops=true)
include hm
def tqT (st:Nat->Bool×Bool) (n a:Nat):Nat:=(tB st n).getD (tN st n (lkS n (tV st n) (toC (lkC n (tV st n)) a) (toS (lkC n (tV st n)) a))) 0
theorem tq_at {k s a:Nat} (hk:k<n) (hs:s<4) (h1:1<=a) (h2:a<=2*n):aAt (lkC n (tV st n)) k s=a↔(tB st n).getD (tN st n (lkS n (tV st n) k s)) 0=tqT st n a:=by
 obtain⟨-,t1,t2,t3,-⟩:=to_may hm a h1 (by rw[lkC_len];exact h2)
 rw[lkC_len]at t1
 have hU:=tV_ties st n
 have a1:=(lk_side hU hk hs).1
 have a2:=(lk_side hU t1 t2).1
 rw[a2]at t3
 have b1:=FL_bd hU (lkS_sp (n:=n) (U:=tV st n) (c:=k) (s:=s) hk)
 unfold tqT
 rw[<-arc_cls st n (lkS_sp hk) (lkS_sp t1),t3]
 unfold aAt
 rw[a1]
 omega
theorem tq_inj {a b:Nat} (a1:1<=a) (a2:a<=2*n) (b1:1<=b) (b2:b<=2*n) (e:tqT st n a=tqT st n b):a=b:=by
 obtain⟨-,t1,t2,t3,-⟩:=to_may hm a a1 (by rw[lkC_len];exact a2)
 rw[lkC_len]at t1
 have h1:aAt (lkC n (tV st n)) (toC (lkC n (tV st n)) a) (toS (lkC n (tV st n)) a)=a:=by unfold aAt;rw[t3];simp
 have h2:=(tq_at hm t1 t2 b1 b2).2 e
 rw[h1]at h2
 exact h2
omit hm in
theorem tq_root (a:Nat):1<=tqT st n a/\tqT st n a<=2*n+2/\(tB st n).getD (tqT st n a) 0=tqT st n a:=by
 have hL:=tB_least st n
 have b:=tN_bd st n (lkS n (tV st n) (toC (lkC n (tV st n)) a) (toS (lkC n (tV st n)) a))
 refine⟨hL.pos (fun e he=>⟨(tK_in st n e he).1,(tK_in st n e he).2.2.1⟩) (by omega) b.1,?_,hL.root (by omega)⟩
 have:=hL.lt (v:=tN st n (lkS n (tV st n) (toC (lkC n (tV st n)) a) (toS (lkC n (tV st n)) a))) (by omega)
 show(tB st n).getD _ 0<=_
 omega
theorem tq_rows {k:Nat} (hk:k<n):∃ e m:Int,(e=1∨e = -1)/\∀ a,1<=a->a<=2*n->eA (lkC n (tV st n)) k a=e*rowW (2*n+2) (tB st n) (tP st k) (tqT st n a)/\rA (lkC n (tV st n)) (-1) k a=rowW (2*n+2) (tB st n) (tQ st k) (tqT st n a)+m*rowW (2*n+2) (tB st n) (tP st k) (tqT st n a):=by
 have key:∀ a,1<=a->a<=2*n->∀ s,s<4->(if aAt (lkC n (tV st n)) k s=a then(1:Int) else 0)=if(tB st n).getD (tN st n (lkS n (tV st n) k s)) 0=tqT st n a then 1 else 0:=fun a h1 h2 s hs=>by
  by_cases q:aAt (lkC n (tV st n)) k s=a
  · rw[if_pos q,if_pos ((tq_at hm hk hs h1 h2).1 q)]
  · rw[if_neg q,if_neg (fun z=>q ((tq_at hm hk hs h1 h2).2 z))]
 have re:∀ a,eA (lkC n (tV st n)) k a=(if aAt (lkC n (tV st n)) k 1=a then 1 else 0)-(if aAt (lkC n (tV st n)) k 3=a then 1 else 0):=fun a=>by
  show(0:Int)*_+1*(if aAt (lkC n (tV st n)) k 1=a then 1 else 0)+0*_ + -1*(if aAt (lkC n (tV st n)) k 3=a then 1 else 0)=_
  omega
 have rr:∀ a,rA (lkC n (tV st n)) (-1) k a=(if aAt (lkC n (tV st n)) k 0=a then 1 else 0)+(if aAt (lkC n (tV st n)) k 2=a then 1 else 0)-2*(if aAt (lkC n (tV st n)) k 1=a then 1 else 0):=fun a=>by
  have q0:qR (-1) ((lkC n (tV st n)).getD k Cr.none) 0=1:=by unfold qR;simp
  have q1:qR (-1) ((lkC n (tV st n)).getD k Cr.none) 1 = -2:=by unfold qR;simp
  have q2:qR (-1) ((lkC n (tV st n)).getD k Cr.none) 2=1:=by unfold qR;simp
  have q3:qR (-1) ((lkC n (tV st n)).getD k Cr.none) 3=0:=by unfold qR;simp
  unfold rA sdR
  rw[q0,q1,q2,q3]
  omega
 have s4:∀ s,lkS n (tV st n) k s=4*k+4+(s+lkB n (tV st n) k)%4:=fun s=>rfl
 cases hu:(st k).2 with
 |true=>
  obtain⟨f0,f2,f13⟩:=tN_sides st n k hk hu
  rcases lkB_two n (tV st n) k with hb|hb<;>rcases f13 with⟨f1,f3⟩|⟨f1,f3⟩
  · refine⟨1,0,Or.inl rfl,fun a h1 h2=>?_⟩
    rw[re,rr,rowW_P st n k _ hk,rowW_Q st n k _ hk,key a h1 h2 0 (by omega),key a h1 h2 1 (by omega),key a h1 h2 2 (by omega),key a h1 h2 3 (by omega),s4,s4,s4,s4,hb,hu]
    simp only[Nat.reduceAdd,Nat.reduceMod,f0,f1,f2,f3,if_true]
    omega
  · refine⟨-1,2,Or.inr rfl,fun a h1 h2=>?_⟩
    rw[re,rr,rowW_P st n k _ hk,rowW_Q st n k _ hk,key a h1 h2 0 (by omega),key a h1 h2 1 (by omega),key a h1 h2 2 (by omega),key a h1 h2 3 (by omega),s4,s4,s4,s4,hb,hu]
    simp only[Nat.reduceAdd,Nat.reduceMod,f0,f1,f2,f3,if_true]
    omega
  · refine⟨-1,2,Or.inr rfl,fun a h1 h2=>?_⟩
    rw[re,rr,rowW_P st n k _ hk,rowW_Q st n k _ hk,key a h1 h2 0 (by omega),key a h1 h2 1 (by omega),key a h1 h2 2 (by omega),key a h1 h2 3 (by omega),s4,s4,s4,s4,hb,hu]
    simp only[Nat.reduceAdd,Nat.reduceMod,f0,f1,f2,f3,if_true]
    omega
  · refine⟨1,0,Or.inl rfl,fun a h1 h2=>?_⟩
    rw[re,rr,rowW_P st n k _ hk,rowW_Q st n k _ hk,key a h1 h2 0 (by omega),key a h1 h2 1 (by omega),key a h1 h2 2 (by omega),key a h1 h2 3 (by omega),s4,s4,s4,s4,hb,hu]
    simp only[Nat.reduceAdd,Nat.reduceMod,f0,f1,f2,f3,if_true]
    omega
 |false=>
  obtain⟨f3,f1,f02⟩:=tN_sidesD st n k hk hu
  rcases lkB_two n (tV st n) k with hb|hb<;>rcases f02 with⟨f0,f2⟩|⟨f0,f2⟩
  · refine⟨-1,2,Or.inr rfl,fun a h1 h2=>?_⟩
    rw[re,rr,rowW_P st n k _ hk,rowW_Q st n k _ hk,key a h1 h2 0 (by omega),key a h1 h2 1 (by omega),key a h1 h2 2 (by omega),key a h1 h2 3 (by omega),s4,s4,s4,s4,hb,hu]
    simp only[Nat.reduceAdd,Nat.reduceMod,f0,f1,f2,f3,Bool.false_eq_true,if_false]
    omega
  · refine⟨-1,2,Or.inr rfl,fun a h1 h2=>?_⟩
    rw[re,rr,rowW_P st n k _ hk,rowW_Q st n k _ hk,key a h1 h2 0 (by omega),key a h1 h2 1 (by omega),key a h1 h2 2 (by omega),key a h1 h2 3 (by omega),s4,s4,s4,s4,hb,hu]
    simp only[Nat.reduceAdd,Nat.reduceMod,f0,f1,f2,f3,Bool.false_eq_true,if_false]
    omega
  · refine⟨1,0,Or.inl rfl,fun a h1 h2=>?_⟩
    rw[re,rr,rowW_P st n k _ hk,rowW_Q st n k _ hk,key a h1 h2 0 (by omega),key a h1 h2 1 (by omega),key a h1 h2 2 (by omega),key a h1 h2 3 (by omega),s4,s4,s4,s4,hb,hu]
    simp only[Nat.reduceAdd,Nat.reduceMod,f0,f1,f2,f3,Bool.false_eq_true,if_false]
    omega
  · refine⟨1,0,Or.inl rfl,fun a h1 h2=>?_⟩
    rw[re,rr,rowW_P st n k _ hk,rowW_Q st n k _ hk,key a h1 h2 0 (by omega),key a h1 h2 1 (by omega),key a h1 h2 2 (by omega),key a h1 h2 3 (by omega),s4,s4,s4,s4,hb,hu]
    simp only[Nat.reduceAdd,Nat.reduceMod,f0,f1,f2,f3,Bool.false_eq_true,if_false]
    omega
theorem td_real (h0:0<n) (hl:(rtL (2*n+2) (tB st n)).length+2=2*n+1):(dZ (rowsA (lkC n (tV st n)) (-1)) (arcsL (2*n) 1)).natAbs=(tL st n 1).natAbs:=by
 have hL:=tB_least st n
 have hin:∀ a,a∈List.range' 1 (2*n)↔1<=a/\a<=2*n:=fun a=>by rw[List.mem_range'_1];omega
 have w1:(tB st n).getD 1 0=1:=by
  have p:=hL.pos (fun e he=>⟨(tK_in st n e he).1,(tK_in st n e he).2.2.1⟩) (v:=1) (by omega) (Nat.le_refl _)
  have q:=hL.le (v:=1) (by omega)
  omega
 have hP:((List.range' 1 (2*n)).map (tqT st n)).Perm (1::rtL (2*n+2) (tB st n)):=by
  refine perm_sub ?_ (fun c hc=>?_) (by simp;omega)
  · refine List.pairwise_map.2 ((List.nodup_range' (s:=1) (n:=2*n)).imp_of_mem fun {a b} ha hb hne e=>hne ?_)
    have ha:=(hin a).1 ha
    have hb:=(hin b).1 hb
    exact tq_inj hm ha.1 ha.2 hb.1 hb.2 e
  · obtain⟨a,-,rfl⟩:=List.mem_map.1 hc
    obtain⟨r1,r2,r3⟩:=tq_root (st:=st) (n:=n) a
    by_cases q:tqT st n a=1
    · rw[q];exact List.mem_cons_self
    · exact List.mem_cons_of_mem _ (rtL_mem.2 ⟨by omega,r2,r3⟩)
 obtain⟨z,hz,ez⟩:=List.mem_map.1 (hP.mem_iff.2 List.mem_cons_self)
 have hz:=(hin z).1 hz
 have hP2:((arcsL (2*n) z).map (tqT st n)).Perm (rtL (2*n+2) (tB st n)):=by
  have:=((arcs_perm hz.1 hz.2).map (tqT st n)).symm.trans hP
  rw[List.map_cons,ez]at this
  exact this.cons_inv
 have hd:=(tB_det st n h0).1 hl
 rw[<-dZ_perm _ hP2,dZ_map,List.map_map]at hd
 have hsum:=rowsA_sum hm (-1)
 rw[lkC_len]at hsum
 rw[arcs_alike hsum (Nat.le_refl 1) (by omega) hz.1 hz.2,<-hd]
 have hrow:∀ k,∃ em:Int×Int,(em.1=1∨em.1 = -1)/\(k<n->∀ a,1<=a->a<=2*n->eA (lkC n (tV st n)) k a=em.1*rowW (2*n+2) (tB st n) (tP st k) (tqT st n a)/\rA (lkC n (tV st n)) (-1) k a=rowW (2*n+2) (tB st n) (tQ st k) (tqT st n a)+em.2*rowW (2*n+2) (tB st n) (tP st k) (tqT st n a)):=fun k=>by
  by_cases q:k<n
  · obtain⟨e,m,he,hr⟩:=tq_rows hm q
    exact⟨(e,m),he,fun _=>hr⟩
  · exact⟨(1,0),Or.inl rfl,fun h=>absurd h q⟩
 obtain⟨em,hrow⟩:=Classical.axiomOfChoice hrow
 have e1:dZ (rowsA (lkC n (tV st n)) (-1)) (arcsL (2*n) z)=dZ ((List.range n).map (fun k a=>(em k).1*rowW (2*n+2) (tB st n) (tP st k) (tqT st n a))++([]++(List.range (n-1)).map (fun k a=>rowW (2*n+2) (tB st n) (tQ st k) (tqT st n a)+((em k).2*(em k).1)*((em k).1*rowW (2*n+2) (tB st n) (tP st k) (tqT st n a))))) (arcsL (2*n) z):=by
  let g:Nat×Nat->Nat->Int:=fun u=>if u.1=0 then eA (lkC n (tV st n)) u.2 else rA (lkC n (tV st n)) (-1) u.2
  let g':Nat×Nat->Nat->Int:=fun u=>if u.1=0 then(fun a=>(em u.2).1*rowW (2*n+2) (tB st n) (tP st u.2) (tqT st n a)) else(fun a=>rowW (2*n+2) (tB st n) (tQ st u.2) (tqT st n a)+((em u.2).2*(em u.2).1)*((em u.2).1*rowW (2*n+2) (tB st n) (tP st u.2) (tqT st n a)))
  have := dZ_ext g g' ((List.range n).map (fun k => (0, k)) ++ (List.range (n - 1)).map (fun k => (1, k))) (arcsL (2 * n) z) (fun u hu a ha => by
   have ha:=arcsL_mem.1 ha
   rcases List.mem_append.1 hu with hu|hu<;>obtain⟨k,hk,rfl⟩:=List.mem_map.1 hu<;>have hk:=List.mem_range.1 hk
   · exact((hrow k).2 hk a ha.1 ha.2.1).1
   · show rA (lkC n (tV st n)) (-1) k a=_+((em k).2*(em k).1)*((em k).1*_)
     rw[((hrow k).2 (by omega) a ha.1 ha.2.1).2]
     rcases(hrow k).1 with q|q<;>rw[q]<;>grind)
  rw[List.map_append,List.map_append,List.map_map,List.map_map,List.map_map,List.map_map]at this
  unfold rowsA
  rw[lkC_len]
  exact this
 rw[e1,dZ_moreT _ _ (fun k a=>rowW (2*n+2) (tB st n) (tQ st k) (tqT st n a)) (fun k a=>(em k).1*rowW (2*n+2) (tB st n) (tP st k) (tqT st n a)) (fun k=>(em k).2*(em k).1) (List.range (n-1)) [] (fun i hi=>List.mem_map.2 ⟨i,List.mem_range.2 (by have:=List.mem_range.1 hi;omega),rfl⟩)]
 have e2:=dZ_sgnT (fun k a=>rowW (2*n+2) (tB st n) (tP st k) (tqT st n a)) (fun k=>(em k).1) (fun k=>(hrow k).1) ((List.range (n-1)).map (fun k a=>rowW (2*n+2) (tB st n) (tQ st k) (tqT st n a))) (arcsL (2*n) z) (List.range n) []
 rw[List.nil_append,List.nil_append]at e2
 rw[List.nil_append,e2,List.map_append,List.map_map,List.map_map]
 rfl
end
end Go.Proofs.Ytgagenmkpmmpfaa
