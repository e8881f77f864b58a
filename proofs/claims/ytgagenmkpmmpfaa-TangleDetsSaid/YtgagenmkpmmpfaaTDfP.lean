/- Several texts of the proof, one behind the other. -/
import Derived.Test.YtgagenmkpmmpfaaTDaP
import Derived.Test.YtgagenmkpmmpfaaO1P
/- Regions of a tangle, by its spots; plain mathematics. -/
namespace Go.Proofs.Ytgagenmkpmmpfaa
def rgE (st:Nat->Bool×Bool):Nat->Nat
 |0=>1
 |k+1=>if(st k).1=true then 3+k else rgE st k
def rgS (st:Nat->Bool×Bool):Nat->Nat
 |0=>2
 |k+1=>if(st k).1=true then rgS st k else 3+k
def rgN (st:Nat->Bool×Bool) (k:Nat):Nat:=if(st k).1=true then 0 else rgS st k
def rgW (st:Nat->Bool×Bool) (k:Nat):Nat:=if(st k).1=true then rgE st k else 1
def rgL (st:Nat->Bool×Bool) (k c:Nat):Nat:=if c=0 then rgW st k else if c=1 then rgN st k else if c=2 then rgS st (k+1) else rgE st (k+1)
def rgR (st:Nat->Bool×Bool) (k c:Nat):Nat:=if c=0 then rgN st k else if c=1 then rgE st (k+1) else if c=2 then rgW st k else rgS st (k+1)
def oL (st:Nat->Bool×Bool) (k e:Nat):Nat:=if e=0 then 0 else if e=1 then rgE st k else if e=2 then 1 else rgS st k
def oR (st:Nat->Bool×Bool) (k e:Nat):Nat:=if e=0 then 1 else if e=1 then 0 else if e=2 then rgS st k else rgE st k
def rpL (st:Nat->Bool×Bool):Nat->Nat->Nat
 |0,x=>oL st 0 x
 |k+1,x=>if x<4 then oL st (k+1) x else if x<4*k+4 then rpL st k x else if x=corT k (st k).2 0 then rgL st k 0 else if x=corT k (st k).2 1 then rgL st k 1 else if x=corT k (st k).2 2 then rgL st k 2 else rgL st k 3
def rpR (st:Nat->Bool×Bool):Nat->Nat->Nat
 |0,x=>oR st 0 x
 |k+1,x=>if x<4 then oR st (k+1) x else if x<4*k+4 then rpR st k x else if x=corT k (st k).2 0 then rgR st k 0 else if x=corT k (st k).2 1 then rgR st k 1 else if x=corT k (st k).2 2 then rgR st k 2 else rgR st k 3
def Hand (D:Nat->Prop) (T L R:Nat->Nat):Prop:=∀ x,D x->L x=R (T x)
theorem lead_hand {D : Nat → Prop} {T L R L' R' : Nat → Nat} {e i o : Nat} (h : Invo D T) (hH : Hand D T L R) (he : D e) (hi : ¬ D i) (ho : ¬ D o) (v1 : L' i = L e) (v2 : R' i = R e) (v3 : L' o = R' e) (v4 : R' o = L' e) (v5 : ∀ x, D x → x ≠ e → L' x = L x ∧ R' x = R x) :
    Hand (fun x=>x=i∨x=o∨D x) (leadF T e i o) L' R':=by
 have hTe:=h.sp e he
 have n1:T e≠e:=h.ne e he
 have n2:e≠i:=fun h0=>hi (h0▸he)
 have n3:e≠o:=fun h0=>ho (h0▸he)
 have n4:T e≠i:=fun h0=>hi (h0▸hTe)
 have n5:T e≠o:=fun h0=>ho (h0▸hTe)
 have v:∀ x,leadF T e i o x=if x=o then e else if x=e then o else if x=i then T e else if x=T e then i else T x:=fun x=>rfl
 intro x hx
 rw[v]
 by_cases q1:x=o
 · rw[if_pos q1,q1,v3]
 · rw[if_neg q1]
   by_cases q2:x=e
   · rw[if_pos q2,q2,v4]
   · rw[if_neg q2]
     by_cases q3:x=i
     · rw[if_pos q3,q3,v1,(v5 _ hTe n1).2,hH e he]
     · rw[if_neg q3]
       have hd:D x:=(hx.resolve_left q3).resolve_left q1
       by_cases q4:x=T e
       · rw[if_pos q4,v2,(v5 x hd q2).1,q4,hH _ hTe,h.inv e he]
       · have n6:T x≠e:=fun z=>q4 (by rw[<-z,h.inv x hd])
         rw[if_neg q4,(v5 x hd q2).1,(v5 _ (h.sp x hd) n6).2,hH x hd]
theorem jn_hand {D:Nat->Prop} {T L R:Nat->Nat} {a b:Nat} (h:Invo D T) (hH:Hand D T L R) (ha:D a) (hb:D b) (φ:Nat->Nat) (e1:φ (R a)=φ (L b)) (e2:φ (L a)=φ (R b)):Hand (fun x=>D x/\x≠a/\x≠b) (jn T a b) (fun x=>φ (L x)) (fun x=>φ (R x)):=by
 intro x ⟨hx,xa,xb⟩
 have ra:L (T a)=R a:=by rw[hH _ (h.sp a ha),h.inv a ha]
 have rb:L (T b)=R b:=by rw[hH _ (h.sp b hb),h.inv b hb]
 have la:R (T a)=L a:=(hH a ha).symm
 have lb:R (T b)=L b:=(hH b hb).symm
 show φ (L x)=φ (R (jn T a b x))
 unfold jn
 by_cases e:T a=b
 · rw[if_pos e,hH x hx]
 · rw[if_neg e]
   have v:∀ x,tieF T (T a) (T b) x=if x=T b then T a else if x=T a then T b else T x:=fun x=>rfl
   rw[v]
   by_cases q1:x=T b
   · rw[if_pos q1,q1,rb,la,e2]
   · rw[if_neg q1]
     by_cases q2:x=T a
     · rw[if_pos q2,q2,ra,lb,e1]
     · rw[if_neg q2,hH x hx]
theorem rgE_next (st:Nat->Bool×Bool) (k:Nat):rgE st (k+1)=if(st k).1=true then 3+k else rgE st k:=rfl
theorem rgS_next (st:Nat->Bool×Bool) (k:Nat):rgS st (k+1)=if(st k).1=true then rgS st k else 3+k:=rfl
theorem rp_own (st:Nat->Bool×Bool):∀ k e,e<4->rpL st k e=oL st k e/\rpR st k e=oR st k e
 |0,_,_=>⟨rfl,rfl⟩
 |k+1,e,he=>by
  constructor
  · show(if e<4 then _ else _)=_
    rw[if_pos he]
  · show(if e<4 then _ else _)=_
    rw[if_pos he]
theorem rp_old (st:Nat->Bool×Bool) (k x:Nat) (h1:4<=x) (h2:x<4*k+4):rpL st (k+1) x=rpL st k x/\rpR st (k+1) x=rpR st k x:=by
 constructor
 · show(if x<4 then _ else if x<4*k+4 then _ else _)=_
   rw[if_neg (by omega),if_pos h2]
 · show(if x<4 then _ else if x<4*k+4 then _ else _)=_
   rw[if_neg (by omega),if_pos h2]
theorem rp_new (st:Nat->Bool×Bool) (k:Nat):∀ c,c<4->rpL st (k+1) (corT k (st k).2 c)=rgL st k c/\rpR st (k+1) (corT k (st k).2 c)=rgR st k c:=fun c hc=>by
 obtain⟨m1,m2,m3,m4,m5,m6⟩:=cor_ne k (st k).2
 have g:=cor_ge k (st k).2 c
 have key:∀ f:Nat->Nat,(if corT k (st k).2 c=corT k (st k).2 0 then f 0 else if corT k (st k).2 c=corT k (st k).2 1 then f 1 else if corT k (st k).2 c=corT k (st k).2 2 then f 2 else f 3)=f c:=fun f=>by
  have h:c=0∨c=1∨c=2∨c=3:=by omega
  rcases h with rfl|rfl|rfl|rfl
  · rw[if_pos rfl]
  · rw[if_neg (Ne.symm m1),if_pos rfl]
  · rw[if_neg (Ne.symm m2),if_neg (Ne.symm m4),if_pos rfl]
  · rw[if_neg (Ne.symm m3),if_neg (Ne.symm m5),if_neg (Ne.symm m6)]
 constructor
 · show(if corT k (st k).2 c<4 then _ else if corT k (st k).2 c<4*k+4 then _ else _)=_
   rw[if_neg (by omega),if_neg (by omega)]
   exact key (rgL st k)
 · show(if corT k (st k).2 c<4 then _ else if corT k (st k).2 c<4*k+4 then _ else _)=_
   rw[if_neg (by omega),if_neg (by omega)]
   exact key (rgR st k)
theorem rp_hand (st:Nat->Bool×Bool):∀ k,Hand (Dom k) (tT st k) (rpL st k) (rpR st k)
 |0=>fun x hx=>by
  have key:x=0∨x=1∨x=2∨x=3:=by unfold Dom at hx;omega
  show oL st 0 x=oR st 0 (tie0 x)
  rcases key with rfl|rfl|rfl|rfl<;>rfl
 |k+1=>by
  have hH:=rp_hand st k
  have hI:=(tN_tel st k).1
  show Hand (Dom (k+1)) (stepT (tT st k) k (st k).1 (st k).2) _ _
  obtain⟨d1,d2,d3,d4,d5,d6⟩:=cor_four k (st k).2 (st k).1
  have g:=tG_two (st k).1
  have c0:=cor_ge k (st k).2 0
  have c1:=cor_ge k (st k).2 (tG (st k).1)
  have c2:=cor_ge k (st k).2 (3-tG (st k).1)
  have c3:=cor_ge k (st k).2 3
  obtain⟨w0,x0⟩:=rp_new st k 0 (by omega)
  obtain⟨w1,x1⟩:=rp_new st k (tG (st k).1) (by omega)
  obtain⟨w2,x2⟩:=rp_new st k (3 - tG (st k).1) (by omega)
  obtain⟨w3,x3⟩:=rp_new st k 3 (by omega)
  obtain⟨ug,vg⟩:=rp_own st k (tG (st k).1) (by omega)
  obtain⟨u3,v3⟩:=rp_own st k 3 (by omega)
  obtain⟨ng,mg⟩:=rp_own st (k+1) (tG (st k).1) (by omega)
  obtain⟨n3,m3⟩:=rp_own st (k+1) 3 (by omega)
  have call:∀ x,Dom (k+1) x->x=corT k (st k).2 (3-tG (st k).1)∨x=corT k (st k).2 3∨x=corT k (st k).2 0∨x=corT k (st k).2 (tG (st k).1)∨Dom k x:=fun x hx=>by
   unfold Dom at hx ⊢
   rcases Nat.lt_or_ge x (4*k+4) with h|h
   · exact Or.inr (Or.inr (Or.inr (Or.inr h)))
   · have:=cor_all k (st k).2 x h (by omega)
     rcases g with g|g<;>simp only[g,Nat.reduceSub]<;>omega
  have keep:∀ x,x<4*k+4->x≠tG (st k).1->x≠3->rpL st (k+1) x=rpL st k x/\rpR st (k+1) x=rpR st k x:=fun x hx h1 h2=>by
   rcases Nat.lt_or_ge x 4 with q|q
   · obtain⟨a1,a2⟩:=rp_own st (k+1) x q
     obtain⟨b1,b2⟩:=rp_own st k x q
     rw[a1,a2,b1,b2]
     have:x=0∨x=1∨x=2:=by omega
     simp only[oL,oR,rgE_next,rgS_next]
     clear w0 x0 w1 x1 w2 x2 w3 x3 ug vg ng mg a1 a2 b1 b2 n3 m3 u3 v3 call d1 d2 d3 d4 d5 d6 c0 c1 c2 c3 hH hI g
     unfold tG at h1
     cases hs:(st k).1<;>rw[hs]at h1<;>rcases this with rfl|rfl|rfl<;>simp at h1 ⊢
   · exact rp_old st k x q hx
  rw[step_leads]
  have hD:∀ x,Dom k x↔x<4*k+4:=fun x=>Iff.rfl
  have i1:=leadF_invo hI (e:=tG (st k).1) (i:=corT k (st k).2 0) (o:=corT k (st k).2 (tG (st k).1)) (by rw[hD];omega) (by rw[hD];omega) (by rw[hD];omega) d1
  have t1:=lead_hand (L':=fun x=>if x=3 then oL st k 3 else rpL st (k+1) x) (R':=fun x=>if x=3 then oR st k 3 else rpR st (k+1) x) hI hH (e:=tG (st k).1) (i:=corT k (st k).2 0) (o:=corT k (st k).2 (tG (st k).1)) (by rw[hD];omega) (by rw[hD];omega) (by rw[hD];omega)
   (by
    show(if _=3 then _ else _)=_
    rw[if_neg (by omega),w0,ug]
    unfold rgL oL rgW tG
    cases (st k).1<;>simp)
   (by
    show(if _=3 then _ else _)=_
    rw[if_neg (by omega),x0,vg]
    unfold rgR oR rgN tG
    cases (st k).1<;>simp)
   (by
    show(if _=3 then _ else _)=(if _=3 then _ else _)
    rw[if_neg (by omega),if_neg (by omega),w1,mg]
    simp only[rgL,oR,rgN,rgE_next,rgS_next,tG]
    cases (st k).1<;>simp)
   (by
    show(if _=3 then _ else _)=(if _=3 then _ else _)
    rw[if_neg (by omega),if_neg (by omega),x1,ng]
    simp only[rgR,oL,rgW,rgE_next,rgS_next,tG]
    cases (st k).1<;>simp)
   (fun x hx hne => by
    have hx:=(hD x).1 hx
    show(if x=3 then _ else _)=_/\(if x=3 then _ else _)=_
    by_cases q:x=3
    · rw[if_pos q,if_pos q,q,u3,v3];exact⟨rfl,rfl⟩
    · rw[if_neg q,if_neg q]
      exact keep x hx hne q)
  have t2:=lead_hand (L':=rpL st (k+1)) (R':=rpR st (k+1)) i1 t1 (e:=3) (i:=corT k (st k).2 (3-tG (st k).1)) (o:=corT k (st k).2 3) (Or.inr (Or.inr (by rw[hD];omega))) (fun z=>by rw[hD]at z;omega) (fun z=>by rw[hD]at z;omega)
   (by
    show _=(if 3=3 then _ else _)
    rw[if_pos rfl,w2]
    simp only[rgL,oL,rgN,rgE_next,rgS_next,tG]
    cases (st k).1<;>simp)
   (by
    show _=(if 3=3 then _ else _)
    rw[if_pos rfl,x2]
    simp only[rgR,oR,rgW,rgE_next,rgS_next,tG]
    cases (st k).1<;>simp)
   (by
    rw[w3,m3]
    unfold rgL oR
    simp)
   (by
    rw[x3,n3]
    unfold rgR oL
    simp)
   (fun x hx hne => by
    show _=(if x=3 then _ else _)/\_=(if x=3 then _ else _)
    rw[if_neg hne,if_neg hne]
    exact⟨rfl,rfl⟩)
  exact fun x hx=>t2 x (call x hx)
end Go.Proofs.Ytgagenmkpmmpfaa
/- A list's link is planar; plain mathematics. -/
namespace Go.Proofs.Ytgagenmkpmmpfaa
theorem cyA_labelsT {f:Nat->Nat} {M K:Nat} (h:Bij f M) (F:Nat->Nat) (hF:∀ x,x<M->F (f x)=F x) {P:Nat->Bool} (hP:∀ v,v<K->P v=true->∃ x,x<M/\F x=v):(List.range K).countP P<=cyA f M:=by
 have hL:=cyW_least h.lt
 have hc:∀ x y,Con (eds f M) x y->F x=F y:=fun x y hxy=>hxy (fun z=>F x=F z) (closed_eds.2 fun i hi=>by rw[hF i hi]) rfl
 let g:Nat->Nat:=fun v=>if q:∃ x,x<M/\F x=v then(cyW f M).getD (Classical.choose q) 0 else 0
 have hg:∀ v,v<K->P v=true->∃ x,x<M/\F x=v/\g v=(cyW f M).getD x 0:=fun v hv hp=>by
  have q:=hP v hv hp
  refine⟨Classical.choose q,(Classical.choose_spec q).1,(Classical.choose_spec q).2,?_⟩
  show(if q:∃ x,x<M/\F x=v then(cyW f M).getD (Classical.choose q) 0 else 0)=_
  rw[dif_pos q]
 unfold cyA cyN
 rw[rq_eq]
 refine inj_cnt g (fun v hv hp=>?_) (fun u v hu hv pu pv e=>?_)
 · obtain⟨x,h1,-,h3⟩:=hg v hv hp
   rw[h3]
   refine⟨hL.lt h1,?_⟩
   rw[Bool.and_true]
   exact decide_eq_true (hL.root h1)
 · obtain⟨x,h1,h2,h3⟩:=hg u hu pu
   obtain⟨y,g1,g2,g3⟩:=hg v hv pv
   rw[h3,g3]at e
   rw[<-h2,<-g2]
   exact hc x y ((hL.same h1 g1).1 e)
def rgF (st:Nat->Bool×Bool) (n v:Nat):Nat:=if v=rgE st n then 1 else v
theorem tV_hand (st:Nat->Bool×Bool) (n:Nat):Hand (SpT n) (tV st n) (fun x=>rgF st n (rpL st n x)) (fun x=>rgF st n (rpR st n x)):=by
 have hI:=(tN_tel st n).1
 have d:∀ e,e<4->Dom n e:=fun e he=>by unfold Dom;omega
 have o:=fun e he=>rp_own st n e he
 have f1:rgF st n 1=1:=by unfold rgF;split<;>rfl
 have fE:rgF st n (rgE st n)=1:=if_pos rfl
 have h1:=jn_hand hI (rp_hand st n) (a:=0) (b:=1) (d 0 (by omega)) (d 1 (by omega)) (rgF st n)
  (by rw[(o 0 (by omega)).2,(o 1 (by omega)).1];exact f1.trans fE.symm)
  (by rw[(o 0 (by omega)).1,(o 1 (by omega)).2];rfl)
 have i1:=jn_invo hI (a:=0) (b:=1) (d 0 (by omega)) (d 1 (by omega)) (by decide)
 have h2:=jn_hand i1 h1 (a:=2) (b:=3) ⟨d 2 (by omega),by decide,by decide⟩ ⟨d 3 (by omega),by decide,by decide⟩ id
  (by
   show rgF st n (rpR st n 2)=rgF st n (rpL st n 3)
   rw[(o 2 (by omega)).2,(o 3 (by omega)).1];rfl)
  (by
   show rgF st n (rpL st n 2)=rgF st n (rpR st n 3)
   rw[(o 2 (by omega)).1,(o 3 (by omega)).2];exact f1.trans fE.symm)
 exact fun x hx=>h2 x (by unfold SpT at hx;unfold Dom;omega)
theorem rp_cor (st:Nat->Bool×Bool) (k:Nat):∀ m,k<m->∀ c,c<4->rpL st m (corT k (st k).2 c)=rgL st k c/\rpR st m (corT k (st k).2 c)=rgR st k c
 |0,h,_,_=>by omega
 |m+1,h,c,hc=>by
  rcases Nat.lt_or_ge k m with q|q
  · have a1:=cor_ge k (st k).2 c
    have a2:=cor_lt k (st k).2 c
    obtain⟨b1,b2⟩:=rp_old st m (corT k (st k).2 c) (by omega) (by omega)
    rw[b1,b2]
    exact rp_cor st k m q c hc
  · obtain rfl:m=k:=by omega
    exact rp_new st m c hc
def prv (x:Nat):Nat:=4*(x / 4)+(x%4+3)%4
theorem rp_prv (st:Nat->Bool×Bool) (n:Nat) {x:Nat} (hx:SpT n x):rpL st n (prv x)=rpR st n x:=by
 unfold SpT at hx
 obtain⟨k,hk⟩:∃ k,k=x / 4 - 1:=⟨_,rfl⟩
 have hc:=rp_cor st k n (by omega)
 have hall:=cor_all k (st k).2 x (by omega) (by omega)
 have p:prv (corT k (st k).2 0)=corT k (st k).2 1/\prv (corT k (st k).2 1)=corT k (st k).2 3/\prv (corT k (st k).2 2)=corT k (st k).2 0/\prv (corT k (st k).2 3)=corT k (st k).2 2:=by
  cases (st k).2<;>simp[prv,corT,sdOf]<;>omega
 rcases hall with r|r|r|r
 · rw[r,p.1,(hc 1 (by omega)).1,(hc 0 (by omega)).2];rfl
 · rw[r,p.2.1,(hc 3 (by omega)).1,(hc 1 (by omega)).2];rfl
 · rw[r,p.2.2.1,(hc 0 (by omega)).1,(hc 2 (by omega)).2];rfl
 · rw[r,p.2.2.2,(hc 2 (by omega)).1,(hc 3 (by omega)).2];rfl
theorem rgE_ne (st:Nat->Bool×Bool):∀ n,rgE st n≠0/\rgE st n≠2/\(rgE st n≠1->∃ k,k<n/\(st k).1=true)
 |0=>⟨by show(1:Nat)≠0;decide,by show(1:Nat)≠2;decide,fun h=>absurd rfl h⟩
 |n+1=>by
  obtain⟨h1,h2,h3⟩:=rgE_ne st n
  rw[rgE_next]
  cases hs:(st n).1
  · rw[if_neg (by decide)]
    exact⟨h1,h2,fun h=>by obtain⟨k,hk,e⟩:=h3 h;exact⟨k,by omega,e⟩⟩
  · rw[if_pos rfl]
    exact⟨by omega,by omega,fun _=>⟨n,by omega,hs⟩⟩
def rgB (st:Nat->Bool×Bool) (n v:Nat):Bool:=if rgE st n=1 then decide (v≠0) else decide (v≠rgE st n)
theorem rg_borne (st:Nat->Bool×Bool) (n:Nat) (h0:0<n) {v:Nat} (hv:v<n+3) (hb:rgB st n v=true):∃ x,SpT n x/\rgF st n (rpL st n x)=v:=by
 obtain⟨n1,n2,n3⟩:=rgE_ne st n
 have sp:∀ k c,k<n->SpT n (corT k (st k).2 c):=fun k c hk=>by
  have:=cor_ge k (st k).2 c
  have:=cor_lt k (st k).2 c
  unfold SpT
  omega
 have give:∀ k c,k<n->c<4->rgF st n (rgL st k c)=v->∃ x,SpT n x/\rgF st n (rpL st n x)=v:=fun k c hk hc e=>⟨_,sp k c hk,by rw[(rp_cor st k n hk c hc).1];exact e⟩
 have ne:v≠1->v≠rgE st n:=fun h=>by
  unfold rgB at hb
  by_cases q:rgE st n=1
  · rw[q];exact h
  · rw[if_neg q]at hb;exact of_decide_eq_true hb
 have fv:v≠1->rgF st n v=v:=fun h=>if_neg (ne h)
 have hcase:v=0∨v=1∨v=2∨∃ k,k<n/\v=3+k:=by
  by_cases q:v<3
  · omega
  · exact Or.inr (Or.inr (Or.inr ⟨v-3,by omega,by omega⟩))
 rcases hcase with r|r|r|⟨k,hk,r⟩
 · have q : rgE st n ≠ 1 := fun q => by
     unfold rgB at hb
     rw[if_pos q]at hb
     exact(of_decide_eq_true hb) r
   obtain⟨k,hk,e⟩:=n3 q
   refine give k 1 hk (by omega) ?_
   have:rgL st k 1=v:=by rw[r];show rgN st k=0;unfold rgN;rw[if_pos e]
   rw[this]
   exact fv (by omega)
 · obtain⟨m,rfl⟩:∃ m,n=m+1:=⟨n - 1,by omega⟩
   cases hs:(st m).1
   · refine give m 0 (by omega) (by omega) ?_
     have:rgL st m 0=1:=by show rgW st m=1;unfold rgW;rw[hs];rfl
     rw[this,r]
     unfold rgF
     split<;>rfl
   · refine give m 3 (by omega) (by omega) ?_
     show rgF st (m+1) (rgE st (m+1))=v
     rw[r]
     exact if_pos rfl
 · cases hs:(st 0).1
   · refine give 0 1 h0 (by omega) ?_
     have:rgL st 0 1=v:=by rw[r];show rgN st 0=2;unfold rgN;rw[hs];rfl
     rw[this]
     exact fv (by omega)
   · refine give 0 2 h0 (by omega) ?_
     have:rgL st 0 2=v:=by rw[r];show rgS st (0+1)=2;rw[rgS_next,hs];rfl
     rw[this]
     exact fv (by omega)
 · cases hs:(st k).1
   · refine give k 2 hk (by omega) ?_
     have:rgL st k 2=v:=by rw[r];show rgS st (k+1)=3+k;rw[rgS_next,hs];rfl
     rw[this]
     exact fv (by omega)
   · refine give k 3 hk (by omega) ?_
     have:rgL st k 3=v:=by rw[r];show rgE st (k+1)=3+k;rw[rgE_next,hs];rfl
     rw[this]
     exact fv (by omega)
theorem cnt_not (w:Nat):∀ m,(List.range m).countP (fun v=>decide (v≠w))+(if w<m then 1 else 0)=m
 |0=>by simp
 |m+1=>by
  have ih:=cnt_not w m
  rw[List.range_succ,List.countP_append,List.countP_singleton]
  by_cases q:m=w
  · rw[if_neg (by simpa using q),if_pos (by omega)]
    rw[if_neg (by omega)]at ih
    omega
  · rw[if_pos (by simpa using q)]
    by_cases q2:w<m
    · rw[if_pos q2]at ih;rw[if_pos (by omega)];omega
    · rw[if_neg q2]at ih;rw[if_neg (by omega)];omega
theorem rgE_lt (st:Nat->Bool×Bool):∀ n,rgE st n<n+3
 |0=>by show(1:Nat)<3;decide
 |n+1=>by
  have:=rgE_lt st n
  rw[rgE_next]
  split<;>omega
theorem rgB_cnt (st:Nat->Bool×Bool) (n:Nat):(List.range (n+3)).countP (rgB st n)=n+2:=by
 by_cases q:rgE st n=1
 · have e:rgB st n=fun v=>decide (v≠0):=funext fun v=>by unfold rgB;rw[if_pos q]
   have:=cnt_not 0 (n+3)
   rw[if_pos (by omega)]at this
   rw[e];omega
 · have e:rgB st n=fun v=>decide (v≠rgE st n):=funext fun v=>by unfold rgB;rw[if_neg q]
   have h1:=rgE_lt st n
   have:=cnt_not (rgE st n) (n+3)
   rw[if_pos h1]at this
   rw[e];omega
end Go.Proofs.Ytgagenmkpmmpfaa
/- A list's link is planar: its faces, and its one piece; plain mathematics. -/
namespace Go.Proofs.Ytgagenmkpmmpfaa
section
variable {st:Nat->Bool×Bool} {n:Nat} {loops:Int} (hm:mayD (lkC n (tV st n)) loops=true)
include hm
omit hm in
theorem sp_side {z:Nat} (hz:SpT n z):∃ s,s<4/\lkS n (tV st n) (z / 4-1) s=z/\z / 4-1<n:=by
 unfold SpT at hz
 have b:=lkB_two n (tV st n) (z / 4-1)
 exact⟨(z%4+4-lkB n (tV st n) (z / 4-1))%4,by omega,by unfold lkS;omega,by omega⟩
theorem step_piece {k:Nat} (hk:k+1<n):Con (arcE (lkC n (tV st n))) k (k+1):=by
 have hU:=tV_ties st n
 obtain⟨-,-,-,c3⟩:=tN_cor st k n (by omega)
 obtain⟨-,-,e2,-⟩:=tN_cor st (k+1) n hk
 rw[(tE_new st k).2]at e2
 have a1:=cor_ge k (st k).2 3
 have a2:=cor_lt k (st k).2 3
 have b1:=cor_ge (k+1) (st (k+1)).2 (3-tG (st (k+1)).1)
 have b2:=cor_lt (k+1) (st (k+1)).2 (3-tG (st (k+1)).1)
 generalize corT k (st k).2 3=x at*
 generalize corT (k+1) (st (k+1)).2 (3-tG (st (k+1)).1)=y at*
 have hx:SpT n x:=by unfold SpT;omega
 have hy:SpT n y:=by unfold SpT;omega
 obtain⟨s,s1,s2,-⟩:=sp_side (st:=st) hx
 obtain⟨t,t1,t2,-⟩:=sp_side (st:=st) hy
 rw[show x / 4-1=k by omega]at s2
 rw[show y / 4-1=k+1 by omega]at t2
 have ef:=(arc_cls st n hx hy).2 (by rw[c3,e2])
 obtain⟨p1,-⟩:=lk_side hU (c:=k) (s:=s) (by omega) s1
 obtain⟨q1,-⟩:=lk_side hU (c:=k+1) (s:=t) hk t1
 rw[s2]at p1
 rw[t2]at q1
 have ea:aAt (lkC n (tV st n)) k s=aAt (lkC n (tV st n)) (k+1) t:=by unfold aAt;rw[p1,q1,ef]
 obtain⟨u1,-,u3,u4⟩:=en_side hm k s (by rw[lkC_len];omega) s1
 obtain⟨w1,-,-,-⟩:=en_side hm (k+1) t (by rw[lkC_len];omega) t1
 rw[<-ea]at w1
 have he:(enC (lkC n (tV st n)) (aAt (lkC n (tV st n)) k s) true,enC (lkC n (tV st n)) (aAt (lkC n (tV st n)) k s) false)∈arcE (lkC n (tV st n)):=by
  refine List.mem_map.2 ⟨aAt (lkC n (tV st n)) k s-1,List.mem_range.2 (by omega),?_⟩
  show(enC _ (aAt (lkC n (tV st n)) k s-1+1) true,enC _ (aAt (lkC n (tV st n)) k s-1+1) false)=_
  rw[show aAt (lkC n (tV st n)) k s-1+1=aAt (lkC n (tV st n)) k s by omega]
 cases hc:((lkC n (tV st n)).getD k Cr.none).comes s<;>cases hd:((lkC n (tV st n)).getD (k+1) Cr.none).comes t<;>rw[hc]at u1<;>rw[hd]at w1
 · omega
 · rw[u1,w1]at he;exact(Con.edge he).symm
 · rw[u1,w1]at he;exact Con.edge he
 · omega
theorem one_pieceT:pcN (lkC n (tV st n))<=1:=by
 have all:∀ k,k<n->Con (arcE (lkC n (tV st n))) 0 k:=fun k=>by
  induction k with
  |zero=>intro _;exact Con.refl _ _
  |succ k ih=>intro h;exact(ih (by omega)).trans (step_piece hm h)
 rw[pcN_eq]
 have hL:=whoM_least hm
 rw[lkC_len]at hL ⊢
 have hc:(List.range 1).countP (fun _=>true)=1:=rfl
 refine Nat.le_trans (inj_cnt (M:=1) (Q:=fun _=>true) (fun _=>0) (fun v hv hP=>⟨by omega,rfl⟩) fun u v hu hv pu pv _=>?_) (Nat.le_of_eq hc)
 have pu:=of_decide_eq_true pu
 have pv:=of_decide_eq_true pv
 have:=(hL.same hu hv).2 ((all u hu).symm.trans (all v hv))
 omega
def dLb (st:Nat->Bool×Bool) (n j:Nat):Nat:=rgF st n (rpL st n (lkS n (tV st n) (lvC (lkC n (tV st n)) j) (enS (lkC n (tV st n)) (dA j) (dB j))))
theorem dLb_fd {j:Nat} (h1:1<=j) (h2:j<=4*n):dLb st n (fd (lkC n (tV st n)) j)=dLb st n j:=by
 have hU:=tV_ties st n
 have hlen:=lkC_len n (tV st n)
 obtain⟨-,d2,d3⟩:=d_may hm j h1 (by rw[hlen];exact h2)
 have e1:fd (lkC n (tV st n)) j=pd (lkC n (tV st n)) (4*dC (lkC n (tV st n)) j+(dS (lkC n (tV st n)) j+3)%4):=by
  rw[(pd_at hm (dC (lkC n (tV st n)) j) ((dS (lkC n (tV st n)) j+3)%4) d2 (Nat.mod_lt _ (by decide))).1]
  rfl
 obtain⟨-,p2,p3,-,-⟩:=pd_at hm (dC (lkC n (tV st n)) j) ((dS (lkC n (tV st n)) j+3)%4) d2 (Nat.mod_lt _ (by decide))
 unfold dLb
 rw[e1,p2,p3]
 have ha:=dA_le h1 h2
 obtain⟨-,a2,a3,a4,a5⟩:=en_may hm (dA j) (dB j) ha.1 (by rw[hlen];exact ha.2)
 obtain⟨-,b2,b3,b4,b5⟩:=en_may hm (dA j) (!dB j) ha.1 (by rw[hlen];exact ha.2)
 change dC (lkC n (tV st n)) j<_ at b2
 change dS (lkC n (tV st n)) j<4 at b3
 change ((lkC n (tV st n)).getD (dC (lkC n (tV st n)) j) Cr.none).arc (dS (lkC n (tV st n)) j)=(dA j:Int) at b4
 change ((lkC n (tV st n)).getD (dC (lkC n (tV st n)) j) Cr.none).comes (dS (lkC n (tV st n)) j)=!dB j at b5
 change lvC (lkC n (tV st n)) j<_ at a2
 change ((lkC n (tV st n)).getD (lvC (lkC n (tV st n)) j) Cr.none).arc (enS (lkC n (tV st n)) (dA j) (dB j))=(dA j:Int) at a4
 change ((lkC n (tV st n)).getD (lvC (lkC n (tV st n)) j) Cr.none).comes (enS (lkC n (tV st n)) (dA j) (dB j))=dB j at a5
 rw[hlen]at a2 b2
 generalize dC (lkC n (tV st n)) j=k at*
 generalize dS (lkC n (tV st n)) j=s at*
 generalize lvC (lkC n (tV st n)) j=k2 at*
 generalize enS (lkC n (tV st n)) (dA j) (dB j)=s2 at*
 obtain⟨f1,f2⟩:=lk_side hU b2 b3
 obtain⟨g1,g2⟩:=lk_side hU a2 a3
 rw[f1]at b4
 rw[g1]at a4
 rw[f2]at b5
 rw[g2]at a5
 have sx:SpT n (lkS n (tV st n) k2 s2):=lkS_sp a2
 have sy:SpT n (lkS n (tV st n) k s):=lkS_sp b2
 have tie:lkS n (tV st n) k s=tV st n (lkS n (tV st n) k2 s2):=by
  rcases(FL_one hU sy sx).1 (b4.trans a4.symm) with q|q
  · rw[q,a5]at b5
    exact absurd b5 (by cases dB j<;>decide)
  · exact q
 have hp:prv (lkS n (tV st n) k s)=lkS n (tV st n) k ((s+3)%4):=by
  unfold prv lkS
  have:=lkB_two n (tV st n) k
  omega
 have hh:=tV_hand st n _ sx
 have hh:rgF st n (rpL st n (lkS n (tV st n) k2 s2))=rgF st n (rpR st n (tV st n (lkS n (tV st n) k2 s2))):=hh
 rw[hh,<-tie,<-rp_prv st n sy,hp]
theorem lk_planar (h0:0<n):planarB (lkC n (tV st n))=true:=by
 have hlen:=lkC_len n (tV st n)
 let F:Nat->Nat:=fun j=>if j=0 then n+3 else dLb st n j
 have fdb:=fd_bij hm
 have fdm:=fd_may hm
 have lab := cyA_labelsT (K := n + 3 + 1) (P := fun v => if v < n + 3 then rgB st n v else true) fdb F (fun x hx => by
  rw[hlen]at hx
  by_cases e:x=0
  · subst e;rfl
  · rw[up0_pos _ (by omega)]
    have:=(fdm x (by omega) (by rw[hlen];omega)).2.2
    show(if fd (lkC n (tV st n)) x=0 then _ else _)=(if x=0 then _ else _)
    rw[if_neg (by omega),if_neg e]
    exact dLb_fd hm (by omega) (by omega)) (fun v hv hp=>by
  by_cases hv2:v<n+3
  · rw[if_pos hv2]at hp
    obtain⟨x,x1,x2⟩:=rg_borne st n h0 hv2 hp
    obtain⟨s,s1,s2,s3⟩:=sp_side (st:=st) x1
    obtain⟨-,q1,q2,q3,q4⟩:=pd_at hm (x / 4 - 1) s (by rw[hlen];exact s3) s1
    refine⟨pd (lkC n (tV st n)) (4*(x / 4-1)+s),by omega,?_⟩
    show(if pd (lkC n (tV st n)) (4*(x / 4-1)+s)=0 then _ else _)=v
    rw[if_neg (by omega)]
    unfold dLb
    rw[q1,q2,s2,x2]
  · exact⟨0,by omega,by show n+3=v;omega⟩)
 rw[cyA_fd hm,List.range_succ,List.countP_append,List.countP_singleton,if_neg (Nat.lt_irrefl _),if_pos rfl]at lab
 have same:(List.range (n+3)).countP (fun v=>if v<n+3 then rgB st n v else true)=(List.range (n+3)).countP (rgB st n):=List.countP_congr fun v hv=>by
  rw[if_pos (List.mem_range.1 hv)]
 rw[same,rgB_cnt]at lab
 have hp:=one_pieceT hm
 refine(planar_sum hm).2.2 ?_
 rw[hlen]
 omega
end
theorem link_planar (l:List Int) (hm:mayD (lkC (szTo l l.length) (lkU l)) (lkO l:Nat)=true):planarB (lkC (szTo l l.length) (lkU l))=true:=by
 rcases Nat.eq_zero_or_pos (szTo l l.length) with q|q
 · rw[q];rfl
 · rw[lkU_tV]at hm ⊢
   exact lk_planar hm q
end Go.Proofs.Ytgagenmkpmmpfaa
/- All that TangleDets asks of a list's link; plain mathematics. -/
namespace Go.Proofs.Ytgagenmkpmmpfaa
theorem lkO_le (l:List Int):lkO l<=2:=by
 unfold lkO
 split<;>split<;>omega
theorem link_all (l : List Int) (ho : l.length % 2 = 1) (h10 : szTo l l.length ≤ 10) : noN (lkC (szTo l l.length) (lkU l)) (lkO l : Nat) = 0 ∧ mayD (lkC (szTo l l.length) (lkU l)) (lkO l : Nat) = true ∧
    (∀ A,IsAlex (lkC (szTo l l.length) (lkU l)) (lkO l:Nat) A->max (Poly.atTo A (-1) A.length) (-(Poly.atTo A (-1) A.length))=((frM l).1.natAbs:Nat))/\
    (walksM (lkC (szTo l l.length) (lkU l))).length+lkO l=(if(frM l).1%2=0 then 2 else 1)/\0<=(frM l).2:=by
 have hs:sizeB (lkC (szTo l l.length) (lkU l)) (lkO l:Nat)=true:=by
  have h2:=lkO_le l
  have hn:szTo l l.length=0->lkO l=2:=fun q=>by
   rw[lkO_t,q]
   rfl
  unfold sizeB
  rw[lkC_len]
  simp only[Bool.and_eq_true,decide_eq_true_eq,Bool.not_eq_true',Bool.and_eq_false_iff,decide_eq_false_iff_not]
  refine⟨⟨⟨by omega,by omega⟩,by omega⟩,?_⟩
  rcases Nat.eq_zero_or_pos (szTo l l.length) with q|q
  · have:=hn q;omega
  · omega
 have hm:=lk_may (lkU_ties l) hs
 have hp:=link_planar l hm
 refine⟨by unfold noN;rw[if_pos hm,if_pos hp],hm,fun A hA=>?_,link_parts l ho hm,?_⟩
 · have:=link_det l ho hm hp hA
   omega
 · unfold frM
   split
   · show 0 <= -(frTo l l.length).2
     omega
   · omega
end Go.Proofs.Ytgagenmkpmmpfaa
