/- Several texts of the proof, one behind the other. -/
import Derived.Test.YtefooihnoajnlaaH6P
import Derived.Test.YtefooihnoajnlaaZ0P
import Derived.Test.YtefooihnoajnlaaW7P
/- Plain mathematics: rings of a renaming, and what becomes of them where two places are traded: two rings become one, or one becomes two. -/
namespace Go.Proofs.Ytefooihnoajnlaa
structure Bij (f:Nat->Nat) (M:Nat):Prop where
 lt:∀ x,x<M->f x<M
 inj:∀ x y,x<M->y<M->f x=f y->x=y
def it (f:Nat->Nat):Nat->Nat->Nat
 |0,x=>x
 |i+1,x=>f (it f i x)
theorem it_lt {f:Nat->Nat} {M:Nat} (h:Bij f M) {x:Nat} (hx:x<M):∀ i,it f i x<M:=by
 intro i
 induction i with
 |zero=>exact hx
 |succ i ih=>exact h.lt _ ih
theorem it_add (f:Nat->Nat) (x:Nat):∀ i j,it f (i+j) x=it f i (it f j x):=by
 intro i j
 induction i with
 |zero=>rw[Nat.zero_add];rfl
 |succ i ih=>rw[show i+1+j=(i+j)+1 by omega];show f (it f (i+j) x)=f (it f i (it f j x));rw[ih]
theorem it_back {f:Nat->Nat} {M:Nat} (h:Bij f M) {x y:Nat} (hx:x<M) (hy:y<M):∀ i,it f i x=it f i y->x=y:=by
 intro i
 induction i with
 |zero=>exact id
 |succ i ih=>intro e;exact ih (h.inj _ _ (it_lt h hx i) (it_lt h hy i) e)
theorem period {f:Nat->Nat} {M:Nat} (h:Bij f M) {x:Nat} (hx:x<M):∃ p,0<p/\it f p x=x:=by
 refine Classical.byContradiction fun hn=>?_
 have hp:∀ p,0<p->it f p x≠x:=fun p h0 e=>hn ⟨p,h0,e⟩
 have hd:((List.range (M+1)).map fun i=>it f i x).Nodup:=by
  unfold List.Nodup
  rw[List.pairwise_map]
  refine List.Pairwise.imp ?_ (List.pairwise_lt_range (n:=M+1))
  intro i j hij e
  have e2:it f i x=it f i (it f (j-i) x):=by rw[<-it_add,show i+(j-i)=j by omega];exact e
  exact hp (j-i) (by omega) (it_back h hx (it_lt h hx _) i e2).symm
 have hl := hd.length_le_of_subset (l₂ := List.range M) (fun y hy => by
  obtain⟨i,-,rfl⟩:=List.mem_map.1 hy
  exact List.mem_range.2 (it_lt h hx i))
 rw[List.length_map,List.length_range,List.length_range]at hl
 omega
def eds (f:Nat->Nat) (M:Nat):List (Nat×Nat):=(List.range M).map fun i=>(i,f i)
theorem eds_mem {f:Nat->Nat} {M i:Nat} (h:i<M):(i,f i)∈eds f M:=List.mem_map.2 ⟨i,List.mem_range.2 h,rfl⟩
theorem eds_lt {f:Nat->Nat} {M:Nat} (h:∀ x,x<M->f x<M):∀ e,e∈eds f M->e.1<M/\e.2<M:=fun e he=>by
 obtain⟨i,hi,rfl⟩:=List.mem_map.1 he
 exact⟨List.mem_range.1 hi,h _ (List.mem_range.1 hi)⟩
theorem closed_eds {f:Nat->Nat} {M:Nat} {S:Nat->Prop}:Closed (eds f M) S↔∀ i,i<M->(S i↔S (f i)):=by
 constructor
 · intro h i hi
   exact h _ (eds_mem hi)
 · intro h e he
   obtain⟨i,hi,rfl⟩:=List.mem_map.1 he
   exact h i (List.mem_range.1 hi)
theorem con_f {f:Nat->Nat} {M x:Nat} (hx:x<M):Con (eds f M) x (f x):=Con.edge (eds_mem hx)
theorem con_it {f:Nat->Nat} {M:Nat} (h:Bij f M) {x:Nat} (hx:x<M):∀ i,Con (eds f M) x (it f i x):=by
 intro i
 induction i with
 |zero=>exact Con.refl _ _
 |succ i ih=>exact ih.trans (con_f (it_lt h hx i))
theorem it_con {f:Nat->Nat} {M:Nat} (h:Bij f M) {x y:Nat} (hx:x<M) (hc:Con (eds f M) x y):∃ i,it f i x=y:=by
 refine hc (fun z=>∃ i,it f i x=z) (closed_eds.2 fun z hz=>⟨?_,?_⟩) ⟨0,rfl⟩
 · rintro⟨i,rfl⟩
   exact⟨i+1,rfl⟩
 · rintro⟨i,e⟩
   cases i with
   |zero=>
    obtain⟨p,h0,hp⟩:=period h hx
    cases p with
    |zero=>omega
    |succ p=>
     refine⟨p,h.inj _ _ (it_lt h hx p) hz ?_⟩
     have e1:x=f z:=e
     exact Eq.trans hp e1
   |succ i=>exact⟨i,h.inj _ _ (it_lt h hx i) hz e⟩
theorem first_of {P:Nat->Prop} (h:∃ i,P i):∃ r,P r/\∀ i,i<r->¬ P i:=by
 obtain⟨i,hi⟩:=h
 induction i using Nat.strongRecOn with
 |ind i ih=>
  by_cases hs:∃ j,j<i/\P j
  · obtain⟨j,hj,hp⟩:=hs
    exact ih j hj hp
  · exact⟨i,hi,fun j hj hp=>hs ⟨j,hj,hp⟩⟩
def tr (f:Nat->Nat) (a b x:Nat):Nat:=if x=a then f b else if x=b then f a else f x
theorem tr_a (f:Nat->Nat) (a b:Nat):tr f a b a=f b:=by simp[tr]
theorem tr_b (f:Nat->Nat) (a b:Nat):tr f a b b=f a:=by
 unfold tr
 by_cases h:b=a
 · rw[if_pos h,h]
 · rw[if_neg h,if_pos rfl]
theorem tr_o (f:Nat->Nat) {a b x:Nat} (h1:x≠a) (h2:x≠b):tr f a b x=f x:=by simp[tr,h1,h2]
theorem tr_tr (f:Nat->Nat) (a b x:Nat):tr (tr f a b) a b x=f x:=by
 by_cases h1:x=a
 · rw[h1,tr_a,tr_b]
 · by_cases h2:x=b
   · rw[h2,tr_b,tr_a]
   · rw[tr_o _ h1 h2,tr_o _ h1 h2]
theorem Bij.tr {f:Nat->Nat} {M:Nat} (h:Bij f M) {a b:Nat} (ha:a<M) (hb:b<M):Bij (tr f a b) M:=by
 have key:∀ x,x<M->∃ z,z<M/\Proofs.Ytefooihnoajnlaa.tr f a b x=f z/\(x=a->z=b)/\(x=b->z=a)/\(x≠a->x≠b->z=x):=by
  intro x hx
  by_cases h1:x=a
  · exact⟨b,hb,by rw[h1,tr_a],fun _=>rfl,fun e=>by omega,fun q=>absurd h1 q⟩
  · by_cases h2:x=b
    · exact⟨a,ha,by rw[h2,tr_b],fun q=>absurd q h1,fun _=>rfl,fun _ q=>absurd h2 q⟩
    · exact⟨x,hx,tr_o f h1 h2,fun q=>absurd q h1,fun q=>absurd q h2,fun _ _=>rfl⟩
 refine⟨fun x hx=>?_,fun x y hx hy e=>?_⟩
 · obtain⟨z,hz,e,-⟩:=key x hx
   rw[e]
   exact h.lt z hz
 · obtain⟨z,hz,e1,p1,p2,p3⟩:=key x hx
   obtain⟨u,hu,e2,q1,q2,q3⟩:=key y hy
   have e3:z=u:=h.inj z u hz hu (by rw[<-e1,<-e2,e])
   by_cases c1:x=a
   · have:=p1 c1
     by_cases c2:y=a
     · omega
     · by_cases c3:y=b
       · have:=q2 c3;omega
       · have:=q3 c2 c3;omega
   · by_cases c1b:x=b
     · have:=p2 c1b
       by_cases c2:y=a
       · have:=q1 c2;omega
       · by_cases c3:y=b
         · omega
         · have:=q3 c2 c3;omega
     · have:=p3 c1 c1b
       by_cases c2:y=a
       · have:=q1 c2;omega
       · by_cases c3:y=b
         · have:=q2 c3;omega
         · have:=q3 c2 c3;omega
theorem con_tr {f:Nat->Nat} {M:Nat} (h:Bij f M) {a b:Nat} (ha:a<M) (hb:b<M) (hn:¬ Con (eds f M) a b):Con (eds (tr f a b) M) a b:=by
 intro S hS hSa
 have hS':=closed_eds.1 hS
 have h1:S (f b):=by have:=(hS' a ha).1 hSa;rwa [tr_a]at this
 obtain⟨p,h0,hp⟩:=period h hb
 have key:∀ i,S b∨S (it f (i+1) b):=by
  intro i
  induction i with
  |zero=>exact Or.inr h1
  |succ i ih=>
   rcases ih with ih|ih
   · exact Or.inl ih
   · by_cases e:it f (i+1) b=b
     · rw[e]at ih;exact Or.inl ih
     · have ea:it f (i+1) b≠a:=fun q=>hn (q▸(con_it h hb (i+1)).symm)
       have:=(hS' _ (it_lt h hb (i+1))).1 ih
       rw[tr_o f ea e]at this
       exact Or.inr this
 have:=key (p-1)
 rw[show p-1+1=p by omega,hp]at this
 exact this.elim id id
theorem con_join {f:Nat->Nat} {M:Nat} (h:Bij f M) {a b:Nat} (ha:a<M) (hb:b<M) (hn:¬ Con (eds f M) a b) (x y:Nat):Con (eds (tr f a b) M) x y↔Con (eds f M++[(a,b)]) x y:=by
 have hab:=con_tr h ha hb hn
 constructor
 · intro hc S hS
   refine hc S (closed_eds.2 fun i hi=>?_)
   have h1:=closed_eds.1 (fun e he=>hS e (List.mem_append_left _ he):Closed (eds f M) S)
   have h2:S a↔S b:=hS (a,b) (List.mem_append_right _ (List.Mem.head _))
   by_cases e1:i=a
   · rw[e1,tr_a,h2];exact h1 b hb
   · by_cases e2:i=b
     · rw[e2,tr_b,<-h2];exact h1 a ha
     · rw[tr_o f e1 e2];exact h1 i hi
 · intro hc S hS
   have h1:=closed_eds.1 hS
   have h2:S a↔S b:=⟨hab S hS,hab.symm S hS⟩
   refine hc S fun e he=>?_
   rcases List.mem_append.1 he with he|he
   · obtain⟨i,hi,rfl⟩:=List.mem_map.1 he
     have hi:=List.mem_range.1 hi
     show S i↔S (f i)
     by_cases e1:i=a
     · rw[e1,h2];have:=h1 b hb;rwa [tr_b]at this
     · by_cases e2:i=b
       · rw[e2,<-h2];have:=h1 a ha;rwa [tr_a]at this
       · have:=h1 i hi;rwa [tr_o f e1 e2]at this
   · rw[List.mem_singleton.1 he];exact h2
theorem con_part {f:Nat->Nat} {M:Nat} (h:Bij f M) {a b:Nat} (ha:a<M) (hb:b<M) (hab:a≠b) (hc:Con (eds f M) a b):¬ Con (eds (tr f a b) M) a b:=by
 intro hcon
 obtain⟨r,hr,hmin⟩:=first_of (it_con h hb hc.symm)
 have r0:0<r:=Nat.pos_of_ne_zero fun q=>by rw[q]at hr;exact hab hr.symm
 have hB:=h.tr ha hb
 have nb:∀ i,1<=i->i<=r->it f i b≠b:=fun i h1 h2 e=>by
  by_cases e2:i=r
  · rw[e2,hr]at e;exact hab e
  · refine hmin (r-i) (by omega) ?_
    have:=it_add f b (r-i) i
    rw[e,show r-i+i=r by omega,hr]at this
    exact this.symm
 have nxt:∀ i,1<=i->i<r->tr f a b (it f i b)=it f (i+1) b:=fun i h1 h2=>tr_o f (hmin i h2) (nb i h1 (by omega))
 have hS:Closed (eds (tr f a b) M) fun z=>∃ i,1<=i/\i<=r/\it f i b=z:=closed_eds.2 fun z hz=>by
  constructor
  · rintro⟨i,h1,h2,rfl⟩
    by_cases e:i=r
    · rw[e,hr,tr_a];exact⟨1,Nat.le_refl _,r0,rfl⟩
    · exact⟨i+1,by omega,by omega,(nxt i h1 (by omega)).symm⟩
  · rintro⟨i,h1,h2,e⟩
    by_cases e1:i=1
    · refine⟨r,r0,Nat.le_refl _,?_⟩
      rw[hr]
      refine hB.inj a z ha hz ?_
      rw[tr_a,<-e,e1]
      rfl
    · refine⟨i-1,by omega,by omega,?_⟩
      refine hB.inj _ z (it_lt h hb _) hz ?_
      rw[nxt (i-1) (by omega) (by omega),<-e,show i-1+1=i by omega]
 obtain⟨i,h1,h2,e⟩:=hcon _ hS ⟨r,r0,Nat.le_refl _,hr⟩
 exact nb i h1 h2 e
def rq (W:List Nat) (Q:Nat->Bool):Nat->Nat
 |0=>0
 |k+1=>rq W Q k+(if W.getD k 0=k/\Q k=true then 1 else 0)
theorem rq_mer {Ed:List (Nat×Nat)} {n:Nat} {W:List Nat} (h:Least Ed n W) (Q:Nat->Bool) {x y:Nat} (hx:x<n) (hy:y<n) (hne:W.getD x 0≠W.getD y 0):∀ k,k<=n->rq (mer W x y) Q k+(if max (W.getD x 0) (W.getD y 0)<k/\Q (max (W.getD x 0) (W.getD y 0))=true then 1 else 0)=rq W Q k:=by
 have rx:=h.root hx
 have ry:=h.root hy
 generalize hmx:max (W.getD x 0) (W.getD y 0)=m
 have hmr:W.getD m 0=m:=by
  rcases Nat.le_total (W.getD x 0) (W.getD y 0) with hle|hle
  · have:m=W.getD y 0:=by omega
    rw[this];exact ry
  · have:m=W.getD x 0:=by omega
    rw[this];exact rx
 intro k
 induction k with
 |zero=>intro _;simp[rq]
 |succ k ih=>
  intro hk
  have i1:=ih (by omega)
  have hm:=mer_at W x y k (by rw[h.1];omega)
  rw[hmx]at hm
  simp only[rq]
  by_cases he:k=m
  · subst he
    rw[if_pos hmr]at hm
    rw[if_neg (by omega)]at i1
    rw[if_neg (show ¬ ((mer W x y).getD k 0=k/\Q k=true) from fun q=>by have:=q.1;omega)]
    by_cases hq:Q k=true
    · rw[if_pos (show k<k+1/\Q k=true from⟨by omega,hq⟩),if_pos (show W.getD k 0=k/\Q k=true from⟨hmr,hq⟩)];omega
    · rw[if_neg (show ¬ (k<k+1/\Q k=true) from fun q=>hq q.2),if_neg (show ¬ (W.getD k 0=k/\Q k=true) from fun q=>hq q.2)];omega
  · have hiff : ((mer W x y).getD k 0 = k) ↔ (W.getD k 0 = k) := by
      by_cases hr:W.getD k 0=k
      · rw[if_neg (by omega)]at hm
        rw[hm]
      · have h2 : ¬ (mer W x y).getD k 0 = k := by
          rw[hm]
          split
          · intro e
            rcases Nat.le_total (W.getD x 0) (W.getD y 0) with hle2|hle2
            · have e1:k=W.getD x 0:=by omega
              exact hr (by rw[e1];exact rx)
            · have e1:k=W.getD y 0:=by omega
              exact hr (by rw[e1];exact ry)
          · exact hr
        exact⟨fun q=>absurd q h2,fun q=>absurd q hr⟩
    rw[show(if(mer W x y).getD k 0=k/\Q k=true then 1 else 0)=(if W.getD k 0=k/\Q k=true then 1 else 0) by simp only[hiff]]
    by_cases hq:m<k/\Q m=true
    · rw[if_pos hq]at i1
      rw[if_pos (show m<k+1/\Q m=true from⟨by omega,hq.2⟩)]
      omega
    · rw[if_neg hq]at i1
      rw[if_neg (show ¬ (m<k+1/\Q m=true) from fun q=>hq ⟨by omega,q.2⟩)]
      omega
def cyW (f:Nat->Nat) (M:Nat):List Nat:=levR (List.range M) (eds f M) M
theorem cyW_least {f:Nat->Nat} {M:Nat} (h:∀ x,x<M->f x<M):Least (eds f M) M (cyW f M):=levR_least (eds_lt h) M (Nat.le_refl _)
def cyN (f:Nat->Nat) (M:Nat) (Q:Nat->Bool):Nat:=rq (cyW f M) Q M
theorem least_congr {E F:List (Nat×Nat)} {n:Nat} {W:List Nat} (h:Least E n W) (e:∀ x y,Con E x y↔Con F x y):Least F n W:=
 ⟨h.1,fun v hv=>⟨(e _ _).1 (h.2 v hv).1,fun u hu=>(h.2 v hv).2 u ((e _ _).2 hu)⟩⟩
theorem cyN_join {f:Nat->Nat} {M:Nat} (h:Bij f M) (Q:Nat->Bool) {a b:Nat} (ha:a<M) (hb:b<M) (hn:¬ Con (eds f M) a b) (hQ:∀ x y,x<M->Con (eds f M) x y->Q x=Q y) (hab:Q a=Q b):cyN (tr f a b) M Q+(if Q a=true then 1 else 0)=cyN f M Q:=by
 have hW:=cyW_least h.lt
 have hW':=cyW_least (h.tr ha hb).lt
 have e:cyW (tr f a b) M=mer (cyW f M) a b:=hW'.eq (least_congr (mer_least hW a b ha hb (eds_lt h.lt)) fun x y=>(con_join h ha hb hn x y).symm)
 have hne:(cyW f M).getD a 0≠(cyW f M).getD b 0:=fun q=>hn ((hW.same ha hb).1 q)
 have hm:=rq_mer hW Q ha hb hne M (Nat.le_refl _)
 have la:=hW.lt ha
 have lb:=hW.lt hb
 have qa:=hQ a _ ha (hW.2 a ha).1
 have qb:=hQ b _ hb (hW.2 b hb).1
 have qm:Q (max ((cyW f M).getD a 0) ((cyW f M).getD b 0))=Q a:=by
  rcases Nat.le_total ((cyW f M).getD a 0) ((cyW f M).getD b 0) with hle|hle
  · rw[Nat.max_eq_right hle,<-qb,hab]
  · rw[Nat.max_eq_left hle,<-qa]
 rw[qm]at hm
 unfold cyN
 rw[e,<-hm]
 by_cases hq:Q a=true
 · rw[if_pos hq,if_pos ⟨by omega,hq⟩]
 · rw[if_neg hq,if_neg fun q=>hq q.2]
theorem eds_congr {f g:Nat->Nat} {M:Nat} (e:∀ x,x<M->f x=g x):eds f M=eds g M:=by
 unfold eds
 refine List.map_congr_left fun i hi=>?_
 rw[e i (List.mem_range.1 hi)]
theorem cyN_congr {f g:Nat->Nat} {M:Nat} (e:∀ x,x<M->f x=g x) (Q:Nat->Bool):cyN f M Q=cyN g M Q:=by
 unfold cyN cyW
 rw[eds_congr e]
theorem cyN_part {f:Nat->Nat} {M:Nat} (h:Bij f M) (Q:Nat->Bool) {a b:Nat} (ha:a<M) (hb:b<M) (hne:a≠b) (hc:Con (eds f M) a b) (hQ:∀ x y,x<M->Con (eds f M) x y->Q x=Q y):cyN f M Q+(if Q a=true then 1 else 0)=cyN (tr f a b) M Q:=by
 have hn:=con_part h ha hb hne hc
 have hB:=h.tr ha hb
 have hQ':∀ x y,x<M->Con (eds (tr f a b) M) x y->Q x=Q y:=fun x y hx hxy=>by
  have := hxy (fun z => Q x = Q z) (closed_eds.2 fun i hi => by
   have e:Q i=Q (tr f a b i):=by
    by_cases e1:i=a
    · rw[e1,tr_a,hQ a b ha hc];exact hQ b _ hb (con_f hb)
    · by_cases e2:i=b
      · rw[e2,tr_b,<-hQ a b ha hc];exact hQ a _ ha (con_f ha)
      · rw[tr_o f e1 e2];exact hQ i _ hi (con_f hi)
   rw[e]) rfl
  exact this
 have k:=cyN_join hB Q ha hb hn hQ' (hQ a b ha hc)
 rw[cyN_congr (fun x _=>tr_tr f a b x)]at k
 exact k
end Go.Proofs.Ytefooihnoajnlaa
/- The walks of ref.MirrorOf and canon.Mirror. -/
namespace Go.Proofs.Ytefooihnoajnlaa
open Go.RowKit
set_option maxHeartbeats 8000000
set_option maxRecDepth 100000
theorem mirrorOf_any (a : Option Addr) (cap : Nat) (C : List Cr) (loops : Int) (w : World) (hl : C.length ≤ 16) (hD : Crs w w.heap.size (.slice a C.length cap) C) :
    Calls Try.prog 36 #[.agg #[.slice a C.length cap,.int .i64 loops]] w fun e w'=>∃ v,e=.returned (.agg #[v,.int .i64 loops])/\w'.ownsRow w.heap.size 60 5 v (C.map mirX).length (crossCells (C.map mirX))/\Below w.heap.size w w':=by
 obtain⟨i0,hi,hz0,hz1,hz2⟩:=info_parts infoCross
 have HD:Hid (Crs w w.heap.size (.slice a C.length cap) C):=hD
 clear hD
 obtain⟨w0,hw0⟩:∃ w0,w0=((w.alloc (.cells #[.slice a C.length cap,.int .i64 loops] 24)).alloc (.cells #[.slice none 0 0,.int .i64 0] 24)).alloc (.cells #[.slice none 0 0,.int .i64 loops] 24):=⟨_,rfl⟩
 have HW0:Hid (w0=((w.alloc (.cells #[.slice a C.length cap,.int .i64 loops] 24)).alloc (.cells #[.slice none 0 0,.int .i64 0] 24)).alloc (.cells #[.slice none 0 0,.int .i64 loops] 24)):=hw0
 have hs0:w0.heap.size=w.heap.size+3:=by rw[hw0];simp
 have HB0:Hid (Below w.heap.size w w0):=(by rw[hw0];exact below3 _ _ _ _:Below w.heap.size w w0)
 have HT0:Hid (w0.heap[w.heap.size]?=some (.cells #[.slice a C.length cap,.int .i64 loops] 24 (0,0))):=(by rw[hw0];exact alloc_old (alloc_old (alloc_at rfl)):w0.heap[w.heap.size]?=some (.cells #[.slice a C.length cap,.int .i64 loops] 24 (0,0)))
 have HT1:Hid (w0.heap[w.heap.size+1]?=some (.cells #[.slice none 0 0,.int .i64 0] 24 (0,0))):=(by rw[hw0];exact alloc_old (alloc_at (by simp)):w0.heap[w.heap.size+1]?=some (.cells #[.slice none 0 0,.int .i64 0] 24 (0,0)))
 have HT2:Hid (w0.heap[w.heap.size+1+1]?=some (.cells #[.slice none 0 0,.int .i64 loops] 24 (0,0))):=(by rw[hw0];exact alloc_at (by simp):w0.heap[w.heap.size+1+1]?=some (.cells #[.slice none 0 0,.int .i64 loops] 24 (0,0)))
 clear hw0
 go_enter Try.func36,Try.ntmps36
 go_wp2
 rw[<-HW0.out]
 go_loopw [4] (fun v4 wr=>∃ (i:Nat) (v3:Value) (acc:List Cr),i<=C.length/\v4=.int .i64 (i:Nat)/\Hid (acc.length=i)/\Hid (acc=(C.take i).map mirX)/\OutAt wr (w.heap.size+3) (w.heap.size+1+1) v3 loops acc/\wr.heap[w.heap.size+1]?=some (.cells #[.slice none 0 0,.int .i64 0] 24 (0,0))/\wr.heap[w.heap.size]?=some (.cells #[.slice a C.length cap,.int .i64 loops] 24 (0,0))/\Below w.heap.size w wr) (fun v4 _=>C.length-(intOf v4).toNat)
 case atStart=>exact⟨0,.slice none 0 0,[],Nat.zero_le _,rfl,(rfl:([]:List Cr).length=0),(rfl:[]=(C.take 0).map mirX),OutAt.nil HT2.out,HT1.out,HT0.out,HB0.out⟩
 case round=>
  rename World=>W1
  obtain⟨i,v3,acc,hin,rfl,hal,hacc,hout,hres,hdia,hb⟩:=hrel
  have hszW:=hb.size
  have hal16:acc.length<=16:=by have:=hal.out;omega
  have hlt1:=(Array.getElem?_eq_some_iff.1 hout.box).1
  have p0:W1.cell? ⟨w.heap.size,0,none⟩=some (.slice a C.length cap):=block_cell hdia rfl
  by_cases hil:i<C.length
  · have hdi:decide ((i:Int)<(C.length:Int))=true:=by simp;omega
    have hdi2:decide (i<C.length)=true:=by simp;omega
    obtain⟨b,off,ea,hbq,hC⟩:=crs_some HD.out (by omega)
    subst ea
    obtain⟨c0,c1,c2,c3,c4⟩:=(hC.on hb hbq) i hil
    have HNX:Hid ((C.take (i+1)).map mirX=(C.take i).map mirX++[mirX (C.getD i Cr.none)]):=take_map_next mirX C i hil
    clear hC
    generalize C.getD i Cr.none=x at c0 c1 c2 c3 c4 HNX
    obtain⟨xa,xb,xc,xd,xp⟩:=x
    have hb1:b<W1.heap.size:=by omega
    have HOUT:Hid (OutAt W1 (w.heap.size+3) (w.heap.size+1+1) v3 loops acc):=hout
    have HRES:Hid (W1.heap[w.heap.size+1]?=some (.cells #[.slice none 0 0,.int .i64 0] 24 (0,0))):=hres
    have HDIA:Hid (W1.heap[w.heap.size]?=some (.cells #[.slice (some ⟨b,off,none⟩) C.length cap,.int .i64 loops] 24 (0,0))):=hdia
    clear hout hres hdia
    obtain⟨a3,c3',ev3⟩:=own_capS HOUT.out.row
    subst ev3
    have q0:W1.cell? ⟨w.heap.size+1+1,0,none⟩=some (.slice a3 acc.length c3'):=block_cell HOUT.out.box rfl
    cases xp with
    |true=>
     have HMX:Hid (mirX ⟨xa,xb,xc,xd,true⟩=(⟨xd,xa,xb,xc,false⟩:Cr)):=(rfl:mirX ⟨xa,xb,xc,xd,true⟩=(⟨xd,xa,xb,xc,false⟩:Cr))
     have HOX:Hid (OutAt (W1.alloc (.cells #[.int .i64 xa,.int .i64 xb,.int .i64 xc,.int .i64 xd,.bool true] 60)) (w.heap.size+3) (w.heap.size+1+1) (.slice a3 acc.length c3') loops acc):=HOUT.out.on ((Below.refl _ _).alloc (Nat.le_refl _) _)
     go_wp2_with (first
      |(at_builtin;refine wpList_append_own _ rfl _ _ 22 rfl (w.heap.size+3) 60 i0 (.agg #[.int .i64 0,.int .i64 0,.int .i64 0,.int .i64 0,.bool false]) 5 40 Try.underlying22 hi hz0 hz1 hz2 rfl (by decide) _ _ _ rfl (HOX.out.row.alloc _) ⟨W1.heap.size+1,0,none⟩ 1 1 [.int .i64 (xd),.int .i64 (xa),.int .i64 (xb),.int .i64 (xc),.bool (false)] rfl rfl (new_cell5' (by simp) _ _ _ _ _ _) (cells_one [(⟨xd,xa,xb,xc,false⟩:Cr)]) (by unfold maxLen;omega) (by omega) (by simp;omega) ?_;intro v8 w8 hown8 hg8 _;refine Hid.out ?_))
     refine Lib.hid ?_
     have HOW8:Hid (w8.ownsRow (w.heap.size+3) 60 5 v8 (acc.length+1) (crossCells acc++crossCells [(⟨xd,xa,xb,xc,false⟩:Cr)])):=hown8
     have HG8:Hid (((W1.alloc (.cells #[.int .i64 xa,.int .i64 xb,.int .i64 xc,.int .i64 xd,.bool true] 60)).alloc (.cells #[.int .i64 (xd),.int .i64 (xa),.int .i64 (xb),.int .i64 (xc),.bool (false)] 60)).grownBy w8 (Value.slice a3 acc.length c3').ownBlock):=hg8
     obtain⟨a8,c8,ev8⟩:=own_capS HOW8.out
     subst ev8
     have hb8:=HOX.out.box8 (by omega) HG8.out
     have r0:w8.cell? ⟨w.heap.size+1+1,0,none⟩=some (.slice a3 acc.length c3'):=block_cell hb8 rfl
     have r1:w8.frozen? ⟨w.heap.size+1+1,0,none⟩=false:=block_frozen hb8
     have r2:w.heap.size+1+1<w8.heap.size:=(Array.getElem?_eq_some_iff.1 hb8).1
     clear hown8 hg8 hb8
     clear c0 c1 c2 c3 c4 p0 q0
     go_wp2
     go_roundw
     case rel=>
      refine⟨i+1,.slice a8 (acc.length+1) c8,acc++[(⟨xd,xa,xb,xc,false⟩:Cr)],by omega,by go_num,(by have:=hal.out;simp;omega:(acc++[(⟨xd,xa,xb,xc,false⟩:Cr)]).length=i+1),(by rw[HNX.out,HMX.out,hacc.out]:acc++[(⟨xd,xa,xb,xc,false⟩:Cr)]=(C.take (i+1)).map mirX),HOX.out.app (by omega) rfl HOW8.out HG8.out,HOX.out.other (alloc_old HRES.out) (by omega) (by omega) HG8.out,HOX.out.other (alloc_old HDIA.out) (by omega) (by omega) HG8.out,HOX.out.below (hb.alloc hszW _) (by omega) (by simp;omega) (by omega) HG8.out⟩
     case measure=>simp only[intOf];omega
    |false=>
     have HMX:Hid (mirX ⟨xa,xb,xc,xd,false⟩=(⟨xb,xc,xd,xa,true⟩:Cr)):=(rfl:mirX ⟨xa,xb,xc,xd,false⟩=(⟨xb,xc,xd,xa,true⟩:Cr))
     have HOX:Hid (OutAt (W1.alloc (.cells #[.int .i64 xa,.int .i64 xb,.int .i64 xc,.int .i64 xd,.bool false] 60)) (w.heap.size+3) (w.heap.size+1+1) (.slice a3 acc.length c3') loops acc):=HOUT.out.on ((Below.refl _ _).alloc (Nat.le_refl _) _)
     go_wp2_with (first
      |(at_builtin;refine wpList_append_own _ rfl _ _ 22 rfl (w.heap.size+3) 60 i0 (.agg #[.int .i64 0,.int .i64 0,.int .i64 0,.int .i64 0,.bool false]) 5 40 Try.underlying22 hi hz0 hz1 hz2 rfl (by decide) _ _ _ rfl (HOX.out.row.alloc _) ⟨W1.heap.size+1,0,none⟩ 1 1 [.int .i64 (xb),.int .i64 (xc),.int .i64 (xd),.int .i64 (xa),.bool (true)] rfl rfl (new_cell5' (by simp) _ _ _ _ _ _) (cells_one [(⟨xb,xc,xd,xa,true⟩:Cr)]) (by unfold maxLen;omega) (by omega) (by simp;omega) ?_;intro v8 w8 hown8 hg8 _;refine Hid.out ?_))
     refine Lib.hid ?_
     have HOW8:Hid (w8.ownsRow (w.heap.size+3) 60 5 v8 (acc.length+1) (crossCells acc++crossCells [(⟨xb,xc,xd,xa,true⟩:Cr)])):=hown8
     have HG8:Hid (((W1.alloc (.cells #[.int .i64 xa,.int .i64 xb,.int .i64 xc,.int .i64 xd,.bool false] 60)).alloc (.cells #[.int .i64 (xb),.int .i64 (xc),.int .i64 (xd),.int .i64 (xa),.bool (true)] 60)).grownBy w8 (Value.slice a3 acc.length c3').ownBlock):=hg8
     obtain⟨a8,c8,ev8⟩:=own_capS HOW8.out
     subst ev8
     have hb8:=HOX.out.box8 (by omega) HG8.out
     have r0:w8.cell? ⟨w.heap.size+1+1,0,none⟩=some (.slice a3 acc.length c3'):=block_cell hb8 rfl
     have r1:w8.frozen? ⟨w.heap.size+1+1,0,none⟩=false:=block_frozen hb8
     have r2:w.heap.size+1+1<w8.heap.size:=(Array.getElem?_eq_some_iff.1 hb8).1
     clear hown8 hg8 hb8
     clear c0 c1 c2 c3 c4 p0 q0
     go_wp2
     go_roundw
     case rel=>
      refine⟨i+1,.slice a8 (acc.length+1) c8,acc++[(⟨xb,xc,xd,xa,true⟩:Cr)],by omega,by go_num,(by have:=hal.out;simp;omega:(acc++[(⟨xb,xc,xd,xa,true⟩:Cr)]).length=i+1),(by rw[HNX.out,HMX.out,hacc.out]:acc++[(⟨xb,xc,xd,xa,true⟩:Cr)]=(C.take (i+1)).map mirX),HOX.out.app (by omega) rfl HOW8.out HG8.out,HOX.out.other (alloc_old HRES.out) (by omega) (by omega) HG8.out,HOX.out.other (alloc_old HDIA.out) (by omega) (by omega) HG8.out,HOX.out.below (hb.alloc hszW _) (by omega) (by simp;omega) (by omega) HG8.out⟩
     case measure=>simp only[intOf];omega
  · obtain rfl:i=C.length:=by omega
    have hdi:decide ((C.length:Int)<(C.length:Int))=false:=by simp
    have e:acc=C.map mirX:=by rw[hacc.out,List.take_length]
    have HOUT:Hid (OutAt W1 (w.heap.size+3) (w.heap.size+1+1) v3 loops (C.map mirX)):=(by rw[<-e];exact hout:OutAt W1 (w.heap.size+3) (w.heap.size+1+1) v3 loops (C.map mirX))
    have HRES:Hid (W1.heap[w.heap.size+1]?=some (.cells #[.slice none 0 0,.int .i64 0] 24 (0,0))):=hres
    have q0:W1.cell? ⟨w.heap.size+1+1,0,none⟩=some v3:=block_cell hout.box rfl
    have q1:W1.cell? ⟨w.heap.size+1+1,1,none⟩=some (.int .i64 loops):=block_cell hout.box rfl
    have r0:W1.cell? ⟨w.heap.size+1,0,none⟩=some (.slice none 0 0):=block_cell hres rfl
    have r1:W1.cell? ⟨w.heap.size+1,1,none⟩=some (.int .i64 0):=block_cell hres rfl
    have f0:W1.frozen? ⟨w.heap.size+1,0,none⟩=false:=block_frozen hres
    have f1:W1.frozen? ⟨w.heap.size+1,1,none⟩=false:=block_frozen hres
    clear hout hres hacc e hdia
    obtain⟨a3,c3',ev3⟩:=own_capS HOUT.out.row
    rw[List.length_map]at ev3
    subst ev3
    go_wp2
    have hX:=set_block (i:=1) (u:=.int .i64 loops) (set_block (i:=0) (u:=.slice a3 C.length c3') HRES.out)
    have x0:=block_cell (i:=0) (v:=.slice a3 C.length c3') hX rfl
    have x1:=block_cell (i:=1) (v:=.int .i64 loops) hX rfl
    have hk:=HOUT.out.kept (st2_grown W1 (w.heap.size+1) 0 (.slice a3 C.length c3') (.int .i64 loops)) (by omega) (by omega)
    exact bodyPost_ret (v:=.agg #[.slice a3 C.length c3',.int .i64 loops]) (by simp[results,Try.results36,go_sem,x0,x1]) rfl ⟨_,rfl,own_low hk.row (by omega),hb.grown (st2_grown W1 (w.heap.size+1) 0 (.slice a3 C.length c3') (.int .i64 loops)) hszW (fun q hq=>by have:=Option.some.inj hq;omega)⟩
end Go.Proofs.Ytefooihnoajnlaa
