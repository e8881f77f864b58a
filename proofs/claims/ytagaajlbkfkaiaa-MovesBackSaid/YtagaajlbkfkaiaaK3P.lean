/- Several texts of the proof, one behind the other. -/
import Derived.Test.YtagaajlbkfkaiaaW7P
import Derived.Test.YtagaajlbkfkaiaaH6P
import Derived.Test.YtagaajlbkfkaiaaW3P
import Derived.Deep.QuietTactic
import Derived.BigQuiet
/- Crossings compared; the walks of ref.SameDiagram and ref.MirrorOf, and of canon.Mirror. -/
namespace Go.Proofs.Ytagaajlbkfkaiaa
open Go.RowKit
def crEq (x y:Cr):Bool:=x.a==y.a&&x.b==y.b&&x.c==y.c&&x.d==y.d&&x.plus==y.plus
theorem crEq_refl (x:Cr):crEq x x=true:=by simp[crEq]
def crsEq (C D:List Cr):Bool:=decide (C.length=D.length)&&(List.range C.length).all fun i=>crEq (C.getD i Cr.none) (D.getD i Cr.none)
def sameD (l1 l2:Int) (C D:List Cr):Bool:=decide (l1=l2)&&crsEq C D
theorem sameD_iff (l1 l2:Int) (C D:List Cr):sameD l1 l2 C D=true↔l1=l2/\C.length=D.length/\∀ i,i<C.length->crEq (C.getD i Cr.none) (D.getD i Cr.none)=true:=by
 simp only[sameD,crsEq,Bool.and_eq_true,decide_eq_true_eq,List.all_eq_true,List.mem_range]
theorem sameD_no {l1 l2:Int} {C D:List Cr} (h:¬ (l1=l2/\C.length=D.length/\∀ i,i<C.length->crEq (C.getD i Cr.none) (D.getD i Cr.none)=true)):sameD l1 l2 C D=false:=by
 cases hs:sameD l1 l2 C D with
 |false=>rfl
 |true=>exact absurd ((sameD_iff l1 l2 C D).1 hs) h
theorem eqCross (x y:Cr) (w:World):(Op.equalIn 10000 71 (.agg #[.int .i64 x.a,.int .i64 x.b,.int .i64 x.c,.int .i64 x.d,.bool x.plus]) (.agg #[.int .i64 y.a,.int .i64 y.b,.int .i64 y.c,.int .i64 y.d,.bool y.plus])).run Try.prog w=.ok (crEq x y) w:=by
 have u3:=Try.underlying3
 have a3:=Try.isAgg3
 have z3:=Try.sizeOf3
 have u4:=Try.underlying4
 have a4:=Try.isAgg4
 have z4:=Try.sizeOf4
 have hS:Try.prog.underlying 71=some (.struct (Try.prog.fieldsOf 71)):=by kernel_rfl
 have hp:Try.prog.stoodInHeld 71=false:=by kernel_rfl
 rw[show(10000:Nat)=9999+1 from rfl,run_equalIn_agg w 9999 71 _ _ hS hp]
 simp only[Program.fieldsOf,Try.underlying71]
 go_simp
 unfold crEq
 by_cases h1:x.a=y.a<;>by_cases h2:x.b=y.b<;>by_cases h3:x.c=y.c<;>by_cases h4:x.d=y.d<;>by_cases h5:x.plus=y.plus<;>simp[h1,h2,h3,h4,h5]
theorem neqCross (x y:Cr) (w:World):(binOp .neq 71 (.agg #[.int .i64 x.a,.int .i64 x.b,.int .i64 x.c,.int .i64 x.d,.bool x.plus]) (.agg #[.int .i64 y.a,.int .i64 y.b,.int .i64 y.c,.int .i64 y.d,.bool y.plus])).run Try.prog w=.ok (.bool (!crEq x y)) w:=by
 rw[run_neq_struct,eqCross]
 simp[Result.andThen]
end Go.Proofs.Ytagaajlbkfkaiaa
/- Sums: the walks of Drawing.Has and of the closure that numbers arcs anew, and of drawing.Renumbered with it. -/
namespace Go.Proofs.Ytagaajlbkfkaiaa
open Go.RowKit
def numTo (g:Nat->Int) (k:Nat):List Int:=(List.range 4).map fun j=>if j<k then g j else 0
theorem numTo_len (g:Nat->Int) (k:Nat):(numTo g k).length=4:=by simp[numTo]
theorem numTo_next (g:Nat->Int) (k:Nat) (hk:k<4):(numTo g k).set k (g k)=numTo g (k+1):=by
 apply List.ext_getElem?
 intro i
 rw[List.getElem?_set]
 by_cases hi:i<4
 · by_cases e:k=i
   · subst e
     simp[numTo,hi]
   · rw[if_neg e]
     simp only[numTo,List.getElem?_map,List.getElem?_range hi,Option.map_some]
     congr 1
     by_cases h2:i<k
     · rw[if_pos h2,if_pos (by omega)]
     · rw[if_neg h2,if_neg (by omega)]
 · rw[List.getElem?_eq_none (by rw[numTo_len];omega),List.getElem?_eq_none (by rw[numTo_len];omega)]
   split
   · next e=>rw[if_neg (by rw[numTo_len];omega)]
   · rfl
theorem numTo_zero (g:Nat->Int):numTo g 0=[0,0,0,0]:=by simp[numTo,List.range_succ]
theorem numTo_four (g:Nat->Int):intArr (numTo g 4)=#[.int .i64 (g 0),.int .i64 (g 1),.int .i64 (g 2),.int .i64 (g 3)]:=by
 simp[numTo,intArr,List.range_succ]
def Boxes (w:World) (x:Cr) (more cut other:Int) (pc px po pm:Nat):Prop:=(pc<w.heap.size/\px<w.heap.size/\po<w.heap.size/\pm<w.heap.size)/\w.cell? ⟨pc,0,none⟩=some (.int .i64 cut)/\w.cell? ⟨px,0,none⟩=some (.int .i64 x.a)/\w.cell? ⟨px,1,none⟩=some (.int .i64 x.b)/\w.cell? ⟨px,2,none⟩=some (.int .i64 x.c)/\w.cell? ⟨px,3,none⟩=some (.int .i64 x.d)/\w.cell? ⟨px,4,none⟩=some (.bool x.plus)/\w.cell? ⟨po,0,none⟩=some (.int .i64 other)/\w.cell? ⟨pm,0,none⟩=some (.int .i64 more)
theorem Boxes.kept {B:Nat} {w w':World} {x:Cr} {more cut other:Int} {pc px po pm:Nat} (h:Boxes w x more cut other pc px po pm) (hb:Below B w w') (l1:pc<B) (l2:px<B) (l3:po<B) (l4:pm<B):Boxes w' x more cut other pc px po pm:=by
 obtain⟨⟨a1,a2,a3,a4⟩,c0,c1,c2,c3,c4,c5,c6,c7⟩:=h
 have hs:=hb.size
 exact⟨⟨by omega,by omega,by omega,by omega⟩,bcell hb l1 c0,bcell hb l2 c1,bcell hb l2 c2,bcell hb l2 c3,bcell hb l2 c4,bcell hb l2 c5,bcell hb l3 c6,bcell hb l4 c7⟩
end Go.Proofs.Ytagaajlbkfkaiaa
/- Moves: the face along a dart, as the dart's iterates. -/
namespace Go.Proofs.Ytagaajlbkfkaiaa
theorem mod_next {i L:Nat} (hL:0<L):(i+1)%L=if i%L+1=L then 0 else i%L+1:=by
 have h:=Nat.mod_lt i hL
 rw[Nat.add_mod]
 by_cases h1:L=1
 · subst h1
   simp[Nat.mod_one]
 · rw[Nat.mod_eq_of_lt (show 1<L by omega)]
   by_cases e:i%L+1=L
   · rw[if_pos e,e,Nat.mod_self]
   · rw[if_neg e,Nat.mod_eq_of_lt (by omega)]
theorem face_orbit {C:List Cr} {loops:Int} (hm:mayD C loops=true) (u:Nat) (h1:1<=u) (h2:u<=4*C.length):
    ∃ (g:Nat->Nat) (p:Nat),g 0=u/\(∀ r,g (r+1)=fd C (g r))/\(∀ r,1<=g r/\g r<=4*C.length)/\0<p/\g p=u/\(∀ r,0<r->r<p->g r≠u)/\
     ∀ v,1<=v->v<=4*C.length->v≠u->(fo C u=fo C v↔∃ r,0<r/\r<p/\g r=v):=by
 have hi:=fo_lt (C:=C) u h1 h2
 have hu:u∈(facesM C).getD (fo C u) []:=(pt_mem (walks_once (fd C) (4*C.length) u h1 h2) hi).2 rfl
 have hmem:∀ v,1<=v->v<=4*C.length->(v∈(facesM C).getD (fo C u) []↔fo C u=fo C v):=fun v a b=>by
  have h:=pt_mem (L:=facesM C) (walks_once (fd C) (4*C.length) v a b) hi
  exact⟨fun e=>(h.1 e).symm,fun e=>h.2 e.symm⟩
 obtain⟨l,hl⟩:∃ l,(facesM C).getD (fo C u) []=l:=⟨_,rfl⟩
 have hin:l∈facesM C:=by
  rw[<-hl,List.getD_eq_getElem?_getD,List.getElem?_eq_getElem hi]
  exact List.getElem_mem hi
 rw[hl]at hu hmem
 have hc:=(rings_closed (fd_closed hm) (fun a b p q r s t=>fd_inj hm a b p q r s t) (4*C.length) (Nat.le_refl _)).2.2 l hin
 have hcnt:∀ y,l.count y<=1:=fun y=>by
  by_cases hy:y∈l
  · have hr:=(walksTo_mem (fd_closed hm) (4*C.length) (Nat.le_refl _) l hin).2.2 y hy
    have h3:(facesM C).flatten.count y=1:=walks_once (fd C) (4*C.length) y hr.1 hr.2
    have h4:l.count y<=(facesM C).flatten.count y:=(List.sublist_flatten_of_mem hin).count_le y
    omega
  · rw[List.count_eq_zero_of_not_mem hy]
    omega
 obtain⟨i0,hi0,e0⟩:=mem_atZ hu
 have hL:0<l.length:=by omega
 have g0:(fun r=>l.getD ((i0+r)%l.length) 0) 0=u:=by
  show l.getD ((i0+0)%l.length) 0=u
  rw[Nat.add_zero,Nat.mod_eq_of_lt hi0,e0]
 have gs:∀ r,(fun r=>l.getD ((i0+r)%l.length) 0) (r+1)=fd C ((fun r=>l.getD ((i0+r)%l.length) 0) r):=fun r=>by
  show l.getD ((i0+(r+1))%l.length) 0=fd C (l.getD ((i0+r)%l.length) 0)
  rw[<-Nat.add_assoc,mod_next hL]
  have hlt:=Nat.mod_lt (i0+r) hL
  by_cases e:(i0+r)%l.length+1=l.length
  · rw[if_pos e,<-hc.2,show l.length-1=(i0+r)%l.length by omega]
  · rw[if_neg e]
    exact hc.1 _ (by omega)
 refine⟨fun r=>l.getD ((i0+r)%l.length) 0,l.length,g0,gs,?_,hL,?_,?_,?_⟩
 · intro r
   induction r with
   |zero=>rw[g0];exact⟨h1,h2⟩
   |succ r ih=>rw[gs r];exact fd_closed hm _ ih.1 ih.2
 · show l.getD ((i0+l.length)%l.length) 0=u
   rw[Nat.add_mod_right,Nat.mod_eq_of_lt hi0,e0]
 · intro r hr0 hrp
   show l.getD ((i0+r)%l.length) 0≠u
   have hlt:=Nat.mod_lt (i0+r) hL
   have hne:(i0+r)%l.length≠i0:=by
    by_cases e:i0+r<l.length
    · rw[Nat.mod_eq_of_lt e];omega
    · rw[Nat.mod_eq_sub_mod (by omega),Nat.mod_eq_of_lt (by omega)];omega
   rw[<-e0]
   rcases Nat.lt_or_gt_of_ne hne with h|h
   · exact at_ne hcnt h hi0
   · exact fun e=>at_ne hcnt h hlt e.symm
 · intro v a b hvu
   rw[<-hmem v a b]
   constructor
   · intro hv
     obtain⟨j,hj,ej⟩:=mem_atZ hv
     have hji:j≠i0:=fun e=>hvu (by rw[<-ej,e,e0])
     by_cases e:i0<j
     · refine⟨j-i0,by omega,by omega,?_⟩
       show l.getD ((i0+(j-i0))%l.length) 0=v
       rw[show i0+(j-i0)=j by omega,Nat.mod_eq_of_lt hj,ej]
     · refine⟨j+l.length-i0,by omega,by omega,?_⟩
       show l.getD ((i0+(j+l.length-i0))%l.length) 0=v
       rw[show i0+(j+l.length-i0)=j+l.length by omega,Nat.add_mod_right,Nat.mod_eq_of_lt hj,ej]
   · rintro⟨r,-,-,er⟩
     rw[<-er]
     exact at_mem (Nat.mod_lt _ hL)
end Go.Proofs.Ytagaajlbkfkaiaa
/- Plain mathematics: rings of a renaming, and what becomes of them where two places are traded: two rings become one, or one becomes two. -/
namespace Go.Proofs.Ytagaajlbkfkaiaa
structure Bij (f:Nat->Nat) (M:Nat):Prop where
 lt:∀ x,x<M->f x<M
 inj:∀ x y,x<M->y<M->f x=f y->x=y
def it (f:Nat->Nat):Nat->Nat->Nat
 |0,x=>x
 |i+1,x=>f (it f i x)
theorem it_lt {f:Nat->Nat} {M:Nat} (h:Bij f M) {x:Nat} (hx:x<M):∀ i,it f i x<M:=by
 intro i
 induction i with
 |zero=>exact hx
 |succ i ih=>exact h.lt _ ih
theorem it_add (f:Nat->Nat) (x:Nat):∀ i j,it f (i+j) x=it f i (it f j x):=by
 intro i j
 induction i with
 |zero=>rw[Nat.zero_add];rfl
 |succ i ih=>rw[show i+1+j=(i+j)+1 by omega];show f (it f (i+j) x)=f (it f i (it f j x));rw[ih]
theorem it_back {f:Nat->Nat} {M:Nat} (h:Bij f M) {x y:Nat} (hx:x<M) (hy:y<M):∀ i,it f i x=it f i y->x=y:=by
 intro i
 induction i with
 |zero=>exact id
 |succ i ih=>intro e;exact ih (h.inj _ _ (it_lt h hx i) (it_lt h hy i) e)
theorem period {f:Nat->Nat} {M:Nat} (h:Bij f M) {x:Nat} (hx:x<M):∃ p,0<p/\it f p x=x:=by
 refine Classical.byContradiction fun hn=>?_
 have hp:∀ p,0<p->it f p x≠x:=fun p h0 e=>hn ⟨p,h0,e⟩
 have hd:((List.range (M+1)).map fun i=>it f i x).Nodup:=by
  unfold List.Nodup
  rw[List.pairwise_map]
  refine List.Pairwise.imp ?_ (List.pairwise_lt_range (n:=M+1))
  intro i j hij e
  have e2:it f i x=it f i (it f (j-i) x):=by rw[<-it_add,show i+(j-i)=j by omega];exact e
  exact hp (j-i) (by omega) (it_back h hx (it_lt h hx _) i e2).symm
 have hl:=hd.length_le_of_subset (l₂:=List.range M) (fun y hy=>by
  obtain⟨i,-,rfl⟩:=List.mem_map.1 hy
  exact List.mem_range.2 (it_lt h hx i))
 rw[List.length_map,List.length_range,List.length_range]at hl
 omega
def eds (f:Nat->Nat) (M:Nat):List (Nat×Nat):=(List.range M).map fun i=>(i,f i)
theorem eds_mem {f:Nat->Nat} {M i:Nat} (h:i<M):(i,f i)∈eds f M:=List.mem_map.2 ⟨i,List.mem_range.2 h,rfl⟩
theorem eds_lt {f:Nat->Nat} {M:Nat} (h:∀ x,x<M->f x<M):∀ e,e∈eds f M->e.1<M/\e.2<M:=fun e he=>by
 obtain⟨i,hi,rfl⟩:=List.mem_map.1 he
 exact⟨List.mem_range.1 hi,h _ (List.mem_range.1 hi)⟩
theorem closed_eds {f:Nat->Nat} {M:Nat} {S:Nat->Prop}:Closed (eds f M) S↔∀ i,i<M->(S i↔S (f i)):=by
 constructor
 · intro h i hi
   exact h _ (eds_mem hi)
 · intro h e he
   obtain⟨i,hi,rfl⟩:=List.mem_map.1 he
   exact h i (List.mem_range.1 hi)
theorem con_f {f:Nat->Nat} {M x:Nat} (hx:x<M):Con (eds f M) x (f x):=Con.edge (eds_mem hx)
theorem con_it {f:Nat->Nat} {M:Nat} (h:Bij f M) {x:Nat} (hx:x<M):∀ i,Con (eds f M) x (it f i x):=by
 intro i
 induction i with
 |zero=>exact Con.refl _ _
 |succ i ih=>exact ih.trans (con_f (it_lt h hx i))
theorem it_con {f:Nat->Nat} {M:Nat} (h:Bij f M) {x y:Nat} (hx:x<M) (hc:Con (eds f M) x y):∃ i,it f i x=y:=by
 refine hc (fun z=>∃ i,it f i x=z) (closed_eds.2 fun z hz=>⟨?_,?_⟩) ⟨0,rfl⟩
 · rintro⟨i,rfl⟩
   exact⟨i+1,rfl⟩
 · rintro⟨i,e⟩
   cases i with
   |zero=>
    obtain⟨p,h0,hp⟩:=period h hx
    cases p with
    |zero=>omega
    |succ p=>
     refine⟨p,h.inj _ _ (it_lt h hx p) hz ?_⟩
     have e1:x=f z:=e
     exact Eq.trans hp e1
   |succ i=>exact⟨i,h.inj _ _ (it_lt h hx i) hz e⟩
theorem first_of {P:Nat->Prop} (h:∃ i,P i):∃ r,P r/\∀ i,i<r->¬ P i:=by
 obtain⟨i,hi⟩:=h
 induction i using Nat.strongRecOn with
 |ind i ih=>
  by_cases hs:∃ j,j<i/\P j
  · obtain⟨j,hj,hp⟩:=hs
    exact ih j hj hp
  · exact⟨i,hi,fun j hj hp=>hs ⟨j,hj,hp⟩⟩
def tr (f:Nat->Nat) (a b x:Nat):Nat:=if x=a then f b else if x=b then f a else f x
theorem tr_a (f:Nat->Nat) (a b:Nat):tr f a b a=f b:=by simp[tr]
theorem tr_b (f:Nat->Nat) (a b:Nat):tr f a b b=f a:=by
 unfold tr
 by_cases h:b=a
 · rw[if_pos h,h]
 · rw[if_neg h,if_pos rfl]
theorem tr_o (f:Nat->Nat) {a b x:Nat} (h1:x≠a) (h2:x≠b):tr f a b x=f x:=by simp[tr,h1,h2]
theorem tr_tr (f:Nat->Nat) (a b x:Nat):tr (tr f a b) a b x=f x:=by
 by_cases h1:x=a
 · rw[h1,tr_a,tr_b]
 · by_cases h2:x=b
   · rw[h2,tr_b,tr_a]
   · rw[tr_o _ h1 h2,tr_o _ h1 h2]
theorem Bij.tr {f:Nat->Nat} {M:Nat} (h:Bij f M) {a b:Nat} (ha:a<M) (hb:b<M):Bij (tr f a b) M:=by
 have key:∀ x,x<M->∃ z,z<M/\Proofs.Ytagaajlbkfkaiaa.tr f a b x=f z/\(x=a->z=b)/\(x=b->z=a)/\(x≠a->x≠b->z=x):=by
  intro x hx
  by_cases h1:x=a
  · exact⟨b,hb,by rw[h1,tr_a],fun _=>rfl,fun e=>by omega,fun q=>absurd h1 q⟩
  · by_cases h2:x=b
    · exact⟨a,ha,by rw[h2,tr_b],fun q=>absurd q h1,fun _=>rfl,fun _ q=>absurd h2 q⟩
    · exact⟨x,hx,tr_o f h1 h2,fun q=>absurd q h1,fun q=>absurd q h2,fun _ _=>rfl⟩
 refine⟨fun x hx=>?_,fun x y hx hy e=>?_⟩
 · obtain⟨z,hz,e,-⟩:=key x hx
   rw[e]
   exact h.lt z hz
 · obtain⟨z,hz,e1,p1,p2,p3⟩:=key x hx
   obtain⟨u,hu,e2,q1,q2,q3⟩:=key y hy
   have e3:z=u:=h.inj z u hz hu (by rw[<-e1,<-e2,e])
   by_cases c1:x=a
   · have:=p1 c1
     by_cases c2:y=a
     · omega
     · by_cases c3:y=b
       · have:=q2 c3;omega
       · have:=q3 c2 c3;omega
   · by_cases c1b:x=b
     · have:=p2 c1b
       by_cases c2:y=a
       · have:=q1 c2;omega
       · by_cases c3:y=b
         · omega
         · have:=q3 c2 c3;omega
     · have:=p3 c1 c1b
       by_cases c2:y=a
       · have:=q1 c2;omega
       · by_cases c3:y=b
         · have:=q2 c3;omega
         · have:=q3 c2 c3;omega
theorem con_tr {f:Nat->Nat} {M:Nat} (h:Bij f M) {a b:Nat} (ha:a<M) (hb:b<M) (hn:¬ Con (eds f M) a b):Con (eds (tr f a b) M) a b:=by
 intro S hS hSa
 have hS':=closed_eds.1 hS
 have h1:S (f b):=by have:=(hS' a ha).1 hSa;rwa [tr_a]at this
 obtain⟨p,h0,hp⟩:=period h hb
 have key:∀ i,S b∨S (it f (i+1) b):=by
  intro i
  induction i with
  |zero=>exact Or.inr h1
  |succ i ih=>
   rcases ih with ih|ih
   · exact Or.inl ih
   · by_cases e:it f (i+1) b=b
     · rw[e]at ih;exact Or.inl ih
     · have ea:it f (i+1) b≠a:=fun q=>hn (q▸(con_it h hb (i+1)).symm)
       have:=(hS' _ (it_lt h hb (i+1))).1 ih
       rw[tr_o f ea e]at this
       exact Or.inr this
 have:=key (p-1)
 rw[show p-1+1=p by omega,hp]at this
 exact this.elim id id
theorem con_join {f:Nat->Nat} {M:Nat} (h:Bij f M) {a b:Nat} (ha:a<M) (hb:b<M) (hn:¬ Con (eds f M) a b) (x y:Nat):Con (eds (tr f a b) M) x y↔Con (eds f M++[(a,b)]) x y:=by
 have hab:=con_tr h ha hb hn
 constructor
 · intro hc S hS
   refine hc S (closed_eds.2 fun i hi=>?_)
   have h1:=closed_eds.1 (fun e he=>hS e (List.mem_append_left _ he):Closed (eds f M) S)
   have h2:S a↔S b:=hS (a,b) (List.mem_append_right _ (List.Mem.head _))
   by_cases e1:i=a
   · rw[e1,tr_a,h2];exact h1 b hb
   · by_cases e2:i=b
     · rw[e2,tr_b,<-h2];exact h1 a ha
     · rw[tr_o f e1 e2];exact h1 i hi
 · intro hc S hS
   have h1:=closed_eds.1 hS
   have h2:S a↔S b:=⟨hab S hS,hab.symm S hS⟩
   refine hc S fun e he=>?_
   rcases List.mem_append.1 he with he|he
   · obtain⟨i,hi,rfl⟩:=List.mem_map.1 he
     have hi:=List.mem_range.1 hi
     show S i↔S (f i)
     by_cases e1:i=a
     · rw[e1,h2];have:=h1 b hb;rwa [tr_b]at this
     · by_cases e2:i=b
       · rw[e2,<-h2];have:=h1 a ha;rwa [tr_a]at this
       · have:=h1 i hi;rwa [tr_o f e1 e2]at this
   · rw[List.mem_singleton.1 he];exact h2
theorem con_part {f:Nat->Nat} {M:Nat} (h:Bij f M) {a b:Nat} (ha:a<M) (hb:b<M) (hab:a≠b) (hc:Con (eds f M) a b):¬ Con (eds (tr f a b) M) a b:=by
 intro hcon
 obtain⟨r,hr,hmin⟩:=first_of (it_con h hb hc.symm)
 have r0:0<r:=Nat.pos_of_ne_zero fun q=>by rw[q]at hr;exact hab hr.symm
 have hB:=h.tr ha hb
 have nb:∀ i,1<=i->i<=r->it f i b≠b:=fun i h1 h2 e=>by
  by_cases e2:i=r
  · rw[e2,hr]at e;exact hab e
  · refine hmin (r-i) (by omega) ?_
    have:=it_add f b (r-i) i
    rw[e,show r-i+i=r by omega,hr]at this
    exact this.symm
 have nxt:∀ i,1<=i->i<r->tr f a b (it f i b)=it f (i+1) b:=fun i h1 h2=>tr_o f (hmin i h2) (nb i h1 (by omega))
 have hS:Closed (eds (tr f a b) M) fun z=>∃ i,1<=i/\i<=r/\it f i b=z:=closed_eds.2 fun z hz=>by
  constructor
  · rintro⟨i,h1,h2,rfl⟩
    by_cases e:i=r
    · rw[e,hr,tr_a];exact⟨1,Nat.le_refl _,r0,rfl⟩
    · exact⟨i+1,by omega,by omega,(nxt i h1 (by omega)).symm⟩
  · rintro⟨i,h1,h2,e⟩
    by_cases e1:i=1
    · refine⟨r,r0,Nat.le_refl _,?_⟩
      rw[hr]
      refine hB.inj a z ha hz ?_
      rw[tr_a,<-e,e1]
      rfl
    · refine⟨i-1,by omega,by omega,?_⟩
      refine hB.inj _ z (it_lt h hb _) hz ?_
      rw[nxt (i-1) (by omega) (by omega),<-e,show i-1+1=i by omega]
 obtain⟨i,h1,h2,e⟩:=hcon _ hS ⟨r,r0,Nat.le_refl _,hr⟩
 exact nb i h1 h2 e
def rq (W:List Nat) (Q:Nat->Bool):Nat->Nat
 |0=>0
 |k+1=>rq W Q k+(if W.getD k 0=k/\Q k=true then 1 else 0)
theorem rq_mer {Ed:List (Nat×Nat)} {n:Nat} {W:List Nat} (h:Least Ed n W) (Q:Nat->Bool) {x y:Nat} (hx:x<n) (hy:y<n) (hne:W.getD x 0≠W.getD y 0):∀ k,k<=n->rq (mer W x y) Q k+(if max (W.getD x 0) (W.getD y 0)<k/\Q (max (W.getD x 0) (W.getD y 0))=true then 1 else 0)=rq W Q k:=by
 have rx:=h.root hx
 have ry:=h.root hy
 generalize hmx:max (W.getD x 0) (W.getD y 0)=m
 have hmr:W.getD m 0=m:=by
  rcases Nat.le_total (W.getD x 0) (W.getD y 0) with hle|hle
  · have:m=W.getD y 0:=by omega
    rw[this];exact ry
  · have:m=W.getD x 0:=by omega
    rw[this];exact rx
 intro k
 induction k with
 |zero=>intro _;simp[rq]
 |succ k ih=>
  intro hk
  have i1:=ih (by omega)
  have hm:=mer_at W x y k (by rw[h.1];omega)
  rw[hmx]at hm
  simp only[rq]
  by_cases he:k=m
  · subst he
    rw[if_pos hmr]at hm
    rw[if_neg (by omega)]at i1
    rw[if_neg (show ¬ ((mer W x y).getD k 0=k/\Q k=true) from fun q=>by have:=q.1;omega)]
    by_cases hq:Q k=true
    · rw[if_pos (show k<k+1/\Q k=true from⟨by omega,hq⟩),if_pos (show W.getD k 0=k/\Q k=true from⟨hmr,hq⟩)];omega
    · rw[if_neg (show ¬ (k<k+1/\Q k=true) from fun q=>hq q.2),if_neg (show ¬ (W.getD k 0=k/\Q k=true) from fun q=>hq q.2)];omega
  · have hiff:((mer W x y).getD k 0=k)↔(W.getD k 0=k):=by
      by_cases hr:W.getD k 0=k
      · rw[if_neg (by omega)]at hm
        rw[hm]
      · have h2:¬ (mer W x y).getD k 0=k:=by
          rw[hm]
          split
          · intro e
            rcases Nat.le_total (W.getD x 0) (W.getD y 0) with hle2|hle2
            · have e1:k=W.getD x 0:=by omega
              exact hr (by rw[e1];exact rx)
            · have e1:k=W.getD y 0:=by omega
              exact hr (by rw[e1];exact ry)
          · exact hr
        exact⟨fun q=>absurd q h2,fun q=>absurd q hr⟩
    rw[show(if(mer W x y).getD k 0=k/\Q k=true then 1 else 0)=(if W.getD k 0=k/\Q k=true then 1 else 0) by simp only[hiff]]
    by_cases hq:m<k/\Q m=true
    · rw[if_pos hq]at i1
      rw[if_pos (show m<k+1/\Q m=true from⟨by omega,hq.2⟩)]
      omega
    · rw[if_neg hq]at i1
      rw[if_neg (show ¬ (m<k+1/\Q m=true) from fun q=>hq ⟨by omega,q.2⟩)]
      omega
def cyW (f:Nat->Nat) (M:Nat):List Nat:=levR (List.range M) (eds f M) M
theorem cyW_least {f:Nat->Nat} {M:Nat} (h:∀ x,x<M->f x<M):Least (eds f M) M (cyW f M):=levR_least (eds_lt h) M (Nat.le_refl _)
def cyN (f:Nat->Nat) (M:Nat) (Q:Nat->Bool):Nat:=rq (cyW f M) Q M
theorem least_congr {E F:List (Nat×Nat)} {n:Nat} {W:List Nat} (h:Least E n W) (e:∀ x y,Con E x y↔Con F x y):Least F n W:=
 ⟨h.1,fun v hv=>⟨(e _ _).1 (h.2 v hv).1,fun u hu=>(h.2 v hv).2 u ((e _ _).2 hu)⟩⟩
theorem cyN_join {f:Nat->Nat} {M:Nat} (h:Bij f M) (Q:Nat->Bool) {a b:Nat} (ha:a<M) (hb:b<M) (hn:¬ Con (eds f M) a b) (hQ:∀ x y,x<M->Con (eds f M) x y->Q x=Q y) (hab:Q a=Q b):cyN (tr f a b) M Q+(if Q a=true then 1 else 0)=cyN f M Q:=by
 have hW:=cyW_least h.lt
 have hW':=cyW_least (h.tr ha hb).lt
 have e:cyW (tr f a b) M=mer (cyW f M) a b:=hW'.eq (least_congr (mer_least hW a b ha hb (eds_lt h.lt)) fun x y=>(con_join h ha hb hn x y).symm)
 have hne:(cyW f M).getD a 0≠(cyW f M).getD b 0:=fun q=>hn ((hW.same ha hb).1 q)
 have hm:=rq_mer hW Q ha hb hne M (Nat.le_refl _)
 have la:=hW.lt ha
 have lb:=hW.lt hb
 have qa:=hQ a _ ha (hW.2 a ha).1
 have qb:=hQ b _ hb (hW.2 b hb).1
 have qm:Q (max ((cyW f M).getD a 0) ((cyW f M).getD b 0))=Q a:=by
  rcases Nat.le_total ((cyW f M).getD a 0) ((cyW f M).getD b 0) with hle|hle
  · rw[Nat.max_eq_right hle,<-qb,hab]
  · rw[Nat.max_eq_left hle,<-qa]
 rw[qm]at hm
 unfold cyN
 rw[e,<-hm]
 by_cases hq:Q a=true
 · rw[if_pos hq,if_pos ⟨by omega,hq⟩]
 · rw[if_neg hq,if_neg fun q=>hq q.2]
theorem eds_congr {f g:Nat->Nat} {M:Nat} (e:∀ x,x<M->f x=g x):eds f M=eds g M:=by
 unfold eds
 refine List.map_congr_left fun i hi=>?_
 rw[e i (List.mem_range.1 hi)]
theorem cyN_congr {f g:Nat->Nat} {M:Nat} (e:∀ x,x<M->f x=g x) (Q:Nat->Bool):cyN f M Q=cyN g M Q:=by
 unfold cyN cyW
 rw[eds_congr e]
theorem cyN_part {f:Nat->Nat} {M:Nat} (h:Bij f M) (Q:Nat->Bool) {a b:Nat} (ha:a<M) (hb:b<M) (hne:a≠b) (hc:Con (eds f M) a b) (hQ:∀ x y,x<M->Con (eds f M) x y->Q x=Q y):cyN f M Q+(if Q a=true then 1 else 0)=cyN (tr f a b) M Q:=by
 have hn:=con_part h ha hb hne hc
 have hB:=h.tr ha hb
 have hQ':∀ x y,x<M->Con (eds (tr f a b) M) x y->Q x=Q y:=fun x y hx hxy=>by
  have:=hxy (fun z=>Q x=Q z) (closed_eds.2 fun i hi=>by
   have e:Q i=Q (tr f a b i):=by
    by_cases e1:i=a
    · rw[e1,tr_a,hQ a b ha hc];exact hQ b _ hb (con_f hb)
    · by_cases e2:i=b
      · rw[e2,tr_b,<-hQ a b ha hc];exact hQ a _ ha (con_f ha)
      · rw[tr_o f e1 e2];exact hQ i _ hi (con_f hi)
   rw[e]) rfl
  exact this
 have k:=cyN_join hB Q ha hb hn hQ' (hQ a b ha hc)
 rw[cyN_congr (fun x _=>tr_tr f a b x)]at k
 exact k
end Go.Proofs.Ytagaajlbkfkaiaa
/- Plain mathematics: the walks along a renaming begin each at the lowest of its ring: there are as many as rings. -/
namespace Go.Proofs.Ytagaajlbkfkaiaa
def up0 (f:Nat->Nat) (x:Nat):Nat:=if x=0 then 0 else f x
theorem up0_pos (f:Nat->Nat) {x:Nat} (h:1<=x):up0 f x=f x:=by unfold up0;rw[if_neg (by omega)]
theorem bij_up0 {f:Nat->Nat} {n:Nat} (hf:∀ a,1<=a->a<=n->1<=f a/\f a<=n) (hi:∀ a b,1<=a->a<=n->1<=b->b<=n->f a=f b->a=b):Bij (up0 f) (n+1):=by
 refine⟨fun x hx=>?_,fun x y hx hy e=>?_⟩
 · by_cases h:x=0
   · rw[h];exact Nat.succ_pos n
   · rw[up0_pos f (by omega)];have:=hf x (by omega) (by omega);omega
 · by_cases h:x=0
   · by_cases g:y=0
     · omega
     · rw[h,up0_pos f (show 1<=y by omega)]at e
       have:=hf y (by omega) (by omega)
       have e0:up0 f 0=0:=rfl
       omega
   · by_cases g:y=0
     · rw[g,up0_pos f (show 1<=x by omega)]at e
       have:=hf x (by omega) (by omega)
       have e0:up0 f 0=0:=rfl
       omega
     · rw[up0_pos f (show 1<=x by omega),up0_pos f (show 1<=y by omega)]at e
       exact hi x y (by omega) (by omega) (by omega) (by omega) e
theorem walkF_head (f:Nat->Nat):∀ (m:Nat) (seen:List Bool) (x z:Nat) (acc:List Nat),(walkF f m seen x (z::acc)).1.getD 0 0=z/\(walkF f m seen x (z::acc)).1≠[]:=by
 intro m
 induction m with
 |zero=>intro seen x z acc;exact⟨rfl,by simp[walkF]⟩
 |succ m ih=>
  intro seen x z acc
  simp only[walkF]
  split
  · exact⟨rfl,by simp⟩
  · exact ih _ _ z (acc++[x])
theorem walkF_new (f:Nat->Nat) (m:Nat) (seen:List Bool) (x:Nat) (h:un seen x=1):(walkF f (m+1) seen x []).1.getD 0 0=x/\(walkF f (m+1) seen x []).1≠[]:=by
 have h1:¬ seen.getD x true=true:=fun q=>by unfold un at h;rw[if_pos q]at h;omega
 simp only[walkF]
 rw[if_neg h1]
 exact walkF_head f m _ _ x []
theorem un_seen {seen:List Bool} {x:Nat} (h:un seen x=0):seen.getD x true=true:=by
 refine Classical.byContradiction fun q=>?_
 unfold un at h
 rw[if_neg q]at h
 omega
theorem seen_in {f:Nat->Nat} {n a y:Nat} (h1:1<=y) (h2:y<=n):un (walksTo f n a).2 y=0↔∃ l,l∈(walksTo f n a).1/\y∈l:=by
 have h:=walksTo_one f n a y h1 h2
 have hc:1<=(walksTo f n a).1.flatten.count y↔∃ l,l∈(walksTo f n a).1/\y∈l:=by rw[List.one_le_count_iff,List.mem_flatten]
 rw[<-hc]
 omega
theorem zero_apart {f:Nat->Nat} {n:Nat} (hf:∀ a,1<=a->a<=n->1<=f a/\f a<=n) {x:Nat} (hx:1<=x):¬ Con (eds (up0 f) (n+1)) x 0:=fun hc=>by
 have:=hc (fun z=>1<=z) (closed_eds.2 fun i hi=>by
  by_cases h:i=0
  · subst h;exact Iff.rfl
  · rw[up0_pos f (by omega)]
    have:=(hf i (by omega) (by omega)).1
    exact⟨fun _=>this,fun _=>by omega⟩) hx
 exact absurd this (by decide)
theorem seen_closed {f:Nat->Nat} {n:Nat} (hf:∀ a,1<=a->a<=n->1<=f a/\f a<=n) (hi:∀ a b,1<=a->a<=n->1<=b->b<=n->f a=f b->a=b) (a:Nat) (ha:a<=n):Closed (eds (up0 f) (n+1)) fun z=>1<=z/\un (walksTo f n a).2 z=0:=by
 obtain⟨r1,r2,-⟩:=rings_closed hf hi a ha
 refine closed_eds.2 fun i hin=>?_
 by_cases h:i=0
 · subst h;exact Iff.rfl
 · rw[up0_pos f (by omega)]
   have hfi:=hf i (by omega) (by omega)
   constructor
   · rintro⟨h1,h2⟩
     obtain⟨l,hl,hy⟩:=(seen_in h1 (by omega)).1 h2
     exact⟨hfi.1,(seen_in hfi.1 hfi.2).2 ⟨l,hl,r1 l hl i hy⟩⟩
   · rintro⟨-,h2⟩
     exact⟨by omega,r2 i (by omega) (by omega) h2⟩
theorem ring_con {f:Nat->Nat} {n:Nat} {l:List Nat} (hm:∀ y,y∈l->1<=y/\y<=n) (hc:∀ i,i+1<l.length->l.getD (i+1) 0=f (l.getD i 0)):∀ i,i<l.length->Con (eds (up0 f) (n+1)) (l.getD 0 0) (l.getD i 0):=by
 intro i
 induction i with
 |zero=>intro _;exact Con.refl _ _
 |succ i ih=>
  intro hi
  have hb:=hm _ (at_mem (l:=l) (i:=i) (by omega))
  have h1:=con_f (f:=up0 f) (M:=n+1) (x:=l.getD i 0) (by omega)
  rw[up0_pos f hb.1,<-hc i hi]at h1
  exact(ih (by omega)).trans h1
theorem heads_roots {f:Nat->Nat} {n:Nat} (hf:∀ a,1<=a->a<=n->1<=f a/\f a<=n) (hi:∀ a b,1<=a->a<=n->1<=b->b<=n->f a=f b->a=b):∀ a,a<=n->
    (∀ l,l∈(walksTo f n a).1->1<=l.getD 0 0/\l.getD 0 0<=a)/\
    ∀ Q:Nat->Bool,Q 0=false->(walksTo f n a).1.countP (fun l=>Q (l.getD 0 0))=rq (cyW (up0 f) (n+1)) Q (a+1):=by
 have hB:=bij_up0 hf hi
 have hW:=cyW_least hB.lt
 intro a
 induction a with
 |zero=>
  intro _
  refine⟨fun l hl=>absurd hl (by simp[walksTo]),fun Q q0=>?_⟩
  simp[walksTo,rq,q0]
 |succ a ih=>
  intro ha
  obtain⟨i1,i2⟩:=ih (by omega)
  have hcl:=seen_closed hf hi a (by omega)
  have hin:=walksTo_mem hf a (by omega)
  obtain⟨-,-,r3⟩:=rings_closed hf hi a (by omega)
  by_cases hs:un (walksTo f n a).2 (a+1)=0
  · have e:walksTo f n (a+1)=walksTo f n a:=by
      simp only[walksTo]
      rw[walkF_seen (un_seen hs)]
      rfl
    rw[e]
    refine⟨fun l hl=>⟨(i1 l hl).1,by have:=(i1 l hl).2;omega⟩,fun Q q0=>?_⟩
    rw[i2 Q q0]
    have hnr:(cyW (up0 f) (n+1)).getD (a+1) 0≠a+1:=fun q=>by
     obtain⟨l,hl,hy⟩:=(seen_in (by omega) ha).1 hs
     obtain⟨i,hil,ei⟩:=mem_atZ hy
     have hc:=ring_con (f:=f) (n:=n) (hin l hl).2.2 (r3 l hl).1 i hil
     rw[ei]at hc
     have:=(hW.2 (a+1) (by omega)).2 _ hc.symm
     have:=(i1 l hl).2
     omega
    show _=rq (cyW (up0 f) (n+1)) Q (a+1)+(if(cyW (up0 f) (n+1)).getD (a+1) 0=a+1/\Q (a+1)=true then 1 else 0)
    rw[if_neg fun q=>hnr q.1]
    rfl
  · have hs1:un (walksTo f n a).2 (a+1)=1:=by have:=un_le (walksTo f n a).2 (a+1);omega
    obtain⟨hh,hne⟩:=walkF_new f n (walksTo f n a).2 (a+1) hs1
    have e:(walksTo f n (a+1)).1=(walksTo f n a).1++[(walkF f (n+1) (walksTo f n a).2 (a+1) []).1]:=by
     simp only[walksTo]
     rw[if_neg hne]
    rw[e]
    refine⟨fun l hl=>?_,fun Q q0=>?_⟩
    · rcases List.mem_append.1 hl with h|h
      · exact⟨(i1 l h).1,by have:=(i1 l h).2;omega⟩
      · rw[List.mem_singleton.1 h,hh];omega
    · have hr:(cyW (up0 f) (n+1)).getD (a+1) 0=a+1:=by
        refine Classical.byContradiction fun q=>?_
        have hle:=hW.le (v:=a+1) (by omega)
        have hcn:=(hW.2 (a+1) (by omega)).1
        generalize hu:(cyW (up0 f) (n+1)).getD (a+1) 0=u at q hle hcn
        by_cases h0:u=0
        · rw[h0]at hcn
          exact zero_apart hf (by omega) hcn
        · have:=hcn.symm _ hcl ⟨by omega,walksTo_seen f n a u (by omega) (by omega)⟩
          exact hs this.2
      rw[List.countP_append,i2 Q q0]
      show _=rq (cyW (up0 f) (n+1)) Q (a+1)+(if(cyW (up0 f) (n+1)).getD (a+1) 0=a+1/\Q (a+1)=true then 1 else 0)
      rw[List.countP_singleton,hh]
      by_cases hq:Q (a+1)=true
      · rw[if_pos hq,if_pos ⟨hr,hq⟩]
      · rw[if_neg hq,if_neg fun q=>hq q.2]
theorem walks_cyN {f:Nat->Nat} {n:Nat} (hf:∀ a,1<=a->a<=n->1<=f a/\f a<=n) (hi:∀ a b,1<=a->a<=n->1<=b->b<=n->f a=f b->a=b) (Q:Nat->Bool) (q0:Q 0=false):(walksTo f n n).1.countP (fun l=>Q (l.getD 0 0))=cyN (up0 f) (n+1) Q:=(heads_roots hf hi n (Nat.le_refl _)).2 Q q0
end Go.Proofs.Ytagaajlbkfkaiaa
/- Tellings of pieces: plain mathematics; the walk of ref.otherEnd. -/
namespace Go.Proofs.Ytagaajlbkfkaiaa
open Go.RowKit
def nbS (C:List Cr) (k s:Nat):Nat:=enS C ((C.getD k Cr.none).arc s).toNat (!(C.getD k Cr.none).comes s)
theorem nb_may {C:List Cr} {loops:Int} (hm:mayD C loops=true) (k s:Nat) (hk:k<C.length) (hs:s<4):
    (1<=((C.getD k Cr.none).arc s).toNat/\((C.getD k Cr.none).arc s).toNat<=2*C.length/\(C.getD k Cr.none).arc s=(((C.getD k Cr.none).arc s).toNat:Int))/\
    endTo C ((C.getD k Cr.none).arc s).toNat (!(C.getD k Cr.none).comes s) C.length=((nbC C k s:Int),(nbS C k s:Int))/\nbC C k s<C.length/\nbS C k s<4:=by
 have hf:=may_fit hm k s hk hs
 have g1:=hf.1
 have g2:=hf.2.1
 have ha:1<=((C.getD k Cr.none).arc s).toNat/\((C.getD k Cr.none).arc s).toNat<=2*C.length:=by omega
 have h:=en_may hm _ (!(C.getD k Cr.none).comes s) ha.1 ha.2
 exact⟨⟨ha.1,ha.2,by omega⟩,h.1,h.2.1,h.2.2.1⟩
def teS (C:List Cr) (c:Nat) (p:List Nat×List Int) (s:Nat):List Nat×List Int:=
 let o:=if nbC C c s∈p.1 then p.1 else p.1++[nbC C c s]
 (o,p.2++[(o.idxOf (nbC C c s):Int),(nbS C c s:Int)])
def teK (C:List Cr) (i:Nat) (p:List Nat×List Int):Nat->List Nat×List Int
 |0=>(p.1,p.2++[if(C.getD (p.1.getD i 0) Cr.none).plus=true then 1 else 0])
 |k+1=>teS C (p.1.getD i 0) (teK C i p k) k
def teI (C:List Cr) (first:Nat):Nat->List Nat×List Int
 |0=>([first],[])
 |i+1=>if i<(teI C first i).1.length then teK C i (teI C first i) 4 else teI C first i
def te (C:List Cr) (first:Nat):List Nat×List Int:=teI C first C.length
theorem teS_pre (C:List Cr) (c:Nat) (p:List Nat×List Int) (s:Nat):p.1 <+: (teS C c p s).1:=by
 unfold teS
 simp only
 split
 · exact List.prefix_rfl
 · exact List.prefix_append _ _
theorem teK_pre (C:List Cr) (i:Nat) (p:List Nat×List Int) (k:Nat):p.1 <+: (teK C i p k).1:=by
 induction k with
 |zero=>exact List.prefix_rfl
 |succ k ih=>exact ih.trans (teS_pre _ _ _ _)
structure TeOk (C:List Cr) (p:List Nat×List Int):Prop where
 lt:∀ x,x∈p.1->x<C.length
 nd:p.1.Nodup
theorem TeOk.few {C:List Cr} {p:List Nat×List Int} (h:TeOk C p):p.1.length<=C.length:=by
 have:=List.Nodup.length_le_of_subset h.nd (l₂:=List.range C.length) (fun x hx=>List.mem_range.2 (h.lt x hx))
 simpa using this
theorem teS_ok {C:List Cr} {loops:Int} (hm:mayD C loops=true) {c:Nat} (hc:c<C.length) {p:List Nat×List Int} (h:TeOk C p) {s:Nat} (hs:s<4):TeOk C (teS C c p s):=by
 have hn:=(nb_may hm c s hc hs).2.2.1
 unfold teS
 simp only
 split
 · exact⟨h.lt,h.nd⟩
 · rename_i hno
   refine⟨fun x hx=>?_,?_⟩
   · rcases List.mem_append.1 hx with hx|hx
     · exact h.lt x hx
     · simp only[List.mem_singleton]at hx;omega
   · refine List.nodup_append.2 ⟨h.nd,by simp,fun a ha b hb e=>?_⟩
     simp only[List.mem_singleton]at hb
     rw[e,hb]at ha
     exact hno ha
end Go.Proofs.Ytagaajlbkfkaiaa
/- Which of two codes is less; the walk of ref.lessCode. -/
namespace Go.Proofs.Ytagaajlbkfkaiaa
open Go.RowKit
end Go.Proofs.Ytagaajlbkfkaiaa
