/- Several texts of the proof, one behind the other. -/
import Derived.Test.YtgagenmkpmmpfaaC9P
import Derived.Test.YtgagenmkpmmpfaaF1P
import Derived.Test.YtgagenmkpmmpfaaO0P
import Derived.Lib.Hide
import Derived.Deep.RegionLaw
import Derived.Deep.Cut
/- What a code tells: mathematics. Pieces of the same code have, numbered as they are told, the same crossings. -/
namespace Go.Proofs.Ytgagenmkpmmpfaa
theorem enS_one {C:List Cr} {loops:Int} (hm:mayD C loops=true) (k s:Nat) (hk:k<C.length) (hs:s<4):enS C ((C.getD k Cr.none).arc s).toNat ((C.getD k Cr.none).comes s)=s:=by
 have hf:=may_fit hm k s hk hs
 have g1:=hf.1
 have g2:=hf.2.1
 have e:=end_one hm ((C.getD k Cr.none).arc s).toNat (by omega) (by omega) ((C.getD k Cr.none).comes s) k s hk hs (by omega) rfl
 unfold enS
 rw[e]
 rfl
theorem spot_eq {C:List Cr} {loops:Int} (hm:mayD C loops=true) {c s d t:Nat} (hc:c<C.length) (hs:s<4) (hd:d<C.length) (ht:t<4) (h:arcN (C.getD c Cr.none) s=arcN (C.getD d Cr.none) t):(c=d/\s=t)∨(nbC C c s=d/\nbS C c s=t):=by
 unfold arcN at h
 have a1:=(en_one hm c s hc hs).2.2
 have a2:=enS_one hm c s hc hs
 have b1:=(en_one hm d t hd ht).2.2
 have b2:=enS_one hm d t hd ht
 by_cases e:(C.getD c Cr.none).comes s=(C.getD d Cr.none).comes t
 · left
   rw[h,e]at a1 a2
   exact⟨a1.symm.trans b1,a2.symm.trans b2⟩
 · right
   have e2:(!(C.getD c Cr.none).comes s)=(C.getD d Cr.none).comes t:=by
    cases h1:(C.getD c Cr.none).comes s<;>cases h2:(C.getD d Cr.none).comes t<;>simp_all
   unfold nbC nbS
   rw[h,e2]
   exact⟨b1,b2⟩
theorem spot_nb {C:List Cr} {loops:Int} (hm:mayD C loops=true) {c s:Nat} (hc:c<C.length) (hs:s<4):arcN (C.getD (nbC C c s) Cr.none) (nbS C c s)=arcN (C.getD c Cr.none) s:=by
 have h:=en_one hm c s hc hs
 have g:=(en_may hm _ (!(C.getD c Cr.none).comes s) h.1 h.2.1).2.2.2.1
 unfold arcN nbC nbS
 rw[g]
 rfl
end Go.Proofs.Ytgagenmkpmmpfaa
/- Both ways of making the canonical form come to one: mathematics. -/
namespace Go.Proofs.Ytgagenmkpmmpfaa
theorem idxOf_map {ρ:Nat->Nat} {A:Nat->Prop} (hinj:∀ x y,A x->A y->ρ x=ρ y->x=y):∀ (F:List Nat) (x:Nat),(∀ y,y∈F->A y)->A x->(F.map ρ).idxOf (ρ x)=F.idxOf x
 |[],_,_,_=>rfl
 |z::F,x,hF,hx=>by
  rw[List.map_cons,List.idxOf_cons,List.idxOf_cons,idxOf_map hinj F x (fun y hy=>hF y (List.mem_cons_of_mem _ hy)) hx]
  by_cases e:z=x
  · subst e;simp
  · have e2:ρ z≠ρ x:=fun h=>e (hinj z x (hF z (List.mem_cons_self)) hx h)
    rw[beq_eq_false_iff_ne.2 e,beq_eq_false_iff_ne.2 e2]
theorem mem_map_inj {ρ:Nat->Nat} {A:Nat->Prop} (hinj:∀ x y,A x->A y->ρ x=ρ y->x=y) {F:List Nat} {x:Nat} (hF:∀ y,y∈F->A y) (hx:A x):ρ x∈F.map ρ↔x∈F:=by
 constructor
 · intro h
   obtain⟨y,hy,e⟩:=List.mem_map.1 h
   rw[<-hinj y x (hF y hy) hx e];exact hy
 · intro h;exact List.mem_map_of_mem h
theorem addF_map {ρ:Nat->Nat} {A:Nat->Prop} (hinj:∀ x y,A x->A y->ρ x=ρ y->x=y) {F:List Nat} {x:Nat} (hF:∀ y,y∈F->A y) (hx:A x):addF (F.map ρ) (ρ x)=(addF F x).map ρ:=by
 unfold addF
 by_cases h:x∈F
 · rw[if_pos h,if_pos ((mem_map_inj hinj hF hx).2 h)]
 · rw[if_neg h,if_neg (fun e=>h ((mem_map_inj hinj hF hx).1 e))];simp
theorem addF_mem {A:Nat->Prop} {F:List Nat} {x:Nat} (hF:∀ y,y∈F->A y) (hx:A x):∀ y,y∈addF F x->A y:=by
 intro y hy
 unfold addF at hy
 split at hy
 · exact hF y hy
 · rcases List.mem_append.1 hy with h|h
   · exact hF y h
   · rw[List.mem_singleton.1 h];exact hx
theorem addN_map {ρ:Nat->Nat} {A:Nat->Prop} (hinj:∀ x y,A x->A y->ρ x=ρ y->x=y) {F:List Nat} {x y:Cr} (hF:∀ z,z∈F->A z) (h:∀ s,s<4->A (arcN x s)/\arcN y s=ρ (arcN x s)):∀ k,k<=4->addN (F.map ρ) y k=(addN F x k).map ρ/\∀ z,z∈addN F x k->A z:=by
 intro k
 induction k with
 |zero=>intro _;exact⟨rfl,hF⟩
 |succ k ih=>
  intro hk
  obtain⟨h1,h2⟩:=ih (by omega)
  obtain⟨g1,g2⟩:=h k (by omega)
  rw[addN,addN,h1,g2]
  exact⟨addF_map hinj h2 g1,addF_mem h2 g1⟩
theorem canX_map {ρ:Nat->Nat} {A:Nat->Prop} (hinj:∀ x y,A x->A y->ρ x=ρ y->x=y) {F:List Nat} {x y:Cr} (hF:∀ z,z∈F->A z) (h:∀ s,s<4->A (arcN x s)/\arcN y s=ρ (arcN x s)) (hp:y.plus=x.plus):canX (F.map ρ) y=canX F x:=by
 have hn:∀ k,k<4->canN (F.map ρ) y k=canN F x k:=fun k hk=>by
  obtain⟨h1,h2⟩:=addN_map hinj hF h (k+1) (by omega)
  obtain⟨g1,g2⟩:=h k hk
  unfold canN
  rw[h1,g2,idxOf_map hinj _ _ h2 g1]
 unfold canX
 rw[hn 0 (by omega),hn 1 (by omega),hn 2 (by omega),hn 3 (by omega),hp]
end Go.Proofs.Ytgagenmkpmmpfaa
/- Diagrams that are one but for the numbers of arcs and the order of crossings have one form: mathematics. -/
namespace Go.Proofs.Ytgagenmkpmmpfaa
structure Iso (C D:List Cr) (f g r:Nat->Nat):Prop where
 len:D.length=C.length
 flt:∀ k,k<C.length->f k<C.length
 glt:∀ k,k<C.length->g k<C.length
 gf:∀ k,k<C.length->g (f k)=k
 fg:∀ k,k<C.length->f (g k)=k
 plus:∀ k,k<C.length->(D.getD (f k) Cr.none).plus=(C.getD k Cr.none).plus
 arc:∀ k s,k<C.length->s<4->arcN (D.getD (f k) Cr.none) s=r (arcN (C.getD k Cr.none) s)
 rinj:∀ x y,(1<=x/\x<=2*C.length)->(1<=y/\y<=2*C.length)->r x=r y->x=y
theorem Iso.inj {C D:List Cr} {f g r:Nat->Nat} (I:Iso C D f g r):∀ x y,x<C.length->y<C.length->f x=f y->x=y:=fun x y hx hy e=>by
 have:=I.gf x hx
 rw[e,I.gf y hy]at this
 exact this.symm
theorem nb_comes {C:List Cr} {loops:Int} (hm:mayD C loops=true) (k s:Nat) (hk:k<C.length) (hs:s<4):(C.getD (nbC C k s) Cr.none).comes (nbS C k s)=!(C.getD k Cr.none).comes s:=by
 obtain⟨⟨h1,h2,-⟩,-,-,-⟩:=nb_may hm k s hk hs
 exact(en_may hm _ (!(C.getD k Cr.none).comes s) h1 h2).2.2.2.2
theorem Iso.nb {C D:List Cr} {f g r:Nat->Nat} {l1 l2:Int} (I:Iso C D f g r) (hm:mayD C l1=true) (hd:mayD D l2=true) (k s:Nat) (hk:k<C.length) (hs:s<4):nbC D (f k) s=f (nbC C k s)/\nbS D (f k) s=nbS C k s:=by
 obtain⟨-,-,h1,h2⟩:=nb_may hm k s hk hs
 have e:arcN (D.getD (f k) Cr.none) s=arcN (D.getD (f (nbC C k s)) Cr.none) (nbS C k s):=by
  rw[I.arc k s hk hs,I.arc _ _ h1 h2,spot_nb hm hk hs]
 rcases spot_eq hd (by rw[I.len];exact I.flt k hk) hs (by rw[I.len];exact I.flt _ h1) h2 e with⟨a,b⟩|h
 · have a':=I.inj k _ hk h1 a
   have:=nb_comes hm k s hk hs
   rw[<-a',<-b]at this
   cases hc:(C.getD k Cr.none).comes s<;>rw[hc]at this<;>cases this
 · exact h
theorem Iso.con {C D:List Cr} {f g r:Nat->Nat} {l1 l2:Int} (I:Iso C D f g r) (hm:mayD C l1=true) (hd:mayD D l2=true) (u v:Nat) (hu:u<C.length) (hv:v<C.length):Con (arcE C) u v↔Con (arcE D) (f u) (f v):=by
 constructor
 · intro h S hS hfu
   refine h (fun x=>S (f x)) ?_ hfu
   intro e he
   unfold arcE at he
   obtain⟨i,hi,rfl⟩:=List.mem_map.1 he
   have hi':=List.mem_range.1 hi
   obtain⟨-,t1,t2,t3,t4⟩:=en_may hm (i+1) true (by omega) (by omega)
   have en:nbC C (enC C (i+1) true) (enS C (i+1) true)=enC C (i+1) false:=by
    unfold nbC
    rw[t3,t4]
    rfl
   have hc:=nb_con hd (f (enC C (i+1) true)) (enS C (i+1) true) (by rw[I.len];exact I.flt _ t1) t2
   rw[(I.nb hm hd _ _ t1 t2).1,en]at hc
   exact⟨fun h=>hc S hS h,fun h=>hc.symm S hS h⟩
 · intro h S hS hSu
   have:=h (fun y=>∃ x,x<C.length/\f x=y/\S x) ?_ ⟨u,hu,rfl,hSu⟩
   · obtain⟨x,hx,e,hSx⟩:=this
     rw[<-I.inj x v hx hv e]
     exact hSx
   · intro e he
     unfold arcE at he
     obtain⟨i,hi,rfl⟩:=List.mem_map.1 he
     have hi':=List.mem_range.1 hi
     obtain⟨-,t1,t2,t3,t4⟩:=en_may hd (i+1) true (by omega) (by omega)
     have en:nbC D (enC D (i+1) true) (enS D (i+1) true)=enC D (i+1) false:=by
      unfold nbC
      rw[t3,t4]
      rfl
     simp only
     rw[I.len]at t1
     have hx:=I.glt _ t1
     have ex:=I.fg _ t1
     have hn:=(I.nb hm hd (g (enC D (i+1) true)) _ hx t2).1
     rw[ex,en]at hn
     have hc:=nb_con hm _ _ hx t2
     have hl:=nb_lt hm _ _ hx t2
     constructor
     · rintro⟨x,h1,h2,h3⟩
       have e2:x=g (enC D (i+1) true):=I.inj _ _ h1 hx (by rw[ex,h2])
       rw[e2]at h3
       exact⟨_,hl,hn.symm,hc S hS h3⟩
     · rintro⟨x,h1,h2,h3⟩
       have e2:=I.inj _ _ h1 hl (by rw[h2,hn])
       rw[e2]at h3
       exact⟨_,hx,ex,hc.symm S hS h3⟩
theorem Iso.teS {C D:List Cr} {f g r:Nat->Nat} {l1 l2:Int} (I:Iso C D f g r) (hm:mayD C l1=true) (hd:mayD D l2=true) {c s:Nat} (hc:c<C.length) (hs:s<4) {p:List Nat×List Int} (h:TeOk C p):teS D (f c) (p.1.map f,p.2) s=((Proofs.Ytgagenmkpmmpfaa.teS C c p s).1.map f,(Proofs.Ytgagenmkpmmpfaa.teS C c p s).2):=by
 have hx:=nb_lt hm c s hc hs
 unfold Proofs.Ytgagenmkpmmpfaa.teS
 rw[(I.nb hm hd c s hc hs).1,(I.nb hm hd c s hc hs).2]
 have hmem:=mem_map_inj (A:=(·<C.length)) I.inj h.lt hx
 by_cases hn:nbC C c s∈p.1
 · simp only[hn,hmem.2 hn,if_true]
   rw[idxOf_map (A:=(·<C.length)) I.inj _ _ h.lt hx]
 · have hn':¬f (nbC C c s)∈p.1.map f:=fun e=>hn (hmem.1 e)
   simp only[hn,hn',if_false]
   have e:p.1.map f++[f (nbC C c s)]=(p.1++[nbC C c s]).map f:=by simp
   rw[e,idxOf_map (A:=(·<C.length)) I.inj _ _ (fun y hy=>?_) hx]
   rcases List.mem_append.1 hy with hy|hy
   · exact h.lt y hy
   · rw[List.mem_singleton.1 hy];exact hx
theorem Iso.teK {C D:List Cr} {f g r:Nat->Nat} {l1 l2:Int} (I:Iso C D f g r) (hm:mayD C l1=true) (hd:mayD D l2=true) {i:Nat} {p:List Nat×List Int} (hi:i<p.1.length) (h:TeOk C p):∀ k,k<=4->teK D i (p.1.map f,p.2) k=((Proofs.Ytgagenmkpmmpfaa.teK C i p k).1.map f,(Proofs.Ytgagenmkpmmpfaa.teK C i p k).2):=by
 have hg:(p.1.map f).getD i 0=f (p.1.getD i 0):=by simp[List.getD,hi]
 have hc:p.1.getD i 0<C.length:=h.lt _ (by rw[List.getD_eq_getElem?_getD,List.getElem?_eq_getElem hi];exact List.getElem_mem hi)
 intro k
 induction k with
 |zero=>
  intro _
  unfold Proofs.Ytgagenmkpmmpfaa.teK
  simp only
  rw[hg,I.plus _ hc]
 |succ k ih=>
  intro hk
  rw[Proofs.Ytgagenmkpmmpfaa.teK,Proofs.Ytgagenmkpmmpfaa.teK,ih (by omega)]
  simp only
  rw[hg,I.teS hm hd hc (by omega) (teK_ok hm hi h (by omega))]
theorem Iso.te {C D:List Cr} {f g r:Nat->Nat} {l1 l2:Int} (I:Iso C D f g r) (hm:mayD C l1=true) (hd:mayD D l2=true) {a:Nat} (ha:a<C.length):te D (f a)=((Proofs.Ytgagenmkpmmpfaa.te C a).1.map f,(Proofs.Ytgagenmkpmmpfaa.te C a).2):=by
 have:∀ i,teI D (f a) i=((teI C a i).1.map f,(teI C a i).2):=by
  intro i
  induction i with
  |zero=>rfl
  |succ i ih=>
   rw[teI,teI,ih]
   by_cases hi:i<(teI C a i).1.length
   · simp only[List.length_map,hi,if_true]
     exact I.teK hm hd hi (teI_ok hm ha i) 4 (Nat.le_refl _)
   · simp only[List.length_map,hi,if_false]
 unfold Proofs.Ytgagenmkpmmpfaa.te
 rw[I.len]
 exact this _
theorem Iso.key {C D:List Cr} {f g r:Nat->Nat} {l1 l2:Int} (I:Iso C D f g r) (hm:mayD C l1=true) (hd:mayD D l2=true) {a:Nat} (ha:a<C.length):keyT (Proofs.Ytgagenmkpmmpfaa.te D (f a))=keyT (Proofs.Ytgagenmkpmmpfaa.te C a):=by
 rw[I.te hm hd ha]
 simp[keyT]
end Go.Proofs.Ytgagenmkpmmpfaa
/- Diagrams that are one but for the numbers of arcs and the order of crossings have one form: mathematics. -/
namespace Go.Proofs.Ytgagenmkpmmpfaa
theorem Iso.go {C D:List Cr} {f g r:Nat->Nat} {l1:Int} (I:Iso C D f g r) (hm:mayD C l1=true):∀ (o F:List Nat),(∀ z,z∈F->1<=z/\z<=2*C.length)->(∀ k,k∈o->k<C.length)->canGo D (F.map r) (o.map f)=canGo C F o
 |[],_,_,_=>rfl
 |c::o,F,hF,ho=>by
  have hc:=ho c List.mem_cons_self
  have g1:∀ s,s<4->(1<=arcN (C.getD c Cr.none) s/\arcN (C.getD c Cr.none) s<=2*C.length)/\arcN (D.getD (f c) Cr.none) s=r (arcN (C.getD c Cr.none) s):=fun s hs=>by
   obtain⟨⟨a1,a2,-⟩,-,-,-⟩:=nb_may hm c s hc hs
   exact⟨⟨a1,a2⟩,I.arc c s hc hs⟩
  obtain⟨h1,h2⟩:=addN_map (A:=fun z=>1<=z/\z<=2*C.length) I.rinj hF g1 4 (Nat.le_refl _)
  rw[List.map_cons,canGo,canGo,canX_map (A:=fun z=>1<=z/\z<=2*C.length) I.rinj hF g1 (I.plus c hc),h1,I.go hm o _ h2 (fun k hk=>ho k (List.mem_cons_of_mem _ hk))]
end Go.Proofs.Ytgagenmkpmmpfaa
/- A diagram's form may be, and it is its own form: mathematics. -/
namespace Go.Proofs.Ytgagenmkpmmpfaa
theorem sd_zero {x:Cr} {a:Int} {p:Bool}:∀ k,(∀ t,t<k->¬(x.arc t=a/\x.comes t=p))->sd x a p k=0
 |0,_=>rfl
 |k+1,h=>by rw[sd,sd_zero k (fun t ht=>h t (by omega)),if_neg (h k (by omega))]
theorem sdTo_zero {C:List Cr} {a:Int} {p:Bool}:∀ i,(∀ j t,j<i->t<4->¬((C.getD j Cr.none).arc t=a/\(C.getD j Cr.none).comes t=p))->sdTo C a p i=0
 |0,_=>rfl
 |i+1,h=>by rw[sdTo,sdTo_zero i (fun j t hj ht=>h j t (by omega) ht),sd_zero 4 (fun t ht=>h i t (by omega) ht)]
theorem comes_plus {x y:Cr} (h:x.plus=y.plus) (s:Nat):x.comes s=y.comes s:=by unfold Cr.comes;rw[h]
theorem Iso.may {C D:List Cr} {f g r:Nat->Nat} {l1:Int} (I:Iso C D f g r) (hm:mayD C l1=true) (hr:∀ k s,k<C.length->s<4->1<=(D.getD k Cr.none).arc s/\(D.getD k Cr.none).arc s<=2*(C.length:Int)):mayD D l1=true:=by
 have hs:sizeB D l1=true:=by
  have:=may_size hm
  unfold sizeB at this ⊢
  rw[I.len]
  exact this
 have one:∀ i k j t,i<C.length->k<4->j<C.length->t<4->(D.getD j Cr.none).arc t=(D.getD i Cr.none).arc k->(D.getD j Cr.none).comes t=(D.getD i Cr.none).comes k->j=i/\t=k:=by
  intro i k j t hi hk hj ht ha hc
  have gi:=I.glt i hi
  have gj:=I.glt j hj
  have ei:=I.fg i hi
  have ej:=I.fg j hj
  have e:r (arcN (C.getD (g j) Cr.none) t)=r (arcN (C.getD (g i) Cr.none) k):=by
   rw[<-I.arc _ _ gj ht,<-I.arc _ _ gi hk,ei,ej]
   unfold arcN
   rw[ha]
  obtain⟨⟨a1,a2,-⟩,-,-,-⟩:=nb_may hm _ t gj ht
  obtain⟨⟨b1,b2,-⟩,-,-,-⟩:=nb_may hm _ k gi hk
  have e2:=I.rinj _ _ ⟨a1,a2⟩ ⟨b1,b2⟩ e
  rcases spot_eq hm gj ht gi hk e2 with⟨x,y⟩|⟨x,y⟩
  · refine⟨?_,y⟩
    rw[<-ei,<-ej,x]
  · exfalso
    have h:=nb_comes hm _ t gj ht
    rw[x,y]at h
    have p1:=comes_plus (I.plus _ gj) t
    have p2:=comes_plus (I.plus _ gi) k
    rw[ej]at p1
    rw[ei]at p2
    rw[<-p1,<-p2,hc]at h
    cases hb:(D.getD i Cr.none).comes k<;>rw[hb]at h<;>cases h
 refine fit_yes hs fun i k hi hk=>?_
 rw[I.len]at hi
 obtain⟨h1,h2⟩:=hr i k hi hk
 refine⟨h1,by rw[I.len];exact h2,?_⟩
 unfold ahd
 rw[sdTo_zero i (fun j t hj ht h=>by have:=(one i k j t hi hk (by omega) ht h.1 h.2).1;omega),sd_zero k (fun t ht h=>by have:=(one i k i t hi hk hi (by omega) h.1 h.2).2;omega)]
end Go.Proofs.Ytgagenmkpmmpfaa
