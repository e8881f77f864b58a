/- Several texts of the proof, one behind the other. -/
import Derived.Test.YtookanmeflbdlaaGreatDoorCySP
/- Plain mathematics: a sum of two diagrams: its pieces; of a diagram with itself it is planar just if that is. -/
namespace Go.Proofs.YtookanmeflbdlaaGreatDoor
theorem Kh8 {u v z:Nat} (h1:z≠u) (h2:z≠v):swp u v z=z:=by unfold swp;rw[if_neg h1,if_neg h2]
theorem JY4 (u v:Nat):swp u v u=v:=by unfold swp;rw[if_pos rfl]
theorem JY3 (u v:Nat):swp u v v=u:=by
 unfold swp
 by_cases h:v=u
 · rw[if_pos h,h]
 · rw[if_neg h,if_pos rfl]
theorem QF6 {C:List Cr} {a:Nat} (h1:1<=a) (h2:a<=2*C.length):Con (QV5 C) (lvC C (2*a)) (lvC C (2*a-1)):=fun _ hS hu=>(closed_arcs.1 hS a h1 h2).1 hu
set_option linter.unusedSectionVars false
section
variable {C D:List Cr} {l1 l2 l:Int} (hm:QQ6 C l1=true) (hm':QQ6 D l2=true) {x y:Nat} (hx1:1<=x) (hx2:x<=2*C.length) (hy1:1<=y) (hy2:y<=2*D.length) (hT:QQ6 (QX4 C D x y) l=true)
include hm hm' hx1 hx2 hy1 hy2 hT
theorem ZY5 {w:Nat} (h1:1<=w) (h2:w<=4*C.length) (h3:w≠2*x):lvC (QX4 C D x y) w=lvC C w:=by
 have h:=(ZX5 hm hm' hx1 hx2 hy1 hy2 hT (w:=w)).1 h1 h2
 rwa [Kh8 h3 (by omega)]at h
theorem Kj4:lvC (QX4 C D x y) (2*x)=C.length+lvC D (2*y):=by
 have h:=(ZX5 hm hm' hx1 hx2 hy1 hy2 hT (w:=2*y)).2 (by omega) (by omega)
 rwa [JY3]at h
theorem Kj3:lvC (QX4 C D x y) (2*y+4*C.length)=lvC C (2*x):=by
 have h:=(ZX5 hm hm' hx1 hx2 hy1 hy2 hT (w:=2*x)).1 (by omega) (by omega)
 rwa [JY4]at h
theorem ZY4 {w:Nat} (h1:1<=w) (h2:w<=4*D.length) (h3:w≠2*y):lvC (QX4 C D x y) (w+4*C.length)=C.length+lvC D w:=by
 have h:=(ZX5 hm hm' hx1 hx2 hy1 hy2 hT (w:=w)).2 h1 h2
 rwa [Kh8 (by omega) (by omega)]at h
theorem Qb3 {S : Nat → Prop} : Closed (QV5 (QX4 C D x y)) S ↔
    (∀ a,1<=a->a<=2*C.length->a≠x->(S (lvC C (2*a))↔S (lvC C (2*a-1))))/\(S (C.length+lvC D (2*y))↔S (lvC C (2*x-1)))/\
    (∀ a,1<=a->a<=2*D.length->a≠y->(S (C.length+lvC D (2*a))↔S (C.length+lvC D (2*a-1))))/\(S (lvC C (2*x))↔S (C.length+lvC D (2*y-1))):=by
 have hlen:=QV8 C D (x:Int) (y:Int)
 rw[closed_arcs,hlen]
 constructor
 · intro h
   refine⟨fun a h1 h2 h3=>?_,?_,fun a h1 h2 h3=>?_,?_⟩
   · have:=h a h1 (by omega)
     rwa [ZY5 hm hm' hx1 hx2 hy1 hy2 hT (by omega) (by omega) (by omega),ZY5 hm hm' hx1 hx2 hy1 hy2 hT (by omega) (by omega) (by omega)]at this
   · have:=h x hx1 (by omega)
     rwa [Kj4 hm hm' hx1 hx2 hy1 hy2 hT,ZY5 hm hm' hx1 hx2 hy1 hy2 hT (by omega) (by omega) (by omega)]at this
   · have:=h (a+2*C.length) (by omega) (by omega)
     rwa [show 2*(a+2*C.length)=2*a+4*C.length by omega,show 2*a+4*C.length-1=2*a-1+4*C.length by omega,ZY4 hm hm' hx1 hx2 hy1 hy2 hT (by omega) (by omega) (by omega),ZY4 hm hm' hx1 hx2 hy1 hy2 hT (by omega) (by omega) (by omega)]at this
   · have:=h (y+2*C.length) (by omega) (by omega)
     rwa [show 2*(y+2*C.length)=2*y+4*C.length by omega,show 2*y+4*C.length-1=2*y-1+4*C.length by omega,Kj3 hm hm' hx1 hx2 hy1 hy2 hT,ZY4 hm hm' hx1 hx2 hy1 hy2 hT (by omega) (by omega) (by omega)]at this
 · rintro⟨g1,g2,g3,g4⟩ a h1 h2
   by_cases h:a<=2*C.length
   · rw[ZY5 hm hm' hx1 hx2 hy1 hy2 hT (w:=2*a-1) (by omega) (by omega) (by omega)]
     by_cases e:a=x
     · rw[e,Kj4 hm hm' hx1 hx2 hy1 hy2 hT];exact g2
     · rw[ZY5 hm hm' hx1 hx2 hy1 hy2 hT (by omega) (by omega) (by omega)];exact g1 a h1 h e
   · obtain⟨b,rfl⟩:∃ b,a=b+2*C.length:=⟨a - 2*C.length,by omega⟩
     rw[show 2*(b+2*C.length)=2*b+4*C.length by omega,show 2*b+4*C.length-1=2*b-1+4*C.length by omega,ZY4 hm hm' hx1 hx2 hy1 hy2 hT (w:=2*b-1) (by omega) (by omega) (by omega)]
     by_cases e:b=y
     · rw[e,Kj3 hm hm' hx1 hx2 hy1 hy2 hT];exact g4
     · rw[ZY4 hm hm' hx1 hx2 hy1 hy2 hT (by omega) (by omega) (by omega)];exact g3 b (by omega) (by omega) e
theorem Qx2 {S:Nat->Prop} (h:Closed (QV5 (QX4 C D x y)) S):Closed (QV5 C) S/\Closed (QV5 D) (fun z=>S (C.length+z))/\(S (lvC C (2*x))↔S (C.length+lvC D (2*y))):=by
 obtain⟨g1,g2,g3,g4⟩:=(Qb3 hm hm' hx1 hx2 hy1 hy2 hT).1 h
 have k1:S (C.length+lvC D (2*y))->S (C.length+lvC D (2*y-1)):=fun q=>Xk2 hm' hy1 hy2 (S:=fun z=>S (C.length+z)) g3 q
 have k2:S (C.length+lvC D (2*y-1))->S (C.length+lvC D (2*y)):=fun q=>Classical.byContradiction fun r=>Xk2 hm' hy1 hy2 (S:=fun z=>¬ S (C.length+z)) (fun a h1 h2 h3=>not_congr (g3 a h1 h2 h3)) r q
 have kx:S (lvC C (2*x))↔S (lvC C (2*x-1)):=⟨fun q=>g2.1 (k2 (g4.1 q)),fun q=>g4.2 (k1 (g2.2 q))⟩
 refine⟨closed_arcs.2 fun a h1 h2=>?_,closed_arcs.2 fun a h1 h2=>?_,⟨fun q=>g2.2 (kx.1 q),fun q=>g4.2 (k1 q)⟩⟩
 · by_cases e:a=x
   · rw[e];exact kx
   · exact g1 a h1 h2 e
 · by_cases e:a=y
   · rw[e];exact⟨k1,k2⟩
   · exact g3 a h1 h2 e
theorem ZZ1 {u v:Nat} (h:Con (QV5 C) u v):Con (QV5 (QX4 C D x y)) u v:=fun S hS hu=>h S (Qx2 hm hm' hx1 hx2 hy1 hy2 hT hS).1 hu
theorem ZZ0 {u v:Nat} (h:Con (QV5 D) u v):Con (QV5 (QX4 C D x y)) (C.length+u) (C.length+v):=fun S hS hu=>h (fun z=>S (C.length+z)) (Qx2 hm hm' hx1 hx2 hy1 hy2 hT hS).2.1 hu
theorem Xd4:Con (QV5 (QX4 C D x y)) (lvC C (2*x)) (C.length+lvC D (2*y)):=fun _ hS hu=>(Qx2 hm hm' hx1 hx2 hy1 hy2 hT hS).2.2.1 hu
theorem XK1 {u:Nat} (hu:u<C.length) {z:Nat} (h:Con (QV5 (QX4 C D x y)) u z):(z<C.length/\Con (QV5 C) u z)∨(C.length<=z/\Con (QV5 C) u (lvC C (2*x))/\Con (QV5 D) (z-C.length) (lvC D (2*y))):=by
 have lc:∀ w,1<=w->w<=4*C.length->lvC C w<C.length:=fun w a b=>Qu6 hm a b
 have cx:=QF6 (C:=C) hx1 hx2
 have cy:=QF6 (C:=D) hy1 hy2
 refine h (fun z=>(z<C.length/\Con (QV5 C) u z)∨(C.length<=z/\Con (QV5 C) u (lvC C (2*x))/\Con (QV5 D) (z-C.length) (lvC D (2*y)))) ((Qb3 hm hm' hx1 hx2 hy1 hy2 hT).2 ⟨fun a h1 h2 h3=>?_,?_,fun a h1 h2 h3=>?_,?_⟩) (Or.inl ⟨hu,Con.refl _ _⟩)
 · have c:=QF6 (C:=C) h1 h2
   have i1:=lc (2*a) (by omega) (by omega)
   have i2:=lc (2*a-1) (by omega) (by omega)
   constructor
   · rintro(q|q)
     · exact Or.inl ⟨i2,q.2.trans c⟩
     · exact absurd q.1 (by omega)
   · rintro(q|q)
     · exact Or.inl ⟨i1,q.2.trans c.symm⟩
     · exact absurd q.1 (by omega)
 · have i2:=lc (2*x-1) (by omega) (by omega)
   constructor
   · rintro(q|q)
     · exact absurd q.1 (by omega)
     · exact Or.inl ⟨i2,q.2.1.trans cx⟩
   · rintro(q|q)
     · exact Or.inr ⟨by omega,q.2.trans cx.symm,by rw[show C.length+lvC D (2*y)-C.length=lvC D (2*y) by omega];exact Con.refl _ _⟩
     · exact absurd q.1 (by omega)
 · have c:=QF6 (C:=D) h1 h2
   rw[show C.length+lvC D (2*a)-C.length=lvC D (2*a) by omega,show C.length+lvC D (2*a-1)-C.length=lvC D (2*a-1) by omega]
   constructor
   · rintro(q|q)
     · exact absurd q.1 (by omega)
     · exact Or.inr ⟨by omega,q.2.1,c.symm.trans q.2.2⟩
   · rintro(q|q)
     · exact absurd q.1 (by omega)
     · exact Or.inr ⟨by omega,q.2.1,c.trans q.2.2⟩
 · have i1:=lc (2*x) (by omega) (by omega)
   rw[show C.length+lvC D (2*y-1)-C.length=lvC D (2*y-1) by omega]
   constructor
   · rintro(q|q)
     · exact Or.inr ⟨by omega,q.2,cy.symm⟩
     · exact absurd q.1 (by omega)
   · rintro(q|q)
     · exact absurd q.1 (by omega)
     · exact Or.inl ⟨i1,q.2.1⟩
theorem Qb1 {u:Nat} {z:Nat} (h:Con (QV5 (QX4 C D x y)) (C.length+u) z):(z<C.length/\Con (QV5 D) u (lvC D (2*y))/\Con (QV5 C) z (lvC C (2*x)))∨(C.length<=z/\Con (QV5 D) u (z-C.length)):=by
 have lc:∀ w,1<=w->w<=4*C.length->lvC C w<C.length:=fun w a b=>Qu6 hm a b
 have cx:=QF6 (C:=C) hx1 hx2
 have cy:=QF6 (C:=D) hy1 hy2
 refine h (fun z=>(z<C.length/\Con (QV5 D) u (lvC D (2*y))/\Con (QV5 C) z (lvC C (2*x)))∨(C.length<=z/\Con (QV5 D) u (z-C.length))) ((Qb3 hm hm' hx1 hx2 hy1 hy2 hT).2 ⟨fun a h1 h2 h3=>?_,?_,fun a h1 h2 h3=>?_,?_⟩) (Or.inr ⟨by omega,by rw[show C.length+u-C.length=u by omega];exact Con.refl _ _⟩)
 · have c:=QF6 (C:=C) h1 h2
   have i1:=lc (2*a) (by omega) (by omega)
   have i2:=lc (2*a-1) (by omega) (by omega)
   constructor
   · rintro(q|q)
     · exact Or.inl ⟨i2,q.2.1,c.symm.trans q.2.2⟩
     · exact absurd q.1 (by omega)
   · rintro(q|q)
     · exact Or.inl ⟨i1,q.2.1,c.trans q.2.2⟩
     · exact absurd q.1 (by omega)
 · have i2:=lc (2*x-1) (by omega) (by omega)
   rw[show C.length+lvC D (2*y)-C.length=lvC D (2*y) by omega]
   constructor
   · rintro(q|q)
     · exact absurd q.1 (by omega)
     · exact Or.inl ⟨i2,q.2,cx.symm⟩
   · rintro(q|q)
     · exact Or.inr ⟨by omega,q.2.1⟩
     · exact absurd q.1 (by omega)
 · have c:=QF6 (C:=D) h1 h2
   rw[show C.length+lvC D (2*a)-C.length=lvC D (2*a) by omega,show C.length+lvC D (2*a-1)-C.length=lvC D (2*a-1) by omega]
   constructor
   · rintro(q|q)
     · exact absurd q.1 (by omega)
     · exact Or.inr ⟨by omega,q.2.trans c⟩
   · rintro(q|q)
     · exact absurd q.1 (by omega)
     · exact Or.inr ⟨by omega,q.2.trans c.symm⟩
 · have i1:=lc (2*x) (by omega) (by omega)
   rw[show C.length+lvC D (2*y-1)-C.length=lvC D (2*y-1) by omega]
   constructor
   · rintro(q|q)
     · exact Or.inr ⟨by omega,q.2.1.trans cy⟩
     · exact absurd q.1 (by omega)
   · rintro(q|q)
     · exact absurd q.1 (by omega)
     · exact Or.inl ⟨i1,q.2.trans cy.symm,Con.refl _ _⟩
end
end Go.Proofs.YtookanmeflbdlaaGreatDoor
/- Plain mathematics: a sum of a diagram with itself is planar just if that is. -/
namespace Go.Proofs.YtookanmeflbdlaaGreatDoor
theorem ZJ1 {W:List Nat} {Q Q':Nat->Bool}:∀ k,(∀ v,v<k->Q v=Q' v)->rq W Q k=rq W Q' k:=by
 intro k
 induction k with
 |zero=>intro _;rfl
 |succ k ih=>intro e;simp only[rq];rw[ih fun v hv=>e v (by omega),e k (by omega)]
theorem Ku2 {W:List Nat} {Q:Nat->Bool}:∀ k,(∀ v,v<k->Q v=false)->rq W Q k=0:=by
 intro k
 induction k with
 |zero=>intro _;rfl
 |succ k ih=>intro e;simp only[rq];rw[ih fun v hv=>e v (by omega),e k (by omega)];simp
def fz (C:List Cr) (A:Nat->Bool):Nat:=cyN (up0 (fd C)) (4*C.length+1) fun j=>decide (1<=j)&&A (lvC C j)
theorem Zv2 {C:List Cr} {loops:Int} (hm:QQ6 C loops=true) {A:Nat->Bool} (e:∀ v,v<C.length->A v=false):fz C A=0:=by
 refine Ku2 _ fun v hv=>?_
 by_cases h:1<=v
 · rw[e _ (Qu6 hm h (by omega)),Bool.and_false]
 · rw[decide_eq_false h];rfl
def QC6 (C:List Cr) (v:Nat):Prop:=fz C (qC C ((QW6 C).getD v 0))=(List.range C.length).countP (qC C ((QW6 C).getD v 0))+2
theorem Kj5 {C:List Cr} {loops:Int} (hm:QQ6 C loops=true) (p:Nat):exN C.length (QX9 C) (QW6 C) p=(fz C (qC C p):Int)-((List.range C.length).countP (qC C p):Int):=by
 have e:fz C (qC C p)=cyN (up0 (fd C)) (4*C.length+1) (qD C p):=rfl
 rw[e,<-XJ6 hm p]
 rfl
theorem Qk8 {C:List Cr} {loops:Int} (hm:QQ6 C loops=true):QX6 C=true↔∀ v,v<C.length->QC6 C v:=by
 have hW:=QK3 hm
 rw[QD0]
 constructor
 · intro h v hv
   have:=h _ (hW.lt hv) (hW.root hv)
   rw[Kj5 hm]at this
   unfold QC6
   omega
 · intro h p hp hr
   have:=h p hp
   unfold QC6 at this
   rw[hr]at this
   rw[Kj5 hm]
   omega
theorem Kd2 {C:List Cr} {loops:Int} (hm:QQ6 C loops=true) {v:Nat} (hv:v<C.length):fz C (qC C ((QW6 C).getD v 0))<=(List.range C.length).countP (qC C ((QW6 C).getD v 0))+2/\(fz C (qC C ((QW6 C).getD v 0))+(List.range C.length).countP (qC C ((QW6 C).getD v 0)))%2=0:=by
 have hW:=QK3 hm
 have h:=XJ8 hm (hW.lt hv) (hW.root hv)
 rw[Kj5 hm]at h
 omega
theorem QY7 {C:List Cr} {loops:Int} (hm:QQ6 C loops=true) {u v:Nat} (hu:u<C.length) (hv:v<C.length):qC C ((QW6 C).getD v 0) u=true↔Con (QV5 C) u v:=by
 unfold qC
 rw[decide_eq_true_eq]
 exact(QK3 hm).same hu hv
set_option linter.unusedSectionVars false
section
variable {C D:List Cr} {l1 l2 l:Int} (hm:QQ6 C l1=true) (hm':QQ6 D l2=true) {x y:Nat} (hx1:1<=x) (hx2:x<=2*C.length) (hy1:1<=y) (hy2:y<=2*D.length) (hT:QQ6 (QX4 C D x y) l=true)
include hm hm' hx1 hx2 hy1 hy2 hT
theorem Zx3 {Z A B : Nat → Bool} (hZ : ∀ u v, u < C.length + D.length → v < C.length + D.length → Con (QV5 (QX4 C D x y)) u v → Z u = Z v) (hA : ∀ u, u < C.length → Z u = A u) (hB : ∀ u, u < D.length → Z (C.length + u) = B u) :
    (A (lvC C (2*x))=true->fz (QX4 C D x y) Z+2=fz C A+fz D B∨fz (QX4 C D x y) Z=fz C A+fz D B)/\(A (lvC C (2*x))=false->fz (QX4 C D x y) Z=fz C A+fz D B)/\
    (List.range (QX4 C D x y).length).countP Z=(List.range C.length).countP A+(List.range D.length).countP B:=by
 have hlen:=QV8 C D (x:Int) (y:Int)
 have lC:∀ w,1<=w->w<=4*C.length->lvC C w<C.length:=fun w a b=>Qu6 hm a b
 have lD:∀ w,1<=w->w<=4*D.length->lvC D w<D.length:=fun w a b=>Qu6 hm' a b
 have xy:=Xd4 hm hm' hx1 hx2 hy1 hy2 hT
 have zx:Z (lvC C (2*x))=Z (C.length+lvC D (2*y)):=hZ _ _ (by have:=lC (2*x) (by omega) (by omega);omega) (by have:=lD (2*y) (by omega) (by omega);omega) xy
 have zl:∀ w,1<=w->w<=4*C.length->Z (lvC (QX4 C D x y) w)=A (lvC C w):=fun w a b=>by
  by_cases e:w=2*x
  · rw[e,Kj4 hm hm' hx1 hx2 hy1 hy2 hT,<-zx,hA _ (lC _ (by omega) (by omega))]
  · rw[ZY5 hm hm' hx1 hx2 hy1 hy2 hT a b e,hA _ (lC w a b)]
 have zr:∀ w,1<=w->w<=4*D.length->Z (lvC (QX4 C D x y) (w+4*C.length))=B (lvC D w):=fun w a b=>by
  by_cases e:w=2*y
  · rw[e,Kj3 hm hm' hx1 hx2 hy1 hy2 hT,zx,hB _ (lD _ (by omega) (by omega))]
  · rw[ZY4 hm hm' hx1 hx2 hy1 hy2 hT a b e,hB _ (lD w a b)]
 have aC:∀ u v,u<C.length->v<C.length->Con (QV5 C) u v->A u=A v:=fun u v hu hv hc=>by
  rw[<-hA u hu,<-hA v hv]
  exact hZ u v (by omega) (by omega) (ZZ1 hm hm' hx1 hx2 hy1 hy2 hT hc)
 have bD:∀ u v,u<D.length->v<D.length->Con (QV5 D) u v->B u=B v:=fun u v hu hv hc=>by
  rw[<-hB u hu,<-hB v hv]
  exact hZ _ _ (by omega) (by omega) (ZZ0 hm hm' hx1 hx2 hy1 hy2 hT hc)
 have hxx:A (lvC C (2*x-1))=A (lvC C (2*x)):=aC _ _ (lC _ (by omega) (by omega)) (lC _ (by omega) (by omega)) (QF6 hx1 hx2).symm
 have hyy:B (lvC D (2*y-1))=B (lvC D (2*y)):=bD _ _ (lD _ (by omega) (by omega)) (lD _ (by omega) (by omega)) (QF6 hy1 hy2).symm
 have hab:A (lvC C (2*x))=B (lvC D (2*y)):=by rw[<-hA _ (lC _ (by omega) (by omega)),zx,hB _ (lD _ (by omega) (by omega))]
 have q1:∀ w,1<=w->w<=4*C.length->(fun j=>decide (1<=j)&&Z (lvC (QX4 C D x y) j)) w=A (lvC C w):=fun w a b=>by
  show(decide (1<=w)&&Z (lvC (QX4 C D x y) w))=_
  rw[decide_eq_true a,Bool.true_and,zl w a b]
 have q2:∀ w,1<=w->w<=4*D.length->(fun j=>decide (1<=j)&&Z (lvC (QX4 C D x y) j)) (w+4*C.length)=B (lvC D w):=fun w a b=>by
  show(decide (1<=w+4*C.length)&&Z (lvC (QX4 C D x y) (w+4*C.length)))=_
  rw[decide_eq_true (by omega),Bool.true_and,zr w a b]
 have q0:(fun j=>decide (1<=j)&&Z (lvC (QX4 C D x y) j)) 0=false:=rfl
 have hfz:fz (QX4 C D x y) Z=cyN (up0 (fd (QX4 C D x y))) (4*(C.length+D.length)+1) (fun j=>decide (1<=j)&&Z (lvC (QX4 C D x y) j)):=by
  unfold fz
  rw[hlen]
 generalize (fun j=>decide (1<=j)&&Z (lvC (QX4 C D x y) j))=Q at q1 q2 q0 hfz
 have hboth:cyN (up0 (fB C D)) (4*(C.length+D.length)+1) Q=fz C A+fz D B:=by
  rw[KF8 hm hm' Q]
  congr 1
  · refine ZJ1 _ fun v hv=>?_
    by_cases h:1<=v
    · rw[q1 v h (by omega),decide_eq_true h,Bool.true_and]
    · rw[show v=0 by omega,q0];rfl
  · refine ZJ1 _ fun v hv=>?_
    by_cases h:1<=v
    · rw[q2 v h (by omega)]
    · rw[decide_eq_false h];rfl
 have hQ:∀ z,1<=z->z<=4*(C.length+D.length)->Q z=Q (fB C D z):=fun z h1 h2=>by
  unfold fB
  by_cases h:z<=4*C.length
  · rw[if_pos h]
    have hf:=QZ9 hm z h1 h
    rw[q1 z h1 h,q1 _ hf.1 hf.2,KK7 hm h1 h]
    exact aC _ _ (lC z h1 h) (XW0 hm z h1 h).2.1 (KK8 h1 h)
  · rw[if_neg h]
    obtain⟨w,rfl⟩:∃ w,z=w+4*C.length:=⟨z - 4*C.length,by omega⟩
    rw[show w+4*C.length-4*C.length=w by omega]
    have hf:=QZ9 hm' w (by omega) (by omega)
    rw[q2 w (by omega) (by omega),q2 _ hf.1 hf.2,KK7 hm' (by omega) (by omega)]
    exact bD _ _ (lD w (by omega) (by omega)) (XW0 hm' w (by omega) (by omega)).2.1 (KK8 (by omega) (by omega))
 have k:=Kd8 hm hm' hx1 hx2 hy1 hy2 hT Q hQ (by rw[q1 _ (by omega) (by omega),q2 _ (by omega) (by omega),hxx,hyy,hab]) (by rw[q1 _ (by omega) (by omega),q2 _ (by omega) (by omega),hab]) (by rw[q1 _ (by omega) (by omega),q1 _ (by omega) (by omega),hxx])
 rw[q1 _ (by omega) (by omega),hboth,<-hfz]at k
 refine⟨k.1,k.2,?_⟩
 rw[hlen,Zv9]
 congr 1
 · exact List.countP_congr fun v hv=>by rw[hA v (List.mem_range.1 hv)]
 · exact List.countP_congr fun v hv=>by rw[hB v (List.mem_range.1 hv)]
end
end Go.Proofs.YtookanmeflbdlaaGreatDoor
/- Plain mathematics: a sum of a diagram with itself is planar just if that is: the end. -/
namespace Go.Proofs.YtookanmeflbdlaaGreatDoor
theorem Qh1 {a b:Bool} (h:a=true↔b=true):a=b:=by cases a<;>cases b<;>simp_all
set_option linter.unusedSectionVars false
section
variable {C D:List Cr} {l1 l2 l:Int} (hm:QQ6 C l1=true) (hm':QQ6 D l2=true) {x y:Nat} (hx1:1<=x) (hx2:x<=2*C.length) (hy1:1<=y) (hy2:y<=2*D.length) (hT:QQ6 (QX4 C D x y) l=true)
include hm hm' hx1 hx2 hy1 hy2 hT
theorem Zq5 (v:Nat):∀ u w,u<C.length+D.length->w<C.length+D.length->Con (QV5 (QX4 C D x y)) u w->qC (QX4 C D x y) ((QW6 (QX4 C D x y)).getD v 0) u=qC (QX4 C D x y) ((QW6 (QX4 C D x y)).getD v 0) w:=fun u w hu hw hc=>by
 have hlen:=QV8 C D (x:Int) (y:Int)
 unfold qC
 rw[((QK3 hT).same (by omega) (by omega)).2 hc]
theorem JV0 {v:Nat} (hv:v<C.length) (hn:¬ Con (QV5 C) v (lvC C (2*x))):QC6 (QX4 C D x y) v↔QC6 C v:=by
 have hlen:=QV8 C D (x:Int) (y:Int)
 have lx:lvC C (2*x)<C.length:=Qu6 hm (by omega) (by omega)
 obtain⟨-,k2,k3⟩:=Zx3 hm hm' hx1 hx2 hy1 hy2 hT (Z:=qC (QX4 C D x y) ((QW6 (QX4 C D x y)).getD v 0)) (A:=qC C ((QW6 C).getD v 0)) (B:=fun _=>false) (Zq5 hm hm' hx1 hx2 hy1 hy2 hT v)
  (fun u hu => Qh1 (by
   rw[QY7 hT (by omega) (by omega),QY7 hm hu hv]
   exact ⟨fun q => by
    rcases XK1 hm hm' hx1 hx2 hy1 hy2 hT hu q with r|r
    · exact r.2
    · exact absurd r.1 (by omega),fun q=>ZZ1 hm hm' hx1 hx2 hy1 hy2 hT q⟩))
  (fun u hu => by
   refine Bool.eq_false_iff.2 fun q=>?_
   rcases Qb1 hm hm' hx1 hx2 hy1 hy2 hT ((QY7 hT (by omega) (by omega)).1 q) with r|r
   · exact hn r.2.2
   · exact absurd r.1 (by omega))
 have h1:=k2 (Bool.eq_false_iff.2 fun q=>hn ((QY7 hm lx hv).1 q).symm)
 rw[Zv2 hm' (A:=fun _=>false) fun _ _=>rfl]at h1
 have h0:(List.range D.length).countP (fun _=>false)=0:=List.countP_eq_zero.2 fun _ _=>by simp
 unfold QC6
 omega
theorem JJ9 {j:Nat} (hj:j<D.length) (hn:¬ Con (QV5 D) j (lvC D (2*y))):QC6 (QX4 C D x y) (C.length+j)↔QC6 D j:=by
 have hlen:=QV8 C D (x:Int) (y:Int)
 obtain⟨-,k2,k3⟩:=Zx3 hm hm' hx1 hx2 hy1 hy2 hT (Z:=qC (QX4 C D x y) ((QW6 (QX4 C D x y)).getD (C.length+j) 0)) (A:=fun _=>false) (B:=qC D ((QW6 D).getD j 0)) (Zq5 hm hm' hx1 hx2 hy1 hy2 hT _)
  (fun u hu => by
   refine Bool.eq_false_iff.2 fun q=>?_
   rcases XK1 hm hm' hx1 hx2 hy1 hy2 hT hu ((QY7 hT (by omega) (by omega)).1 q) with r|r
   · exact absurd r.1 (by omega)
   · rw[show C.length+j-C.length=j by omega]at r
     exact hn r.2.2)
  (fun u hu => Qh1 (by
   rw[QY7 hT (by omega) (by omega),QY7 hm' hu hj]
   exact ⟨fun q => by
    rcases Qb1 hm hm' hx1 hx2 hy1 hy2 hT q with r|r
    · exact absurd r.1 (by omega)
    · rw[show C.length+j-C.length=j by omega]at r
      exact r.2,fun q=>ZZ0 hm hm' hx1 hx2 hy1 hy2 hT q⟩))
 have h1:=k2 rfl
 rw[Zv2 hm (A:=fun _=>false) fun _ _=>rfl]at h1
 have h0:(List.range C.length).countP (fun _=>false)=0:=List.countP_eq_zero.2 fun _ _=>by simp
 unfold QC6
 omega
theorem JV1 {v : Nat} (hv : v < C.length + D.length) (hc : Con (QV5 (QX4 C D x y)) v (lvC C (2 * x))) :
    (fz (QX4 C D x y) (qC (QX4 C D x y) ((QW6 (QX4 C D x y)).getD v 0))+2=fz C (qC C ((QW6 C).getD (lvC C (2*x)) 0))+fz D (qC D ((QW6 D).getD (lvC D (2*y)) 0))∨fz (QX4 C D x y) (qC (QX4 C D x y) ((QW6 (QX4 C D x y)).getD v 0))=fz C (qC C ((QW6 C).getD (lvC C (2*x)) 0))+fz D (qC D ((QW6 D).getD (lvC D (2*y)) 0)))/\
    (List.range (QX4 C D x y).length).countP (qC (QX4 C D x y) ((QW6 (QX4 C D x y)).getD v 0))=(List.range C.length).countP (qC C ((QW6 C).getD (lvC C (2*x)) 0))+(List.range D.length).countP (qC D ((QW6 D).getD (lvC D (2*y)) 0)):=by
 have hlen:=QV8 C D (x:Int) (y:Int)
 have lx:lvC C (2*x)<C.length:=Qu6 hm (by omega) (by omega)
 have ly:lvC D (2*y)<D.length:=Qu6 hm' (by omega) (by omega)
 have xy:=Xd4 hm hm' hx1 hx2 hy1 hy2 hT
 obtain⟨k1,-,k3⟩:=Zx3 hm hm' hx1 hx2 hy1 hy2 hT (Z:=qC (QX4 C D x y) ((QW6 (QX4 C D x y)).getD v 0)) (A:=qC C ((QW6 C).getD (lvC C (2*x)) 0)) (B:=qC D ((QW6 D).getD (lvC D (2*y)) 0)) (Zq5 hm hm' hx1 hx2 hy1 hy2 hT v)
  (fun u hu => Qh1 (by
   rw[QY7 hT (by omega) (by omega),QY7 hm hu lx]
   exact ⟨fun q => by
    rcases XK1 hm hm' hx1 hx2 hy1 hy2 hT hu (q.trans hc) with r|r
    · exact r.2
    · exact absurd r.1 (by omega),fun q=>(ZZ1 hm hm' hx1 hx2 hy1 hy2 hT q).trans hc.symm⟩))
  (fun u hu => Qh1 (by
   rw[QY7 hT (by omega) (by omega),QY7 hm' hu ly]
   exact ⟨fun q => by
    rcases Qb1 hm hm' hx1 hx2 hy1 hy2 hT (q.trans hc) with r|r
    · exact r.2.1
    · exact absurd r.1 (by omega),fun q=>(ZZ0 hm hm' hx1 hx2 hy1 hy2 hT q).trans (xy.symm.trans hc.symm)⟩))
 exact⟨k1 ((QY7 hm lx lx).2 (Con.refl _ _)),k3⟩
end
end Go.Proofs.YtookanmeflbdlaaGreatDoor
/- The sum of two planar diagrams is planar. -/
namespace Go.Proofs.YtookanmeflbdlaaGreatDoor
section
variable {C D:List Cr} {l1 l2 l:Int} (hm:QQ6 C l1=true) (hm':QQ6 D l2=true) {x y:Nat} (hx1:1<=x) (hx2:x<=2*C.length) (hy1:1<=y) (hy2:y<=2*D.length) (hT:QQ6 (QX4 C D x y) l=true)
include hm hm' hx1 hx2 hy1 hy2 hT
theorem Zy0 (hp:QX6 C=true) (hp':QX6 D=true):QX6 (QX4 C D x y)=true:=by
 have hlen:=QV8 C D (x:Int) (y:Int)
 have lx:lvC C (2*x)<C.length:=Qu6 hm (by omega) (by omega)
 have ly:lvC D (2*y)<D.length:=Qu6 hm' (by omega) (by omega)
 have xy:=Xd4 hm hm' hx1 hx2 hy1 hy2 hT
 have h:=(Qk8 hm).1 hp
 have h':=(Qk8 hm').1 hp'
 rw[Qk8 hT]
 intro v hv
 have joined:Con (QV5 (QX4 C D x y)) v (lvC C (2*x))->QC6 (QX4 C D x y) v:=fun hc=>by
  obtain⟨j1,j2⟩:=JV1 hm hm' hx1 hx2 hy1 hy2 hT (v:=v) (by omega) hc
  have h1:=h _ lx
  have h2:=h' _ ly
  have hp:=(Kd2 hT hv).1
  unfold QC6 at h1 h2 ⊢
  omega
 by_cases hvl:v<C.length
 · by_cases c1:Con (QV5 C) v (lvC C (2*x))
   · exact joined (ZZ1 hm hm' hx1 hx2 hy1 hy2 hT c1)
   · exact(JV0 hm hm' hx1 hx2 hy1 hy2 hT hvl c1).2 (h v hvl)
 · obtain⟨j,rfl⟩:∃ j,v=C.length+j:=⟨v - C.length,by omega⟩
   by_cases c1:Con (QV5 D) j (lvC D (2*y))
   · exact joined ((ZZ0 hm hm' hx1 hx2 hy1 hy2 hT c1).trans xy.symm)
   · exact(JJ9 hm hm' hx1 hx2 hy1 hy2 hT (by omega) c1).2 (h' j (by omega))
end
end Go.Proofs.YtookanmeflbdlaaGreatDoor
