/- Several texts of the proof, one behind the other. -/
import Derived.Test.YtbobljddklldjaaGreatDoorCySP
import Derived.Test.YtbobljddklldjaaGreatDoorW1P
import Derived.Test.YtbobljddklldjaaGreatDoorBaseP
import Derived.Test.YtbobljddklldjaaGreatDoorSgP
import Derived.Test.YtbobljddklldjaaGreatDoorF7P
/- Plain mathematics: a sum of a diagram with itself is planar just if that is. -/
namespace Go.Proofs.YtbobljddklldjaaGreatDoor
theorem rq_congr {W:List Nat} {Q Q':Nat->Bool}:∀ k,(∀ v,v<k->Q v=Q' v)->rq W Q k=rq W Q' k:=by
 intro k
 induction k with
 |zero=>intro _;rfl
 |succ k ih=>intro e;simp only[rq];rw[ih fun v hv=>e v (by omega),e k (by omega)]
theorem rq_none {W:List Nat} {Q:Nat->Bool}:∀ k,(∀ v,v<k->Q v=false)->rq W Q k=0:=by
 intro k
 induction k with
 |zero=>intro _;rfl
 |succ k ih=>intro e;simp only[rq];rw[ih fun v hv=>e v (by omega),e k (by omega)];simp
def fz (C:List Cr) (A:Nat->Bool):Nat:=cyN (up0 (fd C)) (4*C.length+1) fun j=>decide (1<=j)&&A (lvC C j)
theorem fz_none {C:List Cr} {loops:Int} (hm:mayD C loops=true) {A:Nat->Bool} (e:∀ v,v<C.length->A v=false):fz C A=0:=by
 refine rq_none _ fun v hv=>?_
 by_cases h:1<=v
 · rw[e _ (lv_lt hm h (by omega)),Bool.and_false]
 · rw[decide_eq_false h];rfl
def flatAt (C:List Cr) (v:Nat):Prop:=fz C (qC C ((whoM C).getD v 0))=(List.range C.length).countP (qC C ((whoM C).getD v 0))+2
theorem ex_fz {C:List Cr} {loops:Int} (hm:mayD C loops=true) (p:Nat):exN C.length (headsM C) (whoM C) p=(fz C (qC C p):Int)-((List.range C.length).countP (qC C p):Int):=by
 have e:fz C (qC C p)=cyN (up0 (fd C)) (4*C.length+1) (qD C p):=rfl
 rw[e,<-faces_count hm p]
 rfl
theorem planar_flat {C:List Cr} {loops:Int} (hm:mayD C loops=true):planarB C=true↔∀ v,v<C.length->flatAt C v:=by
 have hW:=whoM_least hm
 rw[planarB_iff]
 constructor
 · intro h v hv
   have:=h _ (hW.lt hv) (hW.root hv)
   rw[ex_fz hm]at this
   unfold flatAt
   omega
 · intro h p hp hr
   have:=h p hp
   unfold flatAt at this
   rw[hr]at this
   rw[ex_fz hm]
   omega
theorem flat_le {C:List Cr} {loops:Int} (hm:mayD C loops=true) {v:Nat} (hv:v<C.length):fz C (qC C ((whoM C).getD v 0))<=(List.range C.length).countP (qC C ((whoM C).getD v 0))+2/\(fz C (qC C ((whoM C).getD v 0))+(List.range C.length).countP (qC C ((whoM C).getD v 0)))%2=0:=by
 have hW:=whoM_least hm
 have h:=euler_piece hm (hW.lt hv) (hW.root hv)
 rw[ex_fz hm]at h
 omega
theorem who_con {C:List Cr} {loops:Int} (hm:mayD C loops=true) {u v:Nat} (hu:u<C.length) (hv:v<C.length):qC C ((whoM C).getD v 0) u=true↔Con (arcE C) u v:=by
 unfold qC
 rw[decide_eq_true_eq]
 exact(whoM_least hm).same hu hv
set_option linter.unusedSectionVars false
section
variable {C D:List Cr} {l1 l2 l:Int} (hm:mayD C l1=true) (hm':mayD D l2=true) {x y:Nat} (hx1:1<=x) (hx2:x<=2*C.length) (hy1:1<=y) (hy2:y<=2*D.length) (hT:mayD (tieC C D x y) l=true)
include hm hm' hx1 hx2 hy1 hy2 hT
theorem fz_tie {Z A B : Nat → Bool} (hZ : ∀ u v, u < C.length + D.length → v < C.length + D.length → Con (arcE (tieC C D x y)) u v → Z u = Z v) (hA : ∀ u, u < C.length → Z u = A u) (hB : ∀ u, u < D.length → Z (C.length + u) = B u) :
    (A (lvC C (2*x))=true->fz (tieC C D x y) Z+2=fz C A+fz D B∨fz (tieC C D x y) Z=fz C A+fz D B)/\(A (lvC C (2*x))=false->fz (tieC C D x y) Z=fz C A+fz D B)/\
    (List.range (tieC C D x y).length).countP Z=(List.range C.length).countP A+(List.range D.length).countP B:=by
 have hlen:=tie_len C D (x:Int) (y:Int)
 have lC:∀ w,1<=w->w<=4*C.length->lvC C w<C.length:=fun w a b=>lv_lt hm a b
 have lD:∀ w,1<=w->w<=4*D.length->lvC D w<D.length:=fun w a b=>lv_lt hm' a b
 have xy:=conT_xy hm hm' hx1 hx2 hy1 hy2 hT
 have zx:Z (lvC C (2*x))=Z (C.length+lvC D (2*y)):=hZ _ _ (by have:=lC (2*x) (by omega) (by omega);omega) (by have:=lD (2*y) (by omega) (by omega);omega) xy
 have zl:∀ w,1<=w->w<=4*C.length->Z (lvC (tieC C D x y) w)=A (lvC C w):=fun w a b=>by
  by_cases e:w=2*x
  · rw[e,lvT_x hm hm' hx1 hx2 hy1 hy2 hT,<-zx,hA _ (lC _ (by omega) (by omega))]
  · rw[lvT_l hm hm' hx1 hx2 hy1 hy2 hT a b e,hA _ (lC w a b)]
 have zr:∀ w,1<=w->w<=4*D.length->Z (lvC (tieC C D x y) (w+4*C.length))=B (lvC D w):=fun w a b=>by
  by_cases e:w=2*y
  · rw[e,lvT_y hm hm' hx1 hx2 hy1 hy2 hT,zx,hB _ (lD _ (by omega) (by omega))]
  · rw[lvT_r hm hm' hx1 hx2 hy1 hy2 hT a b e,hB _ (lD w a b)]
 have aC:∀ u v,u<C.length->v<C.length->Con (arcE C) u v->A u=A v:=fun u v hu hv hc=>by
  rw[<-hA u hu,<-hA v hv]
  exact hZ u v (by omega) (by omega) (conT_C hm hm' hx1 hx2 hy1 hy2 hT hc)
 have bD:∀ u v,u<D.length->v<D.length->Con (arcE D) u v->B u=B v:=fun u v hu hv hc=>by
  rw[<-hB u hu,<-hB v hv]
  exact hZ _ _ (by omega) (by omega) (conT_D hm hm' hx1 hx2 hy1 hy2 hT hc)
 have hxx:A (lvC C (2*x-1))=A (lvC C (2*x)):=aC _ _ (lC _ (by omega) (by omega)) (lC _ (by omega) (by omega)) (arc_con hx1 hx2).symm
 have hyy:B (lvC D (2*y-1))=B (lvC D (2*y)):=bD _ _ (lD _ (by omega) (by omega)) (lD _ (by omega) (by omega)) (arc_con hy1 hy2).symm
 have hab:A (lvC C (2*x))=B (lvC D (2*y)):=by rw[<-hA _ (lC _ (by omega) (by omega)),zx,hB _ (lD _ (by omega) (by omega))]
 have q1:∀ w,1<=w->w<=4*C.length->(fun j=>decide (1<=j)&&Z (lvC (tieC C D x y) j)) w=A (lvC C w):=fun w a b=>by
  show(decide (1<=w)&&Z (lvC (tieC C D x y) w))=_
  rw[decide_eq_true a,Bool.true_and,zl w a b]
 have q2:∀ w,1<=w->w<=4*D.length->(fun j=>decide (1<=j)&&Z (lvC (tieC C D x y) j)) (w+4*C.length)=B (lvC D w):=fun w a b=>by
  show(decide (1<=w+4*C.length)&&Z (lvC (tieC C D x y) (w+4*C.length)))=_
  rw[decide_eq_true (by omega),Bool.true_and,zr w a b]
 have q0:(fun j=>decide (1<=j)&&Z (lvC (tieC C D x y) j)) 0=false:=rfl
 have hfz:fz (tieC C D x y) Z=cyN (up0 (fd (tieC C D x y))) (4*(C.length+D.length)+1) (fun j=>decide (1<=j)&&Z (lvC (tieC C D x y) j)):=by
  unfold fz
  rw[hlen]
 generalize (fun j=>decide (1<=j)&&Z (lvC (tieC C D x y) j))=Q at q1 q2 q0 hfz
 have hboth:cyN (up0 (fB C D)) (4*(C.length+D.length)+1) Q=fz C A+fz D B:=by
  rw[cyN_both hm hm' Q]
  congr 1
  · refine rq_congr _ fun v hv=>?_
    by_cases h:1<=v
    · rw[q1 v h (by omega),decide_eq_true h,Bool.true_and]
    · rw[show v=0 by omega,q0];rfl
  · refine rq_congr _ fun v hv=>?_
    by_cases h:1<=v
    · rw[q2 v h (by omega)]
    · rw[decide_eq_false h];rfl
 have hQ:∀ z,1<=z->z<=4*(C.length+D.length)->Q z=Q (fB C D z):=fun z h1 h2=>by
  unfold fB
  by_cases h:z<=4*C.length
  · rw[if_pos h]
    have hf:=fd_closed hm z h1 h
    rw[q1 z h1 h,q1 _ hf.1 hf.2,lv_fd hm h1 h]
    exact aC _ _ (lC z h1 h) (d_may hm z h1 h).2.1 (lv_dC h1 h)
  · rw[if_neg h]
    obtain⟨w,rfl⟩:∃ w,z=w+4*C.length:=⟨z - 4*C.length,by omega⟩
    rw[show w+4*C.length-4*C.length=w by omega]
    have hf:=fd_closed hm' w (by omega) (by omega)
    rw[q2 w (by omega) (by omega),q2 _ hf.1 hf.2,lv_fd hm' (by omega) (by omega)]
    exact bD _ _ (lD w (by omega) (by omega)) (d_may hm' w (by omega) (by omega)).2.1 (lv_dC (by omega) (by omega))
 have k:=cyN_tie hm hm' hx1 hx2 hy1 hy2 hT Q hQ (by rw[q1 _ (by omega) (by omega),q2 _ (by omega) (by omega),hxx,hyy,hab]) (by rw[q1 _ (by omega) (by omega),q2 _ (by omega) (by omega),hab]) (by rw[q1 _ (by omega) (by omega),q1 _ (by omega) (by omega),hxx])
 rw[q1 _ (by omega) (by omega),hboth,<-hfz]at k
 refine⟨k.1,k.2,?_⟩
 rw[hlen,cnt_add]
 congr 1
 · exact List.countP_congr fun v hv=>by rw[hA v (List.mem_range.1 hv)]
 · exact List.countP_congr fun v hv=>by rw[hB v (List.mem_range.1 hv)]
end
end Go.Proofs.YtbobljddklldjaaGreatDoor
/- Plain mathematics: a sum of a diagram with itself is planar just if that is: the end. -/
namespace Go.Proofs.YtbobljddklldjaaGreatDoor
theorem bool_iff {a b:Bool} (h:a=true↔b=true):a=b:=by cases a<;>cases b<;>simp_all
set_option linter.unusedSectionVars false
section
variable {C D:List Cr} {l1 l2 l:Int} (hm:mayD C l1=true) (hm':mayD D l2=true) {x y:Nat} (hx1:1<=x) (hx2:x<=2*C.length) (hy1:1<=y) (hy2:y<=2*D.length) (hT:mayD (tieC C D x y) l=true)
include hm hm' hx1 hx2 hy1 hy2 hT
theorem qT_con (v:Nat):∀ u w,u<C.length+D.length->w<C.length+D.length->Con (arcE (tieC C D x y)) u w->qC (tieC C D x y) ((whoM (tieC C D x y)).getD v 0) u=qC (tieC C D x y) ((whoM (tieC C D x y)).getD v 0) w:=fun u w hu hw hc=>by
 have hlen:=tie_len C D (x:Int) (y:Int)
 unfold qC
 rw[((whoM_least hT).same (by omega) (by omega)).2 hc]
theorem flat_l {v:Nat} (hv:v<C.length) (hn:¬ Con (arcE C) v (lvC C (2*x))):flatAt (tieC C D x y) v↔flatAt C v:=by
 have hlen:=tie_len C D (x:Int) (y:Int)
 have lx:lvC C (2*x)<C.length:=lv_lt hm (by omega) (by omega)
 obtain⟨-,k2,k3⟩:=fz_tie hm hm' hx1 hx2 hy1 hy2 hT (Z:=qC (tieC C D x y) ((whoM (tieC C D x y)).getD v 0)) (A:=qC C ((whoM C).getD v 0)) (B:=fun _=>false) (qT_con hm hm' hx1 hx2 hy1 hy2 hT v)
  (fun u hu => bool_iff (by
   rw[who_con hT (by omega) (by omega),who_con hm hu hv]
   exact ⟨fun q => by
    rcases conT_left hm hm' hx1 hx2 hy1 hy2 hT hu q with r|r
    · exact r.2
    · exact absurd r.1 (by omega),fun q=>conT_C hm hm' hx1 hx2 hy1 hy2 hT q⟩))
  (fun u hu => by
   refine Bool.eq_false_iff.2 fun q=>?_
   rcases conT_right hm hm' hx1 hx2 hy1 hy2 hT ((who_con hT (by omega) (by omega)).1 q) with r|r
   · exact hn r.2.2
   · exact absurd r.1 (by omega))
 have h1:=k2 (Bool.eq_false_iff.2 fun q=>hn ((who_con hm lx hv).1 q).symm)
 rw[fz_none hm' (A:=fun _=>false) fun _ _=>rfl]at h1
 have h0:(List.range D.length).countP (fun _=>false)=0:=List.countP_eq_zero.2 fun _ _=>by simp
 unfold flatAt
 omega
theorem flat_r {j:Nat} (hj:j<D.length) (hn:¬ Con (arcE D) j (lvC D (2*y))):flatAt (tieC C D x y) (C.length+j)↔flatAt D j:=by
 have hlen:=tie_len C D (x:Int) (y:Int)
 obtain⟨-,k2,k3⟩:=fz_tie hm hm' hx1 hx2 hy1 hy2 hT (Z:=qC (tieC C D x y) ((whoM (tieC C D x y)).getD (C.length+j) 0)) (A:=fun _=>false) (B:=qC D ((whoM D).getD j 0)) (qT_con hm hm' hx1 hx2 hy1 hy2 hT _)
  (fun u hu => by
   refine Bool.eq_false_iff.2 fun q=>?_
   rcases conT_left hm hm' hx1 hx2 hy1 hy2 hT hu ((who_con hT (by omega) (by omega)).1 q) with r|r
   · exact absurd r.1 (by omega)
   · rw[show C.length+j-C.length=j by omega]at r
     exact hn r.2.2)
  (fun u hu => bool_iff (by
   rw[who_con hT (by omega) (by omega),who_con hm' hu hj]
   exact ⟨fun q => by
    rcases conT_right hm hm' hx1 hx2 hy1 hy2 hT q with r|r
    · exact absurd r.1 (by omega)
    · rw[show C.length+j-C.length=j by omega]at r
      exact r.2,fun q=>conT_D hm hm' hx1 hx2 hy1 hy2 hT q⟩))
 have h1:=k2 rfl
 rw[fz_none hm (A:=fun _=>false) fun _ _=>rfl]at h1
 have h0:(List.range C.length).countP (fun _=>false)=0:=List.countP_eq_zero.2 fun _ _=>by simp
 unfold flatAt
 omega
theorem flat_j {v : Nat} (hv : v < C.length + D.length) (hc : Con (arcE (tieC C D x y)) v (lvC C (2 * x))) :
    (fz (tieC C D x y) (qC (tieC C D x y) ((whoM (tieC C D x y)).getD v 0))+2=fz C (qC C ((whoM C).getD (lvC C (2*x)) 0))+fz D (qC D ((whoM D).getD (lvC D (2*y)) 0))∨fz (tieC C D x y) (qC (tieC C D x y) ((whoM (tieC C D x y)).getD v 0))=fz C (qC C ((whoM C).getD (lvC C (2*x)) 0))+fz D (qC D ((whoM D).getD (lvC D (2*y)) 0)))/\
    (List.range (tieC C D x y).length).countP (qC (tieC C D x y) ((whoM (tieC C D x y)).getD v 0))=(List.range C.length).countP (qC C ((whoM C).getD (lvC C (2*x)) 0))+(List.range D.length).countP (qC D ((whoM D).getD (lvC D (2*y)) 0)):=by
 have hlen:=tie_len C D (x:Int) (y:Int)
 have lx:lvC C (2*x)<C.length:=lv_lt hm (by omega) (by omega)
 have ly:lvC D (2*y)<D.length:=lv_lt hm' (by omega) (by omega)
 have xy:=conT_xy hm hm' hx1 hx2 hy1 hy2 hT
 obtain⟨k1,-,k3⟩:=fz_tie hm hm' hx1 hx2 hy1 hy2 hT (Z:=qC (tieC C D x y) ((whoM (tieC C D x y)).getD v 0)) (A:=qC C ((whoM C).getD (lvC C (2*x)) 0)) (B:=qC D ((whoM D).getD (lvC D (2*y)) 0)) (qT_con hm hm' hx1 hx2 hy1 hy2 hT v)
  (fun u hu => bool_iff (by
   rw[who_con hT (by omega) (by omega),who_con hm hu lx]
   exact ⟨fun q => by
    rcases conT_left hm hm' hx1 hx2 hy1 hy2 hT hu (q.trans hc) with r|r
    · exact r.2
    · exact absurd r.1 (by omega),fun q=>(conT_C hm hm' hx1 hx2 hy1 hy2 hT q).trans hc.symm⟩))
  (fun u hu => bool_iff (by
   rw[who_con hT (by omega) (by omega),who_con hm' hu ly]
   exact ⟨fun q => by
    rcases conT_right hm hm' hx1 hx2 hy1 hy2 hT (q.trans hc) with r|r
    · exact r.2.1
    · exact absurd r.1 (by omega),fun q=>(conT_D hm hm' hx1 hx2 hy1 hy2 hT q).trans (xy.symm.trans hc.symm)⟩))
 exact⟨k1 ((who_con hm lx lx).2 (Con.refl _ _)),k3⟩
end
end Go.Proofs.YtbobljddklldjaaGreatDoor
/- The genus and the writhe of a sum; that it is planar and of one piece. -/
namespace Go.Proofs.YtbobljddklldjaaGreatDoor
section
variable {C D:List Cr} {x y:Nat}
theorem wr_tie_l:∀ k,k<=C.length->wrM (tieC C D x y) k=wrM C k
 |0,_=>rfl
 |k+1,hk=>by
  unfold wrM
  rw[wr_tie_l k (by omega),tie_l C D x y (by omega)]
  rfl
theorem wr_tie_r:∀ k,k<=D.length->wrM (tieC C D x y) (C.length+k)=wrM C C.length+wrM D k
 |0,_=>by rw[Nat.add_zero,wr_tie_l C.length (Nat.le_refl _)];simp[wrM]
 |k+1,hk=>by
  have e:wrM (tieC C D x y) (C.length+k+1)=wrM (tieC C D x y) (C.length+k)+sgn ((tieC C D x y).getD (C.length+k) Cr.none).plus:=rfl
  rw[<-Nat.add_assoc,e,wr_tie_r k (by omega),tie_r C D x y (by omega)]
  have e2:wrM D (k+1)=wrM D k+sgn (D.getD k Cr.none).plus:=rfl
  rw[e2,Int.add_assoc]
  rfl
theorem wr_tie:wrM (tieC C D x y) (tieC C D x y).length=wrM C C.length+wrM D D.length:=by
 rw[tie_len,wr_tie_r D.length (Nat.le_refl _)]
end
end Go.Proofs.YtbobljddklldjaaGreatDoor
/- The sum of two planar diagrams is planar. -/
namespace Go.Proofs.YtbobljddklldjaaGreatDoor
section
variable {C D:List Cr} {l1 l2 l:Int} (hm:mayD C l1=true) (hm':mayD D l2=true) {x y:Nat} (hx1:1<=x) (hx2:x<=2*C.length) (hy1:1<=y) (hy2:y<=2*D.length) (hT:mayD (tieC C D x y) l=true)
include hm hm' hx1 hx2 hy1 hy2 hT
theorem tie_plane (hp:planarB C=true) (hp':planarB D=true):planarB (tieC C D x y)=true:=by
 have hlen:=tie_len C D (x:Int) (y:Int)
 have lx:lvC C (2*x)<C.length:=lv_lt hm (by omega) (by omega)
 have ly:lvC D (2*y)<D.length:=lv_lt hm' (by omega) (by omega)
 have xy:=conT_xy hm hm' hx1 hx2 hy1 hy2 hT
 have h:=(planar_flat hm).1 hp
 have h':=(planar_flat hm').1 hp'
 rw[planar_flat hT]
 intro v hv
 have joined:Con (arcE (tieC C D x y)) v (lvC C (2*x))->flatAt (tieC C D x y) v:=fun hc=>by
  obtain⟨j1,j2⟩:=flat_j hm hm' hx1 hx2 hy1 hy2 hT (v:=v) (by omega) hc
  have h1:=h _ lx
  have h2:=h' _ ly
  have hp:=(flat_le hT hv).1
  unfold flatAt at h1 h2 ⊢
  omega
 by_cases hvl:v<C.length
 · by_cases c1:Con (arcE C) v (lvC C (2*x))
   · exact joined (conT_C hm hm' hx1 hx2 hy1 hy2 hT c1)
   · exact(flat_l hm hm' hx1 hx2 hy1 hy2 hT hvl c1).2 (h v hvl)
 · obtain⟨j,rfl⟩:∃ j,v=C.length+j:=⟨v - C.length,by omega⟩
   by_cases c1:Con (arcE D) j (lvC D (2*y))
   · exact joined ((conT_D hm hm' hx1 hx2 hy1 hy2 hT c1).trans xy.symm)
   · exact(flat_r hm hm' hx1 hx2 hy1 hy2 hT (by omega) c1).2 (h' j (by omega))
end
end Go.Proofs.YtbobljddklldjaaGreatDoor
