/- Several texts of the proof, one behind the other. -/
import Derived.Test.YtbobljddklldjaaGreatDoorF2P
import Derived.Test.YtbobljddklldjaaGreatDoorC9P
import Derived.Test.YtbobljddklldjaaGreatDoorAL1P
import Derived.Test.YtbobljddklldjaaGreatDoorY3P
/- Plain mathematics: a sum of two diagrams: it may be, and its darts. -/
namespace Go.Proofs.YtbobljddklldjaaGreatDoor
theorem may_inj {D : List Cr} {l : Int} (hs : sizeB D l = true) (hr : ∀ k s, k < D.length → s < 4 → 1 ≤ (D.getD k Cr.none).arc s ∧ (D.getD k Cr.none).arc s ≤ 2 * (D.length : Int))
    (one:∀ i k j t,i<D.length->k<4->j<D.length->t<4->(D.getD j Cr.none).arc t=(D.getD i Cr.none).arc k->(D.getD j Cr.none).comes t=(D.getD i Cr.none).comes k->j=i/\t=k):mayD D l=true:=by
 refine fit_yes hs fun i k hi hk=>?_
 obtain⟨h1,h2⟩:=hr i k hi hk
 refine⟨h1,h2,?_⟩
 unfold ahd
 rw[sdTo_zero i (fun j t hj ht h=>by have:=(one i k j t hi hk (by omega) ht h.1 h.2).1;omega),sd_zero k (fun t ht h=>by have:=(one i k i t hi hk hi (by omega) h.1 h.2).2;omega)]
theorem may_pd {D : List Cr} {l : Int} (hs : sizeB D l = true) (hr : ∀ k s, k < D.length → s < 4 → 1 ≤ (D.getD k Cr.none).arc s ∧ (D.getD k Cr.none).arc s ≤ 2 * (D.length : Int))
    (one:∀ q r,q<4*D.length->r<4*D.length->pd D q=pd D r->q=r):mayD D l=true:=by
 refine may_inj hs hr fun i k j t hi hk hj ht ha hc=>?_
 have e := one (4 * j + t) (4 * i + k) (by omega) (by omega) (by
  unfold pd aAt
  rw[show(4*j+t) / 4=j by omega,show(4*j+t)%4=t by omega,show(4*i+k) / 4=i by omega,show(4*i+k)%4=k by omega,ha,hc])
 omega
def swp (u v z:Nat):Nat:=if z=u then v else if z=v then u else z
theorem swp_swp (u v z:Nat):swp u v (swp u v z)=z:=by
 unfold swp
 by_cases h1:z=u
 · rw[if_pos h1]
   by_cases h2:v=u
   · rw[if_pos h2];omega
   · rw[if_neg h2,if_pos rfl,h1]
 · rw[if_neg h1]
   by_cases h2:z=v
   · rw[if_pos h2,if_pos rfl,h2]
   · rw[if_neg h2,if_neg h1,if_neg h2]
theorem swp_inj {u v z w:Nat} (h:swp u v z=swp u v w):z=w:=by rw[<-swp_swp u v z,h,swp_swp]
theorem tieX_arc (m c o:Int) (X:Cr) {s:Nat} (hs:s<4):(tieX m c o X).arc s=tnum X m c o s:=by
 match s,hs with
 |0,_=>rfl
 |1,_=>rfl
 |2,_=>rfl
 |3,_=>rfl
theorem tieX_comes (m c o:Int) (X:Cr) (s:Nat):(tieX m c o X).comes s=X.comes s:=rfl
theorem tie_len (C D:List Cr) (x y:Int):(tieC C D x y).length=C.length+D.length:=by simp[tieC]
theorem tie_l (C D:List Cr) (x y:Int) {i:Nat} (h:i<C.length):(tieC C D x y).getD i Cr.none=tieX 0 x (y+2*(C.length:Int)) (C.getD i Cr.none):=by
 unfold tieC
 rw[List.getD_eq_getElem?_getD,List.getElem?_append_left (by simp;omega),List.getElem?_map,List.getD_eq_getElem?_getD,List.getElem?_eq_getElem h]
 rfl
theorem tie_r (C D:List Cr) (x y:Int) {j:Nat} (h:j<D.length):(tieC C D x y).getD (C.length+j) Cr.none=tieX (2*(C.length:Int)) y x (D.getD j Cr.none):=by
 unfold tieC
 rw[List.getD_eq_getElem?_getD,List.getElem?_append_right (by simp),List.length_map,show C.length+j-C.length=j by omega,List.getElem?_map,List.getD_eq_getElem?_getD,List.getElem?_eq_getElem h]
 rfl
theorem aAt_int {C:List Cr} {loops:Int} (hm:mayD C loops=true) (k s:Nat) (hk:k<C.length) (hs:s<4):(C.getD k Cr.none).arc s=(aAt C k s:Int):=by
 have h:=(en_side hm k s hk hs).2.2
 unfold aAt at h ⊢
 omega
theorem mk_even {a x:Nat} {p:Bool} (h:1<=a):mkD a p=2*x↔a=x/\p=true:=by
 unfold mkD
 cases p
 · simp
   omega
 · simp
   omega
set_option linter.unusedSectionVars false
section
variable {C D:List Cr} {l1 l2:Int} (hm:mayD C l1=true) (hm':mayD D l2=true) {x y:Nat} (hx1:1<=x) (hx2:x<=2*C.length) (hy1:1<=y) (hy2:y<=2*D.length)
include hm hm' hx1 hx2 hy1 hy2
theorem tie_arc_l {i s:Nat} (hi:i<C.length) (hs:s<4):((tieC C D x y).getD i Cr.none).arc s=((if aAt C i s=x/\(C.getD i Cr.none).comes s=true then y+2*C.length else aAt C i s:Nat):Int):=by
 rw[tie_l C D x y hi,tieX_arc _ _ _ _ hs]
 unfold tnum
 rw[aAt_int hm i s hi hs]
 by_cases h:aAt C i s=x/\(C.getD i Cr.none).comes s=true
 · rw[if_pos ⟨by omega,h.2⟩,if_pos h];omega
 · rw[if_neg (fun q=>h ⟨by have:=q.1;omega,q.2⟩),if_neg h];omega
theorem tie_arc_r {j s:Nat} (hj:j<D.length) (hs:s<4):((tieC C D x y).getD (C.length+j) Cr.none).arc s=((if aAt D j s=y/\(D.getD j Cr.none).comes s=true then x else aAt D j s+2*C.length:Nat):Int):=by
 rw[tie_r C D x y hj,tieX_arc _ _ _ _ hs]
 unfold tnum
 rw[aAt_int hm' j s hj hs]
 by_cases h:aAt D j s=y/\(D.getD j Cr.none).comes s=true
 · rw[if_pos ⟨by omega,h.2⟩,if_pos h]
 · rw[if_neg (fun q=>h ⟨by have:=q.1;omega,q.2⟩),if_neg h];omega
theorem pd_tie_l {i s:Nat} (hi:i<C.length) (hs:s<4):pd (tieC C D x y) (4*i+s)=swp (2*x) (2*y+4*C.length) (pd C (4*i+s)):=by
 have ha:=tie_arc_l hm hm' hx1 hx2 hy1 hy2 hi hs
 have hb:=en_side hm i s hi hs
 unfold pd
 rw[show(4*i+s) / 4=i by omega,show(4*i+s)%4=s by omega,show aAt (tieC C D x y) i s=(if aAt C i s=x/\(C.getD i Cr.none).comes s=true then y+2*C.length else aAt C i s) by unfold aAt at ha ⊢;rw[ha];exact Int.toNat_natCast _,tie_l C D x y hi,tieX_comes]
 unfold swp
 by_cases h:aAt C i s=x/\(C.getD i Cr.none).comes s=true
 · rw[if_pos h,if_pos ((mk_even hb.2.2.1).2 h),h.2]
   simp[mkD]
   omega
 · rw[if_neg h,if_neg (fun q=>h ((mk_even hb.2.2.1).1 q)),if_neg]
   have:=mk_le (p:=(C.getD i Cr.none).comes s) hb.2.2.1 hb.2.2.2
   omega
theorem pd_tie_r {j s:Nat} (hj:j<D.length) (hs:s<4):pd (tieC C D x y) (4*(C.length+j)+s)=swp (2*x) (2*y+4*C.length) (pd D (4*j+s)+4*C.length):=by
 have ha:=tie_arc_r hm hm' hx1 hx2 hy1 hy2 hj hs
 have hb:=en_side hm' j s hj hs
 unfold pd
 rw[show(4*(C.length+j)+s) / 4=C.length+j by omega,show(4*(C.length+j)+s)%4=s by omega,show(4*j+s) / 4=j by omega,show(4*j+s)%4=s by omega,show aAt (tieC C D x y) (C.length+j) s=(if aAt D j s=y/\(D.getD j Cr.none).comes s=true then x else aAt D j s+2*C.length) by unfold aAt at ha ⊢;rw[ha];exact Int.toNat_natCast _,tie_r C D x y hj,tieX_comes]
 have hl:=mk_le (p:=(D.getD j Cr.none).comes s) hb.2.2.1 hb.2.2.2
 unfold swp
 rw[if_neg (show ¬ mkD (aAt D j s) ((D.getD j Cr.none).comes s)+4*C.length=2*x by omega)]
 by_cases h:aAt D j s=y/\(D.getD j Cr.none).comes s=true
 · rw[if_pos h,if_pos (by rw[(mk_even hb.2.2.1).2 h]),h.2]
   simp[mkD]
 · rw[if_neg h,if_neg (fun q=>h ((mk_even (x:=y) hb.2.2.1).1 (by omega)))]
   have h1:=hb.2.2.1
   unfold mkD
   split<;>omega
theorem tie_may {l:Int} (hs:sizeB (tieC C D x y) l=true):mayD (tieC C D x y) l=true:=by
 have hlen:=tie_len C D (x:Int) (y:Int)
 have place:∀ q,q<4*(tieC C D x y).length->(∃ i s,i<C.length/\s<4/\q=4*i+s)∨∃ j s,j<D.length/\s<4/\q=4*(C.length+j)+s:=fun q hq=>by
  rw[hlen]at hq
  by_cases h:q<4*C.length
  · exact Or.inl ⟨q / 4,q%4,by omega,by omega,by omega⟩
  · exact Or.inr ⟨q / 4-C.length,q%4,by omega,by omega,by omega⟩
 refine may_pd hs (fun k s hk hs'=>?_) fun q r hq hr e=>?_
 · rw[hlen]at hk ⊢
   by_cases h:k<C.length
   · rw[tie_arc_l hm hm' hx1 hx2 hy1 hy2 h hs']
     have hb:=en_side hm k s h hs'
     split<;>omega
   · obtain⟨j,rfl⟩:∃ j,k=C.length+j:=⟨k - C.length,by omega⟩
     rw[tie_arc_r hm hm' hx1 hx2 hy1 hy2 (show j<D.length by omega) hs']
     have hb:=en_side hm' j s (by omega) hs'
     split<;>omega
 · have injC:=(pd_bij hm).inj
   have injD:=(pd_bij hm').inj
   rcases place q hq with⟨i,s,hi,hs1,rfl⟩|⟨i,s,hi,hs1,rfl⟩<;>rcases place r hr with⟨j,t,hj,ht,rfl⟩|⟨j,t,hj,ht,rfl⟩
   · rw[pd_tie_l hm hm' hx1 hx2 hy1 hy2 hi hs1,pd_tie_l hm hm' hx1 hx2 hy1 hy2 hj ht]at e
     have e2:=swp_inj e
     exact injC _ _ (by omega) (by omega) (by show pd C _-1=pd C _-1;rw[e2])
   · rw[pd_tie_l hm hm' hx1 hx2 hy1 hy2 hi hs1,pd_tie_r hm hm' hx1 hx2 hy1 hy2 hj ht]at e
     have e2:=swp_inj e
     have h1:=(pd_at hm i s hi hs1).2.2.2
     have h2:=(pd_at hm' j t hj ht).2.2.2
     omega
   · rw[pd_tie_r hm hm' hx1 hx2 hy1 hy2 hi hs1,pd_tie_l hm hm' hx1 hx2 hy1 hy2 hj ht]at e
     have e2:=swp_inj e
     have h1:=(pd_at hm' i s hi hs1).2.2.2
     have h2:=(pd_at hm j t hj ht).2.2.2
     omega
   · rw[pd_tie_r hm hm' hx1 hx2 hy1 hy2 hi hs1,pd_tie_r hm hm' hx1 hx2 hy1 hy2 hj ht]at e
     have e2:=swp_inj e
     have:=injD (4*i+s) (4*j+t) (by omega) (by omega) (by show pd D _-1=pd D _-1;congr 1;omega)
     omega
end
end Go.Proofs.YtbobljddklldjaaGreatDoor
/- The rings of a state of a sum: one fewer than those of both. -/
namespace Go.Proofs.YtbobljddklldjaaGreatDoor
def arX (C:List Cr) (x K k t:Nat):Nat:=if arN C k t=x/\(C.getD k Cr.none).comes t=true then K else arN C k t
theorem labP_congr {P Q:Nat->Nat×Nat}:∀ i,(∀ k,k<i->P k=Q k)->labP P i=labP Q i/\joinP P i=joinP Q i
 |0,_=>⟨rfl,rfl⟩
 |i+1,h=>by
  obtain⟨h1,h2⟩:=labP_congr i (fun k hk=>h k (by omega))
  have e:=h i (by omega)
  refine⟨?_,?_⟩
  · show lab (labP P i) (P i).1 (P i).2=lab (labP Q i) (Q i).1 (Q i).2
    rw[h1,e]
  · show joinP P i+(if labP P i (P i).1=labP P i (P i).2 then 0 else 1)=joinP Q i+(if labP Q i (Q i).1=labP Q i (Q i).2 then 0 else 1)
    rw[h1,h2,e]
theorem prS_map {ar br:Nat->Nat->Nat} {ρ:Nat->Nat} {s n i:Nat} (hi:i<2*n) (h:∀ k t,k<n->t<4->br k t=ρ (ar k t)):prS br s i=(ρ (prS ar s i).1,ρ (prS ar s i).2):=by
 have hk:i / 2<n:=by omega
 unfold prS
 split<;>split<;>(simp only;rw[h _ _ hk (by omega),h _ _ hk (by omega)])
theorem prS_in {ar:Nat->Nat->Nat} {S:Nat->Prop} {s n i:Nat} (hi:i<2*n) (h:∀ k t,k<n->t<4->S (ar k t)):S (prS ar s i).1/\S (prS ar s i).2:=by
 have hk:i / 2<n:=by omega
 unfold prS
 split<;>split<;>exact⟨h _ _ hk (by omega),h _ _ hk (by omega)⟩
theorem arX_one {C:List Cr} {x K k:Nat} (hf:∀ t,t<4->1<=(C.getD k Cr.none).arc t) (v t:Nat) (ht:t<4):(if arX C x K k t=v then 1 else 0)+(if x=v then(if(C.getD k Cr.none).arc t=(x:Int)/\(C.getD k Cr.none).comes t=true then 1 else 0) else 0)=(if arN C k t=v then 1 else 0)+(if K=v then(if(C.getD k Cr.none).arc t=(x:Int)/\(C.getD k Cr.none).comes t=true then 1 else 0) else 0):=by
 have e:((C.getD k Cr.none).arc t=(x:Int)/\(C.getD k Cr.none).comes t=true)↔(arN C k t=x/\(C.getD k Cr.none).comes t=true):=by
  have:=hf t ht
  unfold arN
  constructor
  · rintro⟨a,b⟩;exact⟨by omega,b⟩
  · rintro⟨a,b⟩;exact⟨by omega,b⟩
 unfold arX
 by_cases c:arN C k t=x/\(C.getD k Cr.none).comes t=true
 · rw[if_pos c,if_pos (e.2 c),c.1]
   by_cases q1:K=v<;>by_cases q2:x=v<;>simp[q1,q2]
 · rw[if_neg c,if_neg (fun q=>c (e.1 q))]
   by_cases q1:K=v<;>by_cases q2:x=v<;>simp[q1,q2]
theorem arX_oc {C:List Cr} {x K v:Nat}:∀ k,(∀ i,i<k->∀ t,t<4->1<=(C.getD i Cr.none).arc t)->oc (arX C x K) v k+(if x=v then inTo C x k else 0)=oc (arN C) v k+(if K=v then inTo C x k else 0)
 |0,_=>by show 0+(if x=v then 0 else 0)=0+(if K=v then 0 else 0);split<;>split<;>rfl
 |k+1,h=>by
  have ih:=arX_oc (x:=x) (K:=K) (v:=v) k (fun i hi=>h i (by omega))
  have hf:=h k (by omega)
  have a0:=arX_one (x:=x) (K:=K) hf v 0 (by omega)
  have a1:=arX_one (x:=x) (K:=K) hf v 1 (by omega)
  have a2:=arX_one (x:=x) (K:=K) hf v 2 (by omega)
  have a3:=arX_one (x:=x) (K:=K) hf v 3 (by omega)
  have e:inTo C x (k+1)=inTo C x k+sideIn (C.getD k Cr.none) x 4:=rfl
  have e4:sideIn (C.getD k Cr.none) x 4=0+(if(C.getD k Cr.none).arc 0=(x:Int)/\(C.getD k Cr.none).comes 0=true then 1 else 0)+(if(C.getD k Cr.none).arc 1=(x:Int)/\(C.getD k Cr.none).comes 1=true then 1 else 0)+(if(C.getD k Cr.none).arc 2=(x:Int)/\(C.getD k Cr.none).comes 2=true then 1 else 0)+(if(C.getD k Cr.none).arc 3=(x:Int)/\(C.getD k Cr.none).comes 3=true then 1 else 0):=rfl
  show oc (arX C x K) v k+in4 (arX C x K) v k+_=oc (arN C) v k+in4 (arN C) v k+_
  unfold in4
  rw[e,e4]
  by_cases q1:x=v<;>by_cases q2:K=v
  · simp only[if_pos q1,if_pos q2]at ih a0 a1 a2 a3 ⊢;omega
  · simp only[if_pos q1,if_neg q2]at ih a0 a1 a2 a3 ⊢;omega
  · simp only[if_neg q1,if_pos q2]at ih a0 a1 a2 a3 ⊢;omega
  · simp only[if_neg q1,if_neg q2]at ih a0 a1 a2 a3 ⊢;omega
theorem in_once {C:List Cr} {l:Int} (hm:mayD C l=true) {x:Nat} (h1:1<=x) (h2:x<=2*C.length):inTo C x C.length=1:=by
 have h:=may_once hm x h1 h2
 unfold onceB at h
 rw[Bool.and_eq_true]at h
 exact of_decide_eq_true h.1
theorem cut_ring {C : List Cr} {l : Int} (hm : mayD C l = true) {x K : Nat} (h1 : 1 ≤ x) (h2 : x ≤ 2 * C.length) (hK : 2 * C.length < K) (s : Nat) :
    joinP (prS (arX C x K) s) (2*C.length)=joinP (prS (arN C) s) (2*C.length)+1/\labP (prS (arX C x K) s) (2*C.length) K=labP (prS (arX C x K) s) (2*C.length) x:=by
 have hr:∀ k t,k<C.length->t<4->1<=arN C k t/\arN C k t<=2*C.length:=fun k t hk ht=>⟨(ar_range hm hk ht).2.2.1,(ar_range hm hk ht).2.2.2⟩
 have hj := cut_joinK (P := prS (arN C) s) (Q := prS (arX C x K) s) (m := 2 * C.length) (A := x) (K := K) (by omega) (fun i hi => by
  have e := prS_map (ar := arX C x K) (br := arN C) (ρ := sgK K x) (s := s) hi (fun k t hk ht => by
   have:=hr k t hk ht
   unfold arX sgK
   by_cases c:arN C k t=x/\(C.getD k Cr.none).comes t=true
   · rw[if_pos c,if_pos rfl];exact c.1
   · rw[if_neg c,if_neg (by omega)])
  rw[e]
  exact⟨rfl,rfl⟩) (2*C.length) (Nat.le_refl _)
 have hoc:=fun v=>arX_oc (C:=C) (x:=x) (K:=K) (v:=v) C.length (fun i hi t ht=>(ar_range hm hi ht).1)
 have h0:=in_once hm h1 h2
 have hends : labP (prS (arX C x K) s) (2 * C.length) K = labP (prS (arX C x K) s) (2 * C.length) x := ends_joined (N := K + 1) (fun k hk => prS_in (S := fun v => v < K + 1) hk (fun k t hk ht => by
     have:=hr k t hk ht
     show arX C x K k t<K+1
     unfold arX
     split<;>omega)) (by omega) (fun v q1 q2=>by
     rw[dg_oc]
     have:=hoc v
     rw[if_neg (fun e=>q1 e.symm),if_neg (fun e=>q2 e.symm)]at this
     by_cases hv:1<=v/\v<=2*C.length
     · rw[oc_two hm hv.1 hv.2]at this;omega
     · rw[oc_none hm (by omega) C.length (Nat.le_refl _)]at this;omega) (by
     rw[dg_oc]
     have:=hoc K
     rw[if_neg (by omega),if_pos rfl,h0,oc_none hm (by omega) C.length (Nat.le_refl _)]at this
     omega)
 refine⟨?_,hends⟩
 rw[hj.2,if_pos hends]
theorem bits_up (s n j:Nat):s / 2 ^ (n+j)%2=s / 2 ^ n / 2 ^ j%2:=by
 rw[Nat.pow_add,Nat.div_div_eq_div_mul]
section
variable {C D:List Cr} {l1 l2 l:Int} (hm:mayD C l1=true) (hm':mayD D l2=true) {x y:Nat} (hx1:1<=x) (hx2:x<=2*C.length) (hy1:1<=y) (hy2:y<=2*D.length)
include hm hm' hx1 hx2 hy1 hy2
theorem arT_l {k t:Nat} (hk:k<C.length) (ht:t<4):arN (tieC C D x y) k t=arX C x (y+2*C.length) k t:=by
 unfold arN arX
 rw[tie_arc_l hm hm' hx1 hx2 hy1 hy2 hk ht,Int.toNat_natCast]
 rfl
theorem arT_r {j t:Nat} (hj:j<D.length) (ht:t<4):arN (tieC C D x y) (C.length+j) t=if arN D j t=y/\(D.getD j Cr.none).comes t=true then x else arN D j t+2*C.length:=by
 have e:arN (tieC C D x y) (C.length+j) t=(((tieC C D x y).getD (C.length+j) Cr.none).arc t).toNat:=rfl
 rw[e,tie_arc_r hm hm' hx1 hx2 hy1 hy2 hj ht,Int.toNat_natCast]
 rfl
theorem join_tie (s:Nat):joinP (prS (arN (tieC C D x y)) s) (2*C.length+2*D.length)=joinP (prS (arN C) s) (2*C.length)+1+joinP (prS (arN D) (s / 2 ^ C.length)) (2*D.length):=by
 obtain⟨a1,a2⟩:=labP_add (prS (arN (tieC C D x y)) s) (2*C.length) (2*D.length)
 obtain⟨c1,c2⟩:=cut_ring hm hx1 hx2 (K:=y+2*C.length) (by omega) s
 have hc:∀ k,k<2*C.length->prS (arN (tieC C D x y)) s k=prS (arX C x (y+2*C.length)) s k:=fun k hk=>by
  have e:=prS_map (ar:=arX C x (y+2*C.length)) (br:=arN (tieC C D x y)) (ρ:=fun v=>v) (s:=s) hk (fun k t hk ht=>arT_l hm hm' hx1 hx2 hy1 hy2 hk ht)
  rw[e]
 obtain⟨g1,g2⟩:=labP_congr (2*C.length) hc
 have hmen : ∀ z, 2 * C.length < z → z ≠ y + 2 * C.length → ∀ k, k < 2 * C.length → (prS (arX C x (y + 2 * C.length)) s k).1 ≠ z ∧ (prS (arX C x (y + 2 * C.length)) s k).2 ≠ z := fun z z1 z2 k hk => prS_in (S := fun v => v ≠ z) hk (fun k t hk ht => by
  have:=(ar_range hm hk ht).2.2
  show arX C x (y+2*C.length) k t≠z
  unfold arX
  split<;>omega)
 have hal:=fun z z1 z2=>lab_alone (P:=prS (arX C x (y+2*C.length)) s) (z:=z) (2*C.length) (hmen z z1 z2)
 rw[a2,g2,c1,g1]
 have hren:=join_ren (S:=fun u=>u=x∨(2*C.length<u/\u<=2*C.length+2*D.length)) (ρ:=fun u=>if u=x then y else u-2*C.length) (W:=labP (prS (arX C x (y+2*C.length)) s) (2*C.length)) (V:=fun v=>v) (P:=fun k=>prS (arN (tieC C D x y)) s (2*C.length+k)) (Q:=prS (arN D) (s / 2 ^ C.length)) (m:=2*D.length)
 have hsh:∀ k,k<2*D.length->prS (arN (tieC C D x y)) s (2*C.length+k)=prS (fun j t=>arN (tieC C D x y) (C.length+j) t) (s / 2 ^ C.length) k:=fun k hk=>by
  unfold prS
  rw[show(2*C.length+k) / 2=C.length+k / 2 by omega,show(2*C.length+k)%2=k%2 by omega,bits_up]
 have hS:∀ j t,j<D.length->t<4->(fun u=>u=x∨(2*C.length<u/\u<=2*C.length+2*D.length)) (arN (tieC C D x y) (C.length+j) t):=fun j t hj ht=>by
  have:=(ar_range hm' hj ht).2.2
  show arN (tieC C D x y) (C.length+j) t=x∨_
  rw[arT_r hm hm' hx1 hx2 hy1 hy2 hj ht]
  split
  · exact Or.inl rfl
  · exact Or.inr ⟨by omega,by omega⟩
 have h3 := hren (fun i hi => by
  rw[hsh i hi]
  exact prS_in (S:=fun u=>u=x∨(2*C.length<u/\u<=2*C.length+2*D.length)) hi hS) (fun i hi=>by
  rw[hsh i hi]
  exact prS_map (ar := fun j t => arN (tieC C D x y) (C.length + j) t) (br := arN D) (ρ := fun u => if u = x then y else u - 2 * C.length) hi (fun j t hj ht => by
   have:=(ar_range hm' hj ht).2.2
   rw[arT_r hm hm' hx1 hx2 hy1 hy2 hj ht]
   by_cases c:arN D j t=y/\(D.getD j Cr.none).comes t=true
   · rw[if_pos c,if_pos rfl];exact c.1
   · rw[if_neg c,if_neg (by omega)];omega)) (fun u v su sv=>by
  show(if u=x then y else u-2*C.length)=(if v=x then y else v-2*C.length)↔_
  by_cases e1:u=x<;>by_cases e2:v=x
  · rw[if_pos e1,if_pos e2,e1,e2];exact⟨fun _=>rfl,fun _=>rfl⟩
  · rw[if_pos e1,if_neg e2]
    have sv':2*C.length<v:=by rcases sv with q|q;exact absurd q e2;exact q.1
    by_cases e3:v=y+2*C.length
    · rw[e1,e3];exact⟨fun _=>c2.symm,fun _=>by omega⟩
    · rw[hal v sv' e3 u];constructor<;>intro q<;>omega
  · rw[if_neg e1,if_pos e2]
    have su':2*C.length<u:=by rcases su with q|q;exact absurd q e1;exact q.1
    by_cases e3:u=y+2*C.length
    · rw[e2,e3];exact⟨fun _=>c2,fun _=>by omega⟩
    · have:=hal u su' e3 v
      constructor
      · intro q;omega
      · intro q;have:=this.1 q.symm;omega
  · rw[if_neg e1,if_neg e2]
    have su':2*C.length<u:=by rcases su with q|q;exact absurd q e1;exact q.1
    have sv':2*C.length<v:=by rcases sv with q|q;exact absurd q e2;exact q.1
    by_cases e3:v=y+2*C.length
    · by_cases e4:u=y+2*C.length
      · rw[e3,e4];exact⟨fun _=>rfl,fun _=>rfl⟩
      · have:=hal u su' e4 v
        constructor
        · intro q;omega
        · intro q;have:=this.1 q.symm;omega
    · rw[hal v sv' e3 u];constructor<;>intro q<;>omega) (2*D.length) (Nat.le_refl _)
 rw[(labP_W (prS (arN D) (s / 2 ^ C.length)) (2*D.length)).2,h3.2]
end
end Go.Proofs.YtbobljddklldjaaGreatDoor
/- Plain mathematics: a sum of two diagrams: its faces, by two trades. -/
namespace Go.Proofs.YtbobljddklldjaaGreatDoor
theorem al_eq {j:Nat} (h:1<=j):al j=if j%2=1 then j+1 else j-1:=by
 by_cases e:j%2=1
 · obtain⟨i,rfl⟩:∃ i,j=2*i+1:=⟨j / 2,by omega⟩
   rw[al_odd,if_pos e]
 · obtain⟨i,rfl⟩:∃ i,j=2*i+2:=⟨j / 2 - 1,by omega⟩
   rw[al_even,if_neg e]
   omega
theorem al_shift {j m:Nat} (h:1<=j):al (j+4*m)=al j+4*m:=by
 rw[al_eq h,al_eq (by omega),show(j+4*m)%2=j%2 by omega]
 split<;>omega
theorem al_swp {x y m w:Nat} (hx:1<=x) (hy:1<=y) (hw:1<=w):al (swp (2*x) (2*y+4*m) (al w))=swp (2*x-1) (2*y-1+4*m) w:=by
 have e:=al_eq hw
 have h1:1<=al w:=by rw[e];split<;>omega
 by_cases c1:w=2*x-1
 · have:al w=2*x:=by rw[e,if_pos (by omega)];omega
   unfold swp
   rw[if_pos this,if_pos c1,al_eq (by omega),if_neg (by omega)]
   omega
 · by_cases c2:w=2*y-1+4*m
   · have h2:al w=2*y+4*m:=by rw[e,if_pos (by omega)];omega
     unfold swp
     rw[if_neg c1,if_pos c2]
     by_cases c3:al w=2*x
     · omega
     · rw[if_neg c3,if_pos h2,al_eq (by omega),if_neg (by omega)]
   · have h3 : al w ≠ 2 * x := fun q => by
       have:=al_al hw
       rw[q,al_eq (by omega),if_neg (by omega)]at this
       omega
     have h4:al w≠2*y+4*m:=fun q=>by
      have:=al_al hw
      rw[q,al_eq (by omega),if_neg (by omega)]at this
      omega
     unfold swp
     rw[if_neg c1,if_neg c2,if_neg h3,if_neg h4,al_al hw]
theorem pd_onto {C:List Cr} {loops:Int} (hm:mayD C loops=true) {z:Nat} (h1:1<=z) (h2:z<=4*C.length):∃ k s,k<C.length/\s<4/\z=pd C (4*k+s):=by
 obtain⟨q,hq,e⟩:=(pd_bij hm).onto (y:=z - 1) (by omega)
 have h:=pd_at hm (q / 4) (q%4) (by omega) (by omega)
 refine⟨q / 4,q%4,by omega,by omega,?_⟩
 rw[show 4*(q / 4)+q%4=q by omega]at h ⊢
 have e':pd C q-1=z-1:=e
 omega
def fB (C D:List Cr) (w:Nat):Nat:=if w<=4*C.length then fd C w else fd D (w-4*C.length)+4*C.length
theorem fd_tie {C D : List Cr} {l1 l2 l : Int} (hm : mayD C l1 = true) (hm' : mayD D l2 = true) {x y : Nat} (hx1 : 1 ≤ x) (hx2 : x ≤ 2 * C.length) (hy1 : 1 ≤ y) (hy2 : y ≤ 2 * D.length) (hT : mayD (tieC C D x y) l = true) {w : Nat} (hw1 : 1 ≤ w) (hw2 : w ≤ 4 * (C.length + D.length)) :
    fd (tieC C D x y) w=swp (2*x) (2*y+4*C.length) (fB C D (swp (2*x-1) (2*y-1+4*C.length) w)):=by
 have hlen:=tie_len C D (x:Int) (y:Int)
 obtain⟨a1,a2,-,-⟩:=al_may (n:=C.length+D.length) hw1 hw2
 have hz:1<=swp (2*x) (2*y+4*C.length) (al w)/\swp (2*x) (2*y+4*C.length) (al w)<=4*(C.length+D.length):=by
  unfold swp
  split
  · omega
  · split<;>omega
 have hz2:=al_swp (m:=C.length) hx1 hy1 hw1
 have hz3:swp (2*x) (2*y+4*C.length) (swp (2*x) (2*y+4*C.length) (al w))=al w:=swp_swp _ _ _
 generalize swp (2*x) (2*y+4*C.length) (al w)=z at hz hz2 hz3
 rw[<-hz2]
 by_cases h:z<=4*C.length
 · obtain⟨k,s,hk,hs,rfl⟩:=pd_onto hm hz.1 h
   have h1:=pd_sig hT k s (by omega) hs
   rw[pd_tie_l hm hm' hx1 hx2 hy1 hy2 hk hs,hz3,al_al hw1,pd_tie_l hm hm' hx1 hx2 hy1 hy2 hk (Nat.mod_lt _ (by decide)),<-pd_sig hm k s hk hs]at h1
   obtain⟨b1,b2,-,-⟩:=al_may hz.1 h
   rw[h1]
   unfold fB
   rw[if_pos b2]
 · obtain⟨z',rfl⟩:∃ z',z=z'+4*C.length:=⟨z - 4*C.length,by omega⟩
   obtain⟨k,s,hk,hs,rfl⟩:=pd_onto hm' (z:=z') (by omega) (by omega)
   have h1:=pd_sig hT (C.length+k) s (by omega) hs
   rw[pd_tie_r hm hm' hx1 hx2 hy1 hy2 hk hs,hz3,al_al hw1,pd_tie_r hm hm' hx1 hx2 hy1 hy2 hk (Nat.mod_lt _ (by decide)),<-pd_sig hm' k s hk hs]at h1
   rw[h1,al_shift (by omega)]
   obtain⟨b1,b2,-,-⟩:=al_may (n:=D.length) (j:=pd D (4*k+s)) (by omega) (by omega)
   unfold fB
   rw[if_neg (by omega),show al (pd D (4*k+s))+4*C.length-4*C.length=al (pd D (4*k+s)) by omega]
theorem fB_closed {C D:List Cr} {l1 l2:Int} (hm:mayD C l1=true) (hm':mayD D l2=true) (a:Nat) (h1:1<=a) (h2:a<=4*(C.length+D.length)):1<=fB C D a/\fB C D a<=4*(C.length+D.length)/\(a<=4*C.length↔fB C D a<=4*C.length):=by
 unfold fB
 by_cases h:a<=4*C.length
 · rw[if_pos h]
   have:=fd_closed hm a h1 h
   exact⟨this.1,by omega,⟨fun _=>this.2,fun _=>h⟩⟩
 · rw[if_neg h]
   have:=fd_closed hm' (a-4*C.length) (by omega) (by omega)
   exact⟨by omega,by omega,⟨fun q=>absurd q h,fun q=>by omega⟩⟩
theorem fB_inj {C D:List Cr} {l1 l2:Int} (hm:mayD C l1=true) (hm':mayD D l2=true) (a b:Nat) (h1:1<=a) (h2:a<=4*(C.length+D.length)) (h3:1<=b) (h4:b<=4*(C.length+D.length)) (e:fB C D a=fB C D b):a=b:=by
 have ca:=(fB_closed hm hm' a h1 h2).2.2
 have cb:=(fB_closed hm hm' b h3 h4).2.2
 by_cases h:a<=4*C.length
 · have hb:b<=4*C.length:=cb.2 (e▸ca.1 h)
   unfold fB at e
   rw[if_pos h,if_pos hb]at e
   exact fd_inj hm a b h1 h h3 hb e
 · have hb:¬ b<=4*C.length:=fun q=>h (ca.2 (e▸cb.1 q))
   unfold fB at e
   rw[if_neg h,if_neg hb]at e
   have:=fd_inj hm' (a-4*C.length) (b-4*C.length) (by omega) (by omega) (by omega) (by omega) (by omega)
   omega
theorem fB_bij {C D:List Cr} {l1 l2:Int} (hm:mayD C l1=true) (hm':mayD D l2=true):Bij (up0 (fB C D)) (4*(C.length+D.length)+1):=
 bij_up0 (fun a h1 h2=>⟨(fB_closed hm hm' a h1 h2).1,(fB_closed hm hm' a h1 h2).2.1⟩) (fun a b h1 h2 h3 h4 e=>fB_inj hm hm' a b h1 h2 h3 h4 e)
theorem root_iff {E:List (Nat×Nat)} {n:Nat} {W:List Nat} (h:Least E n W) {v:Nat} (hv:v<n):W.getD v 0=v↔∀ u,Con E v u->v<=u:=by
 constructor
 · intro e u hu
   have:=(h.2 v hv).2 u hu
   omega
 · intro q
   have h1:=q _ (h.2 v hv).1
   have h2:=h.le hv
   omega
theorem con_left {C D:List Cr} {l1 l2:Int} (hm:mayD C l1=true) (hm':mayD D l2=true) {v u:Nat} (hv:v<=4*C.length):Con (eds (up0 (fB C D)) (4*(C.length+D.length)+1)) v u↔u<=4*C.length/\Con (eds (up0 (fd C)) (4*C.length+1)) v u:=by
 have e:∀ i,i<=4*C.length->up0 (fB C D) i=up0 (fd C) i:=fun i hi=>by
  by_cases h0:i=0
  · rw[h0];rfl
  · rw[up0_pos _ (by omega),up0_pos _ (by omega)]
    unfold fB
    rw[if_pos hi]
 have hB:=bij_up0 (fd_closed hm) (fun a b h1 h2 h3 h4 e=>fd_inj hm a b h1 h2 h3 h4 e)
 constructor
 · intro hc
   refine hc (fun z=>z<=4*C.length/\Con (eds (up0 (fd C)) (4*C.length+1)) v z) (closed_eds.2 fun i hi=>?_) ⟨hv,Con.refl _ _⟩
   by_cases h:i<=4*C.length
   · rw[e i h]
     have h1:=hB.lt i (by omega)
     have h2:=con_f (f:=up0 (fd C)) (M:=4*C.length+1) (x:=i) (by omega)
     exact⟨fun q=>⟨by omega,q.2.trans h2⟩,fun q=>⟨h,q.2.trans h2.symm⟩⟩
   · rw[up0_pos _ (by omega)]
     have:=(fB_closed hm hm' i (by omega) (by omega)).2.2
     exact⟨fun q=>absurd q.1 h,fun q=>absurd (this.2 q.1) h⟩
 · rintro⟨-,hc⟩ S hS hSv
   refine hc S (closed_eds.2 fun i hi=>?_) hSv
   have:=closed_eds.1 hS i (by omega)
   rw[e i (by omega)]at this
   exact this
theorem con_right {C D:List Cr} {l1 l2:Int} (hm:mayD C l1=true) (hm':mayD D l2=true) {v u:Nat} (hv1:1<=v):Con (eds (up0 (fB C D)) (4*(C.length+D.length)+1)) (v+4*C.length) u↔4*C.length<u/\Con (eds (up0 (fd D)) (4*D.length+1)) v (u-4*C.length):=by
 have e:∀ i,1<=i->i<=4*D.length->up0 (fB C D) (i+4*C.length)=up0 (fd D) i+4*C.length:=fun i h1 hi=>by
  rw[up0_pos _ (by omega),up0_pos _ (by omega)]
  unfold fB
  rw[if_neg (by omega),show i+4*C.length-4*C.length=i by omega]
 constructor
 · intro hc
   refine hc (fun z=>4*C.length<z/\Con (eds (up0 (fd D)) (4*D.length+1)) v (z-4*C.length)) (closed_eds.2 fun i hi=>?_) ⟨by omega,by rw[show v+4*C.length-4*C.length=v by omega];exact Con.refl _ _⟩
   by_cases h:i<=4*C.length
   · have h2 : up0 (fB C D) i ≤ 4 * C.length := by
       by_cases h0:i=0
       · rw[h0];exact Nat.zero_le _
       · rw[up0_pos _ (by omega)]
         exact(fB_closed hm hm' i (by omega) (by omega)).2.2.1 h
     exact⟨fun q=>absurd q.1 (by omega),fun q=>absurd q.1 (by omega)⟩
   · obtain⟨j,rfl⟩:∃ j,i=j+4*C.length:=⟨i - 4*C.length,by omega⟩
     rw[e j (by omega) (by omega),show j+4*C.length-4*C.length=j by omega,show up0 (fd D) j+4*C.length-4*C.length=up0 (fd D) j by omega]
     have h2:=con_f (f:=up0 (fd D)) (M:=4*D.length+1) (x:=j) (by omega)
     have h3:1<=up0 (fd D) j:=by rw[up0_pos _ (by omega)];exact(fd_closed hm' j (by omega) (by omega)).1
     exact⟨fun q=>⟨by omega,q.2.trans h2⟩,fun q=>⟨by omega,q.2.trans h2.symm⟩⟩
 · rintro⟨hu,hc⟩ S hS hSv
   have h := hc (fun z => S (z + 4 * C.length)) (closed_eds.2 fun i hi => by
    by_cases h0:i=0
    · rw[h0];exact Iff.rfl
    · have:=closed_eds.1 hS (i+4*C.length) (by omega)
      rw[e i (by omega) (by omega)]at this
      exact this) hSv
   have h':S (u-4*C.length+4*C.length):=h
   rwa [show u-4*C.length+4*C.length=u by omega]at h'
theorem cnt_add (P:Nat->Bool) (a:Nat):∀ b,(List.range (a+b)).countP P=(List.range a).countP P+(List.range b).countP fun i=>P (a+i):=by
 intro b
 induction b with
 |zero=>simp
 |succ b ih=>
  rw[show a+(b+1)=a+b+1 by omega,List.range_succ,List.countP_append,ih,List.range_succ,List.countP_append,List.countP_singleton,List.countP_singleton]
  omega
theorem cyN_both {C D:List Cr} {l1 l2:Int} (hm:mayD C l1=true) (hm':mayD D l2=true) (Q:Nat->Bool):cyN (up0 (fB C D)) (4*(C.length+D.length)+1) Q=cyN (up0 (fd C)) (4*C.length+1) Q+cyN (up0 (fd D)) (4*D.length+1) fun j=>decide (1<=j)&&Q (j+4*C.length):=by
 have hB:=fB_bij hm hm'
 have hC:=bij_up0 (fd_closed hm) (fun a b h1 h2 h3 h4 e=>fd_inj hm a b h1 h2 h3 h4 e)
 have hD:=bij_up0 (fd_closed hm') (fun a b h1 h2 h3 h4 e=>fd_inj hm' a b h1 h2 h3 h4 e)
 have wB:=cyW_least hB.lt
 have wC:=cyW_least hC.lt
 have wD:=cyW_least hD.lt
 unfold cyN
 rw[rq_eq,rq_eq,rq_eq,show 4*(C.length+D.length)+1=4*C.length+1+4*D.length by omega,cnt_add,cnt_up1 (fun v=>decide ((cyW (up0 (fd D)) (4*D.length+1)).getD v 0=v)&&(decide (1<=v)&&Q (v+4*C.length))) (4*D.length) (by simp)]
 congr 1
 · refine List.countP_congr fun v hv=>?_
   have hv:=List.mem_range.1 hv
   have e:(cyW (up0 (fB C D)) (4*C.length+1+4*D.length)).getD v 0=v↔(cyW (up0 (fd C)) (4*C.length+1)).getD v 0=v:=by
    rw[show 4*C.length+1+4*D.length=4*(C.length+D.length)+1 by omega,root_iff wB (by omega),root_iff wC hv]
    constructor
    · intro q u hu
      by_cases h:u<=4*C.length
      · exact q u ((con_left hm hm' (by omega)).2 ⟨h,hu⟩)
      · omega
    · intro q u hu
      exact q u ((con_left hm hm' (by omega)).1 hu).2
   rw[decide_eq_decide.2 e]
 · refine List.countP_congr fun i hi=>?_
   have hi:=List.mem_range.1 hi
   have e:(cyW (up0 (fB C D)) (4*C.length+1+4*D.length)).getD (4*C.length+1+i) 0=4*C.length+1+i↔(cyW (up0 (fd D)) (4*D.length+1)).getD (i+1) 0=i+1:=by
    rw[show 4*C.length+1+4*D.length=4*(C.length+D.length)+1 by omega,show 4*C.length+1+i=i+1+4*C.length by omega,root_iff wB (by omega),root_iff wD (by omega)]
    constructor
    · intro q u hu
      by_cases h0:u=0
      · rw[h0]at hu
        exact absurd hu (zero_apart (fd_closed hm') (by omega))
      · have:=q (u+4*C.length) ((con_right hm hm' (by omega)).2 ⟨by omega,by rw[show u+4*C.length-4*C.length=u by omega];exact hu⟩)
        omega
    · intro q u hu
      obtain⟨h1,h2⟩:=(con_right hm hm' (by omega)).1 hu
      have:=q _ h2
      omega
   rw[decide_eq_decide.2 e,show i+1+4*C.length=4*C.length+1+i by omega,decide_eq_true (show 1<=i+1 by omega),Bool.true_and]
end Go.Proofs.YtbobljddklldjaaGreatDoor
/- Plain mathematics: a sum of two diagrams: the two trades, and its pieces. -/
namespace Go.Proofs.YtbobljddklldjaaGreatDoor
theorem q_con {f:Nat->Nat} {M:Nat} {Q:Nat->Bool} (h:∀ z,z<M->Q z=Q (f z)) (x y:Nat) (_hx:x<M) (hc:Con (eds f M) x y):Q x=Q y:=
 hc (fun z=>Q x=Q z) (closed_eds.2 fun z hz=>by rw[h z hz]) rfl
theorem cyN_tie {C D : List Cr} {l1 l2 l : Int} (hm : mayD C l1 = true) (hm' : mayD D l2 = true) {x y : Nat} (hx1 : 1 ≤ x) (hx2 : x ≤ 2 * C.length) (hy1 : 1 ≤ y) (hy2 : y ≤ 2 * D.length) (hT : mayD (tieC C D x y) l = true) (Q : Nat → Bool)
    (hQ:∀ z,1<=z->z<=4*(C.length+D.length)->Q z=Q (fB C D z)) (e1:Q (2*x-1)=Q (2*y-1+4*C.length)) (e2:Q (2*x)=Q (2*y+4*C.length)) (e3:Q (2*x-1)=Q (2*x)):
    (Q (2*x)=true->cyN (up0 (fd (tieC C D x y))) (4*(C.length+D.length)+1) Q+2=cyN (up0 (fB C D)) (4*(C.length+D.length)+1) Q∨cyN (up0 (fd (tieC C D x y))) (4*(C.length+D.length)+1) Q=cyN (up0 (fB C D)) (4*(C.length+D.length)+1) Q)/\
    (Q (2*x)=false->cyN (up0 (fd (tieC C D x y))) (4*(C.length+D.length)+1) Q=cyN (up0 (fB C D)) (4*(C.length+D.length)+1) Q):=by
 have hB:=fB_bij hm hm'
 have hQB:∀ z,z<4*(C.length+D.length)+1->Q z=Q (up0 (fB C D) z):=fun z hz=>by
  by_cases h0:z=0
  · rw[h0];rfl
  · rw[up0_pos _ (by omega)];exact hQ z (by omega) (by omega)
 have la:2*x-1<4*(C.length+D.length)+1:=by omega
 have lb:2*y-1+4*C.length<4*(C.length+D.length)+1:=by omega
 have hn:¬ Con (eds (up0 (fB C D)) (4*(C.length+D.length)+1)) (2*x-1) (2*y-1+4*C.length):=fun q=>by
  have:=((con_left hm hm' (by omega)).1 q).1
  omega
 have k1:=cyN_join hB Q la lb hn (q_con hQB) e1
 have hg:=hB.tr la lb
 have hQg:∀ z,z<4*(C.length+D.length)+1->Q z=Q (tr (up0 (fB C D)) (2*x-1) (2*y-1+4*C.length) z):=fun z hz=>by
  by_cases c1:z=2*x-1
  · rw[c1,tr_a,e1];exact hQB _ lb
  · by_cases c2:z=2*y-1+4*C.length
    · rw[c2,tr_b,<-e1];exact hQB _ la
    · rw[tr_o _ c1 c2];exact hQB _ hz
 have hgw:∀ w,1<=w->tr (up0 (fB C D)) (2*x-1) (2*y-1+4*C.length) w=fB C D (swp (2*x-1) (2*y-1+4*C.length) w):=fun w hw=>by
  unfold tr swp
  by_cases c1:w=2*x-1
  · rw[if_pos c1,if_pos c1,up0_pos _ (by omega)]
  · rw[if_neg c1,if_neg c1]
    by_cases c2:w=2*y-1+4*C.length
    · rw[if_pos c2,if_pos c2,up0_pos _ (by omega)]
    · rw[if_neg c2,if_neg c2,up0_pos _ (by omega)]
 have hg0:tr (up0 (fB C D)) (2*x-1) (2*y-1+4*C.length) 0=0:=by
  rw[tr_o _ (by omega) (by omega)];rfl
 generalize tr (up0 (fB C D)) (2*x-1) (2*y-1+4*C.length)=g at k1 hg hQg hgw hg0
 obtain⟨a,ha,ea⟩:=hg.onto (y:=2*x) (by omega)
 obtain⟨b,hb,eb⟩:=hg.onto (y:=2*y+4*C.length) (by omega)
 have hab:a≠b:=fun q=>by rw[q,eb]at ea;omega
 have hcong:∀ w,w<4*(C.length+D.length)+1->tr g a b w=up0 (fd (tieC C D x y)) w:=fun w hw=>by
  by_cases h0:w=0
  · have a0:w≠a:=fun q=>by rw[<-q,h0,hg0]at ea;omega
    have b0:w≠b:=fun q=>by rw[<-q,h0,hg0]at eb;omega
    rw[tr_o g a0 b0,h0,hg0]
    rfl
  · rw[up0_pos _ (by omega),fd_tie hm hm' hx1 hx2 hy1 hy2 hT (by omega) (by omega),<-hgw w (by omega)]
    unfold swp
    by_cases c1:w=a
    · rw[c1,tr_a,ea,eb,if_pos rfl]
    · by_cases c2:w=b
      · rw[c2,tr_b,ea,eb,if_neg (by omega),if_pos rfl]
      · rw[tr_o g c1 c2,if_neg (fun q=>c1 (hg.inj _ _ hw ha (by rw[q,ea]))),if_neg (fun q=>c2 (hg.inj _ _ hw hb (by rw[q,eb])))]
 have qa:Q a=Q (2*x):=by rw[hQg a ha,ea]
 have qb:Q b=Q (2*x):=by rw[hQg b hb,eb,e2]
 rw[<-cyN_congr hcong]
 rw[e3]at k1
 by_cases hc:Con (eds g (4*(C.length+D.length)+1)) a b
 · have k2:=cyN_part hg Q ha hb hab hc (q_con hQg)
   rw[qa]at k2
   refine⟨fun q=>Or.inr ?_,fun q=>?_⟩
   · rw[if_pos q]at k1 k2;omega
   · rw[if_neg (by rw[q];decide)]at k1 k2;omega
 · have k2:=cyN_join hg Q ha hb hc (q_con hQg) (by rw[qa,qb])
   rw[qa]at k2
   refine⟨fun q=>Or.inl ?_,fun q=>?_⟩
   · rw[if_pos q]at k1 k2;omega
   · rw[if_neg (by rw[q];decide)]at k1 k2;omega
theorem lv_tie {C D : List Cr} {l1 l2 l : Int} (hm : mayD C l1 = true) (hm' : mayD D l2 = true) {x y : Nat} (hx1 : 1 ≤ x) (hx2 : x ≤ 2 * C.length) (hy1 : 1 ≤ y) (hy2 : y ≤ 2 * D.length) (hT : mayD (tieC C D x y) l = true) {w : Nat} :
    (1<=w->w<=4*C.length->lvC (tieC C D x y) (swp (2*x) (2*y+4*C.length) w)=lvC C w)/\
    (1<=w->w<=4*D.length->lvC (tieC C D x y) (swp (2*x) (2*y+4*C.length) (w+4*C.length))=C.length+lvC D w):=by
 have hlen:=tie_len C D (x:Int) (y:Int)
 constructor
 · intro h1 h2
   obtain⟨k,s,hk,hs,rfl⟩:=pd_onto hm h1 h2
   rw[<-pd_tie_l hm hm' hx1 hx2 hy1 hy2 hk hs,(pd_at hT k s (by omega) hs).2.1,(pd_at hm k s hk hs).2.1]
 · intro h1 h2
   obtain⟨k,s,hk,hs,rfl⟩:=pd_onto hm' h1 h2
   rw[<-pd_tie_r hm hm' hx1 hx2 hy1 hy2 hk hs,(pd_at hT (C.length+k) s (by omega) hs).2.1,(pd_at hm' k s hk hs).2.1]
theorem closed_arcs {C:List Cr} {S:Nat->Prop}:Closed (arcE C) S↔∀ a,1<=a->a<=2*C.length->(S (lvC C (2*a))↔S (lvC C (2*a-1))):=by
 have e:∀ i,arE C i=(lvC C (2*(i+1)),lvC C (2*(i+1)-1)):=fun i=>by
  obtain⟨v1,v2⟩:=lv_odd C i
  rw[show 2*(i+1)=2*i+2 by omega,show 2*i+2-1=2*i+1 by omega,v1,v2]
 constructor
 · intro h a h1 h2
   have:=h (arE C (a-1)) (List.mem_map.2 ⟨a-1,List.mem_range.2 (by omega),rfl⟩)
   rw[e,show a-1+1=a by omega]at this
   exact this
 · intro h d hd
   obtain⟨i,hi,rfl⟩:=List.mem_map.1 hd
   have:=h (i+1) (by omega) (by have:=List.mem_range.1 hi;omega)
   show S (arE C i).1↔S (arE C i).2
   rw[e]
   exact this
theorem lv_nx {C:List Cr} {loops:Int} (hm:mayD C loops=true) {a:Nat} (h1:1<=a) (h2:a<=2*C.length):lvC C (2*nx C a-1)=lvC C (2*a):=by
 obtain⟨-,p2,p3,p4,p5⟩:=to_may hm a h1 h2
 obtain⟨a1,a2,a3⟩:=nx_may hm a h1 h2
 have ca:=comes_over (C.getD (toC C a) Cr.none) (toS C a) p3
 rw[p5]at ca
 have e1:=end_one hm _ a2 a3 _ _ _ p2 (Nat.mod_lt _ (by decide)) a1 ca
 have e2:lvC C (2*nx C a-1)=enC C (nx C a) false:=by
  unfold lvC
  rw[show dA (2*nx C a-1)=nx C a by unfold dA;omega,show dB (2*nx C a-1)=false by unfold dB;exact decide_eq_false (by omega)]
 have e3:lvC C (2*a)=toC C a:=by
  unfold lvC
  rw[show dA (2*a)=a by unfold dA;omega,show dB (2*a)=true by unfold dB;exact decide_eq_true (by omega)]
  rfl
 rw[e2,e3]
 unfold enC
 have e4:endTo C (nx C a) false C.length=((toC C a:Int),(((toS C a+2)%4:Nat):Int)):=e1
 rw[e4]
 exact Int.toNat_natCast _
theorem no_bridge {C:List Cr} {loops:Int} (hm:mayD C loops=true) {y:Nat} (h1:1<=y) (h2:y<=2*C.length) {S:Nat->Prop} (hS:∀ a,1<=a->a<=2*C.length->a≠y->(S (lvC C (2*a))↔S (lvC C (2*a-1)))) (h:S (lvC C (2*y))):S (lvC C (2*y-1)):=by
 have hB:=bij_up0 (nx_closed hm) (fun a b p q r s t=>nx_inj hm a b p q r s t)
 obtain⟨p,p0,hp⟩:=period hB (x:=y) (by omega)
 have hpos:∀ i,1<=it (up0 (nx C)) i y/\it (up0 (nx C)) i y<=2*C.length:=by
  intro i
  induction i with
  |zero=>exact⟨h1,h2⟩
  |succ i ih=>
   show 1<=up0 (nx C) (it (up0 (nx C)) i y)/\up0 (nx C) (it (up0 (nx C)) i y)<=2*C.length
   rw[up0_pos _ ih.1]
   exact nx_closed hm _ ih.1 ih.2
 have hs:∀ i,it (up0 (nx C)) (i+1) y=nx C (it (up0 (nx C)) i y):=fun i=>up0_pos _ (hpos i).1
 have key:∀ i,S (lvC C (2*y-1))∨S (lvC C (2*it (up0 (nx C)) i y)):=by
  intro i
  induction i with
  |zero=>exact Or.inr h
  |succ i ih=>
   rcases ih with ih|ih
   · exact Or.inl ih
   · rw[<-lv_nx hm (hpos i).1 (hpos i).2,<-hs i]at ih
     by_cases e:it (up0 (nx C)) (i+1) y=y
     · rw[e]at ih;exact Or.inl ih
     · exact Or.inr ((hS _ (hpos (i+1)).1 (hpos (i+1)).2 e).2 ih)
 rcases key (p - 1) with k|k
 · exact k
 · rw[<-lv_nx hm (hpos _).1 (hpos _).2,<-hs,show p-1+1=p by omega,hp]at k
   exact k
end Go.Proofs.YtbobljddklldjaaGreatDoor
/- Plain mathematics: a sum of two diagrams: its pieces; of a diagram with itself it is planar just if that is. -/
namespace Go.Proofs.YtbobljddklldjaaGreatDoor
theorem swp_o {u v z:Nat} (h1:z≠u) (h2:z≠v):swp u v z=z:=by unfold swp;rw[if_neg h1,if_neg h2]
theorem swp_u (u v:Nat):swp u v u=v:=by unfold swp;rw[if_pos rfl]
theorem swp_v (u v:Nat):swp u v v=u:=by
 unfold swp
 by_cases h:v=u
 · rw[if_pos h,h]
 · rw[if_neg h,if_pos rfl]
theorem arc_con {C:List Cr} {a:Nat} (h1:1<=a) (h2:a<=2*C.length):Con (arcE C) (lvC C (2*a)) (lvC C (2*a-1)):=fun _ hS hu=>(closed_arcs.1 hS a h1 h2).1 hu
set_option linter.unusedSectionVars false
section
variable {C D:List Cr} {l1 l2 l:Int} (hm:mayD C l1=true) (hm':mayD D l2=true) {x y:Nat} (hx1:1<=x) (hx2:x<=2*C.length) (hy1:1<=y) (hy2:y<=2*D.length) (hT:mayD (tieC C D x y) l=true)
include hm hm' hx1 hx2 hy1 hy2 hT
theorem lvT_l {w:Nat} (h1:1<=w) (h2:w<=4*C.length) (h3:w≠2*x):lvC (tieC C D x y) w=lvC C w:=by
 have h:=(lv_tie hm hm' hx1 hx2 hy1 hy2 hT (w:=w)).1 h1 h2
 rwa [swp_o h3 (by omega)]at h
theorem lvT_x:lvC (tieC C D x y) (2*x)=C.length+lvC D (2*y):=by
 have h:=(lv_tie hm hm' hx1 hx2 hy1 hy2 hT (w:=2*y)).2 (by omega) (by omega)
 rwa [swp_v]at h
theorem lvT_y:lvC (tieC C D x y) (2*y+4*C.length)=lvC C (2*x):=by
 have h:=(lv_tie hm hm' hx1 hx2 hy1 hy2 hT (w:=2*x)).1 (by omega) (by omega)
 rwa [swp_u]at h
theorem lvT_r {w:Nat} (h1:1<=w) (h2:w<=4*D.length) (h3:w≠2*y):lvC (tieC C D x y) (w+4*C.length)=C.length+lvC D w:=by
 have h:=(lv_tie hm hm' hx1 hx2 hy1 hy2 hT (w:=w)).2 h1 h2
 rwa [swp_o (by omega) (by omega)]at h
theorem closed_tie {S : Nat → Prop} : Closed (arcE (tieC C D x y)) S ↔
    (∀ a,1<=a->a<=2*C.length->a≠x->(S (lvC C (2*a))↔S (lvC C (2*a-1))))/\(S (C.length+lvC D (2*y))↔S (lvC C (2*x-1)))/\
    (∀ a,1<=a->a<=2*D.length->a≠y->(S (C.length+lvC D (2*a))↔S (C.length+lvC D (2*a-1))))/\(S (lvC C (2*x))↔S (C.length+lvC D (2*y-1))):=by
 have hlen:=tie_len C D (x:Int) (y:Int)
 rw[closed_arcs,hlen]
 constructor
 · intro h
   refine⟨fun a h1 h2 h3=>?_,?_,fun a h1 h2 h3=>?_,?_⟩
   · have:=h a h1 (by omega)
     rwa [lvT_l hm hm' hx1 hx2 hy1 hy2 hT (by omega) (by omega) (by omega),lvT_l hm hm' hx1 hx2 hy1 hy2 hT (by omega) (by omega) (by omega)]at this
   · have:=h x hx1 (by omega)
     rwa [lvT_x hm hm' hx1 hx2 hy1 hy2 hT,lvT_l hm hm' hx1 hx2 hy1 hy2 hT (by omega) (by omega) (by omega)]at this
   · have:=h (a+2*C.length) (by omega) (by omega)
     rwa [show 2*(a+2*C.length)=2*a+4*C.length by omega,show 2*a+4*C.length-1=2*a-1+4*C.length by omega,lvT_r hm hm' hx1 hx2 hy1 hy2 hT (by omega) (by omega) (by omega),lvT_r hm hm' hx1 hx2 hy1 hy2 hT (by omega) (by omega) (by omega)]at this
   · have:=h (y+2*C.length) (by omega) (by omega)
     rwa [show 2*(y+2*C.length)=2*y+4*C.length by omega,show 2*y+4*C.length-1=2*y-1+4*C.length by omega,lvT_y hm hm' hx1 hx2 hy1 hy2 hT,lvT_r hm hm' hx1 hx2 hy1 hy2 hT (by omega) (by omega) (by omega)]at this
 · rintro⟨g1,g2,g3,g4⟩ a h1 h2
   by_cases h:a<=2*C.length
   · rw[lvT_l hm hm' hx1 hx2 hy1 hy2 hT (w:=2*a-1) (by omega) (by omega) (by omega)]
     by_cases e:a=x
     · rw[e,lvT_x hm hm' hx1 hx2 hy1 hy2 hT];exact g2
     · rw[lvT_l hm hm' hx1 hx2 hy1 hy2 hT (by omega) (by omega) (by omega)];exact g1 a h1 h e
   · obtain⟨b,rfl⟩:∃ b,a=b+2*C.length:=⟨a - 2*C.length,by omega⟩
     rw[show 2*(b+2*C.length)=2*b+4*C.length by omega,show 2*b+4*C.length-1=2*b-1+4*C.length by omega,lvT_r hm hm' hx1 hx2 hy1 hy2 hT (w:=2*b-1) (by omega) (by omega) (by omega)]
     by_cases e:b=y
     · rw[e,lvT_y hm hm' hx1 hx2 hy1 hy2 hT];exact g4
     · rw[lvT_r hm hm' hx1 hx2 hy1 hy2 hT (by omega) (by omega) (by omega)];exact g3 b (by omega) (by omega) e
theorem closed_parts {S:Nat->Prop} (h:Closed (arcE (tieC C D x y)) S):Closed (arcE C) S/\Closed (arcE D) (fun z=>S (C.length+z))/\(S (lvC C (2*x))↔S (C.length+lvC D (2*y))):=by
 obtain⟨g1,g2,g3,g4⟩:=(closed_tie hm hm' hx1 hx2 hy1 hy2 hT).1 h
 have k1:S (C.length+lvC D (2*y))->S (C.length+lvC D (2*y-1)):=fun q=>no_bridge hm' hy1 hy2 (S:=fun z=>S (C.length+z)) g3 q
 have k2:S (C.length+lvC D (2*y-1))->S (C.length+lvC D (2*y)):=fun q=>Classical.byContradiction fun r=>no_bridge hm' hy1 hy2 (S:=fun z=>¬ S (C.length+z)) (fun a h1 h2 h3=>not_congr (g3 a h1 h2 h3)) r q
 have kx:S (lvC C (2*x))↔S (lvC C (2*x-1)):=⟨fun q=>g2.1 (k2 (g4.1 q)),fun q=>g4.2 (k1 (g2.2 q))⟩
 refine⟨closed_arcs.2 fun a h1 h2=>?_,closed_arcs.2 fun a h1 h2=>?_,⟨fun q=>g2.2 (kx.1 q),fun q=>g4.2 (k1 q)⟩⟩
 · by_cases e:a=x
   · rw[e];exact kx
   · exact g1 a h1 h2 e
 · by_cases e:a=y
   · rw[e];exact⟨k1,k2⟩
   · exact g3 a h1 h2 e
theorem conT_C {u v:Nat} (h:Con (arcE C) u v):Con (arcE (tieC C D x y)) u v:=fun S hS hu=>h S (closed_parts hm hm' hx1 hx2 hy1 hy2 hT hS).1 hu
theorem conT_D {u v:Nat} (h:Con (arcE D) u v):Con (arcE (tieC C D x y)) (C.length+u) (C.length+v):=fun S hS hu=>h (fun z=>S (C.length+z)) (closed_parts hm hm' hx1 hx2 hy1 hy2 hT hS).2.1 hu
theorem conT_xy:Con (arcE (tieC C D x y)) (lvC C (2*x)) (C.length+lvC D (2*y)):=fun _ hS hu=>(closed_parts hm hm' hx1 hx2 hy1 hy2 hT hS).2.2.1 hu
theorem conT_left {u:Nat} (hu:u<C.length) {z:Nat} (h:Con (arcE (tieC C D x y)) u z):(z<C.length/\Con (arcE C) u z)∨(C.length<=z/\Con (arcE C) u (lvC C (2*x))/\Con (arcE D) (z-C.length) (lvC D (2*y))):=by
 have lc:∀ w,1<=w->w<=4*C.length->lvC C w<C.length:=fun w a b=>lv_lt hm a b
 have cx:=arc_con (C:=C) hx1 hx2
 have cy:=arc_con (C:=D) hy1 hy2
 refine h (fun z=>(z<C.length/\Con (arcE C) u z)∨(C.length<=z/\Con (arcE C) u (lvC C (2*x))/\Con (arcE D) (z-C.length) (lvC D (2*y)))) ((closed_tie hm hm' hx1 hx2 hy1 hy2 hT).2 ⟨fun a h1 h2 h3=>?_,?_,fun a h1 h2 h3=>?_,?_⟩) (Or.inl ⟨hu,Con.refl _ _⟩)
 · have c:=arc_con (C:=C) h1 h2
   have i1:=lc (2*a) (by omega) (by omega)
   have i2:=lc (2*a-1) (by omega) (by omega)
   constructor
   · rintro(q|q)
     · exact Or.inl ⟨i2,q.2.trans c⟩
     · exact absurd q.1 (by omega)
   · rintro(q|q)
     · exact Or.inl ⟨i1,q.2.trans c.symm⟩
     · exact absurd q.1 (by omega)
 · have i2:=lc (2*x-1) (by omega) (by omega)
   constructor
   · rintro(q|q)
     · exact absurd q.1 (by omega)
     · exact Or.inl ⟨i2,q.2.1.trans cx⟩
   · rintro(q|q)
     · exact Or.inr ⟨by omega,q.2.trans cx.symm,by rw[show C.length+lvC D (2*y)-C.length=lvC D (2*y) by omega];exact Con.refl _ _⟩
     · exact absurd q.1 (by omega)
 · have c:=arc_con (C:=D) h1 h2
   rw[show C.length+lvC D (2*a)-C.length=lvC D (2*a) by omega,show C.length+lvC D (2*a-1)-C.length=lvC D (2*a-1) by omega]
   constructor
   · rintro(q|q)
     · exact absurd q.1 (by omega)
     · exact Or.inr ⟨by omega,q.2.1,c.symm.trans q.2.2⟩
   · rintro(q|q)
     · exact absurd q.1 (by omega)
     · exact Or.inr ⟨by omega,q.2.1,c.trans q.2.2⟩
 · have i1:=lc (2*x) (by omega) (by omega)
   rw[show C.length+lvC D (2*y-1)-C.length=lvC D (2*y-1) by omega]
   constructor
   · rintro(q|q)
     · exact Or.inr ⟨by omega,q.2,cy.symm⟩
     · exact absurd q.1 (by omega)
   · rintro(q|q)
     · exact absurd q.1 (by omega)
     · exact Or.inl ⟨i1,q.2.1⟩
theorem conT_right {u:Nat} {z:Nat} (h:Con (arcE (tieC C D x y)) (C.length+u) z):(z<C.length/\Con (arcE D) u (lvC D (2*y))/\Con (arcE C) z (lvC C (2*x)))∨(C.length<=z/\Con (arcE D) u (z-C.length)):=by
 have lc:∀ w,1<=w->w<=4*C.length->lvC C w<C.length:=fun w a b=>lv_lt hm a b
 have cx:=arc_con (C:=C) hx1 hx2
 have cy:=arc_con (C:=D) hy1 hy2
 refine h (fun z=>(z<C.length/\Con (arcE D) u (lvC D (2*y))/\Con (arcE C) z (lvC C (2*x)))∨(C.length<=z/\Con (arcE D) u (z-C.length))) ((closed_tie hm hm' hx1 hx2 hy1 hy2 hT).2 ⟨fun a h1 h2 h3=>?_,?_,fun a h1 h2 h3=>?_,?_⟩) (Or.inr ⟨by omega,by rw[show C.length+u-C.length=u by omega];exact Con.refl _ _⟩)
 · have c:=arc_con (C:=C) h1 h2
   have i1:=lc (2*a) (by omega) (by omega)
   have i2:=lc (2*a-1) (by omega) (by omega)
   constructor
   · rintro(q|q)
     · exact Or.inl ⟨i2,q.2.1,c.symm.trans q.2.2⟩
     · exact absurd q.1 (by omega)
   · rintro(q|q)
     · exact Or.inl ⟨i1,q.2.1,c.trans q.2.2⟩
     · exact absurd q.1 (by omega)
 · have i2:=lc (2*x-1) (by omega) (by omega)
   rw[show C.length+lvC D (2*y)-C.length=lvC D (2*y) by omega]
   constructor
   · rintro(q|q)
     · exact absurd q.1 (by omega)
     · exact Or.inl ⟨i2,q.2,cx.symm⟩
   · rintro(q|q)
     · exact Or.inr ⟨by omega,q.2.1⟩
     · exact absurd q.1 (by omega)
 · have c:=arc_con (C:=D) h1 h2
   rw[show C.length+lvC D (2*a)-C.length=lvC D (2*a) by omega,show C.length+lvC D (2*a-1)-C.length=lvC D (2*a-1) by omega]
   constructor
   · rintro(q|q)
     · exact absurd q.1 (by omega)
     · exact Or.inr ⟨by omega,q.2.trans c⟩
   · rintro(q|q)
     · exact absurd q.1 (by omega)
     · exact Or.inr ⟨by omega,q.2.trans c.symm⟩
 · have i1:=lc (2*x) (by omega) (by omega)
   rw[show C.length+lvC D (2*y-1)-C.length=lvC D (2*y-1) by omega]
   constructor
   · rintro(q|q)
     · exact Or.inr ⟨by omega,q.2.1.trans cy⟩
     · exact absurd q.1 (by omega)
   · rintro(q|q)
     · exact absurd q.1 (by omega)
     · exact Or.inl ⟨i1,q.2.trans cy.symm,Con.refl _ _⟩
end
end Go.Proofs.YtbobljddklldjaaGreatDoor
