/- Several texts of the proof, one behind the other. -/
import Derived.Test.YtookanmeflbdlaaGreatDoorCyHP
import Derived.Test.YtookanmeflbdlaaGreatDoorC15P
import Derived.Test.YtookanmeflbdlaaGreatDoorAL1P
import Derived.Test.YtookanmeflbdlaaGreatDoorF2P
/- Plain mathematics: a sum of two diagrams: it may be, and its darts. -/
namespace Go.Proofs.YtookanmeflbdlaaGreatDoor
theorem Kb2 {D : List Cr} {l : Int} (hs : QF3 D l = true) (hr : ∀ k s, k < D.length → s < 4 → 1 ≤ (D.getD k Cr.none).arc s ∧ (D.getD k Cr.none).arc s ≤ 2 * (D.length : Int))
    (one:∀ i k j t,i<D.length->k<4->j<D.length->t<4->(D.getD j Cr.none).arc t=(D.getD i Cr.none).arc k->(D.getD j Cr.none).comes t=(D.getD i Cr.none).comes k->j=i/\t=k):QQ6 D l=true:=by
 refine Xb9 hs fun i k hi hk=>?_
 obtain⟨h1,h2⟩:=hr i k hi hk
 refine⟨h1,h2,?_⟩
 unfold ahd
 rw[XX1 i (fun j t hj ht h=>by have:=(one i k j t hi hk (by omega) ht h.1 h.2).1;omega),XD9 k (fun t ht h=>by have:=(one i k i t hi hk hi (by omega) h.1 h.2).2;omega)]
theorem JJ0 {D : List Cr} {l : Int} (hs : QF3 D l = true) (hr : ∀ k s, k < D.length → s < 4 → 1 ≤ (D.getD k Cr.none).arc s ∧ (D.getD k Cr.none).arc s ≤ 2 * (D.length : Int))
    (one:∀ q r,q<4*D.length->r<4*D.length->pd D q=pd D r->q=r):QQ6 D l=true:=by
 refine Kb2 hs hr fun i k j t hi hk hj ht ha hc=>?_
 have e := one (4 * j + t) (4 * i + k) (by omega) (by omega) (by
  unfold pd aAt
  rw[show(4*j+t) / 4=j by omega,show(4*j+t)%4=t by omega,show(4*i+k) / 4=i by omega,show(4*i+k)%4=k by omega,ha,hc])
 omega
def swp (u v z:Nat):Nat:=if z=u then v else if z=v then u else z
theorem Xy3 (u v z:Nat):swp u v (swp u v z)=z:=by
 unfold swp
 by_cases h1:z=u
 · rw[if_pos h1]
   by_cases h2:v=u
   · rw[if_pos h2];omega
   · rw[if_neg h2,if_pos rfl,h1]
 · rw[if_neg h1]
   by_cases h2:z=v
   · rw[if_pos h2,if_pos rfl,h2]
   · rw[if_neg h2,if_neg h1,if_neg h2]
theorem XD8 {u v z w:Nat} (h:swp u v z=swp u v w):z=w:=by rw[<-Xy3 u v z,h,Xy3]
theorem ZK2 (m c o:Int) (X:Cr) {s:Nat} (hs:s<4):(Qb9 m c o X).arc s=ZY1 X m c o s:=by
 match s,hs with
 |0,_=>rfl
 |1,_=>rfl
 |2,_=>rfl
 |3,_=>rfl
theorem XU8 (m c o:Int) (X:Cr) (s:Nat):(Qb9 m c o X).comes s=X.comes s:=rfl
theorem QV8 (C D:List Cr) (x y:Int):(QX4 C D x y).length=C.length+D.length:=by simp[QX4]
theorem Kk6 (C D:List Cr) (x y:Int) {i:Nat} (h:i<C.length):(QX4 C D x y).getD i Cr.none=Qb9 0 x (y+2*(C.length:Int)) (C.getD i Cr.none):=by
 unfold QX4
 rw[List.getD_eq_getElem?_getD,List.getElem?_append_left (by simp;omega),List.getElem?_map,List.getD_eq_getElem?_getD,List.getElem?_eq_getElem h]
 rfl
theorem Kk5 (C D:List Cr) (x y:Int) {j:Nat} (h:j<D.length):(QX4 C D x y).getD (C.length+j) Cr.none=Qb9 (2*(C.length:Int)) y x (D.getD j Cr.none):=by
 unfold QX4
 rw[List.getD_eq_getElem?_getD,List.getElem?_append_right (by simp),List.length_map,show C.length+j-C.length=j by omega,List.getElem?_map,List.getD_eq_getElem?_getD,List.getElem?_eq_getElem h]
 rfl
theorem Zw9 {C:List Cr} {loops:Int} (hm:QQ6 C loops=true) (k s:Nat) (hk:k<C.length) (hs:s<4):(C.getD k Cr.none).arc s=(aAt C k s:Int):=by
 have h:=(QZ8 hm k s hk hs).2.2
 unfold aAt at h ⊢
 omega
theorem XF3 {a x:Nat} {p:Bool} (h:1<=a):mkD a p=2*x↔a=x/\p=true:=by
 unfold mkD
 cases p
 · simp
   omega
 · simp
   omega
set_option linter.unusedSectionVars false
section
variable {C D:List Cr} {l1 l2:Int} (hm:QQ6 C l1=true) (hm':QQ6 D l2=true) {x y:Nat} (hx1:1<=x) (hx2:x<=2*C.length) (hy1:1<=y) (hy2:y<=2*D.length)
include hm hm' hx1 hx2 hy1 hy2
theorem XQ7 {i s:Nat} (hi:i<C.length) (hs:s<4):((QX4 C D x y).getD i Cr.none).arc s=((if aAt C i s=x/\(C.getD i Cr.none).comes s=true then y+2*C.length else aAt C i s:Nat):Int):=by
 rw[Kk6 C D x y hi,ZK2 _ _ _ _ hs]
 unfold ZY1
 rw[Zw9 hm i s hi hs]
 by_cases h:aAt C i s=x/\(C.getD i Cr.none).comes s=true
 · rw[if_pos ⟨by omega,h.2⟩,if_pos h];omega
 · rw[if_neg (fun q=>h ⟨by have:=q.1;omega,q.2⟩),if_neg h];omega
theorem XQ6 {j s:Nat} (hj:j<D.length) (hs:s<4):((QX4 C D x y).getD (C.length+j) Cr.none).arc s=((if aAt D j s=y/\(D.getD j Cr.none).comes s=true then x else aAt D j s+2*C.length:Nat):Int):=by
 rw[Kk5 C D x y hj,ZK2 _ _ _ _ hs]
 unfold ZY1
 rw[Zw9 hm' j s hj hs]
 by_cases h:aAt D j s=y/\(D.getD j Cr.none).comes s=true
 · rw[if_pos ⟨by omega,h.2⟩,if_pos h]
 · rw[if_neg (fun q=>h ⟨by have:=q.1;omega,q.2⟩),if_neg h];omega
theorem QA2 {i s:Nat} (hi:i<C.length) (hs:s<4):pd (QX4 C D x y) (4*i+s)=swp (2*x) (2*y+4*C.length) (pd C (4*i+s)):=by
 have ha:=XQ7 hm hm' hx1 hx2 hy1 hy2 hi hs
 have hb:=QZ8 hm i s hi hs
 unfold pd
 rw[show(4*i+s) / 4=i by omega,show(4*i+s)%4=s by omega,show aAt (QX4 C D x y) i s=(if aAt C i s=x/\(C.getD i Cr.none).comes s=true then y+2*C.length else aAt C i s) by unfold aAt at ha ⊢;rw[ha];exact Int.toNat_natCast _,Kk6 C D x y hi,XU8]
 unfold swp
 by_cases h:aAt C i s=x/\(C.getD i Cr.none).comes s=true
 · rw[if_pos h,if_pos ((XF3 hb.2.2.1).2 h),h.2]
   simp[mkD]
   omega
 · rw[if_neg h,if_neg (fun q=>h ((XF3 hb.2.2.1).1 q)),if_neg]
   have:=QC2 (p:=(C.getD i Cr.none).comes s) hb.2.2.1 hb.2.2.2
   omega
theorem QA1 {j s:Nat} (hj:j<D.length) (hs:s<4):pd (QX4 C D x y) (4*(C.length+j)+s)=swp (2*x) (2*y+4*C.length) (pd D (4*j+s)+4*C.length):=by
 have ha:=XQ6 hm hm' hx1 hx2 hy1 hy2 hj hs
 have hb:=QZ8 hm' j s hj hs
 unfold pd
 rw[show(4*(C.length+j)+s) / 4=C.length+j by omega,show(4*(C.length+j)+s)%4=s by omega,show(4*j+s) / 4=j by omega,show(4*j+s)%4=s by omega,show aAt (QX4 C D x y) (C.length+j) s=(if aAt D j s=y/\(D.getD j Cr.none).comes s=true then x else aAt D j s+2*C.length) by unfold aAt at ha ⊢;rw[ha];exact Int.toNat_natCast _,Kk5 C D x y hj,XU8]
 have hl:=QC2 (p:=(D.getD j Cr.none).comes s) hb.2.2.1 hb.2.2.2
 unfold swp
 rw[if_neg (show ¬ mkD (aAt D j s) ((D.getD j Cr.none).comes s)+4*C.length=2*x by omega)]
 by_cases h:aAt D j s=y/\(D.getD j Cr.none).comes s=true
 · rw[if_pos h,if_pos (by rw[(XF3 hb.2.2.1).2 h]),h.2]
   simp[mkD]
 · rw[if_neg h,if_neg (fun q=>h ((XF3 (x:=y) hb.2.2.1).1 (by omega)))]
   have h1:=hb.2.2.1
   unfold mkD
   split<;>omega
theorem Kv8 {l:Int} (hs:QF3 (QX4 C D x y) l=true):QQ6 (QX4 C D x y) l=true:=by
 have hlen:=QV8 C D (x:Int) (y:Int)
 have place:∀ q,q<4*(QX4 C D x y).length->(∃ i s,i<C.length/\s<4/\q=4*i+s)∨∃ j s,j<D.length/\s<4/\q=4*(C.length+j)+s:=fun q hq=>by
  rw[hlen]at hq
  by_cases h:q<4*C.length
  · exact Or.inl ⟨q / 4,q%4,by omega,by omega,by omega⟩
  · exact Or.inr ⟨q / 4-C.length,q%4,by omega,by omega,by omega⟩
 refine JJ0 hs (fun k s hk hs'=>?_) fun q r hq hr e=>?_
 · rw[hlen]at hk ⊢
   by_cases h:k<C.length
   · rw[XQ7 hm hm' hx1 hx2 hy1 hy2 h hs']
     have hb:=QZ8 hm k s h hs'
     split<;>omega
   · obtain⟨j,rfl⟩:∃ j,k=C.length+j:=⟨k - C.length,by omega⟩
     rw[XQ6 hm hm' hx1 hx2 hy1 hy2 (show j<D.length by omega) hs']
     have hb:=QZ8 hm' j s (by omega) hs'
     split<;>omega
 · have injC:=(ZX0 hm).inj
   have injD:=(ZX0 hm').inj
   rcases place q hq with⟨i,s,hi,hs1,rfl⟩|⟨i,s,hi,hs1,rfl⟩<;>rcases place r hr with⟨j,t,hj,ht,rfl⟩|⟨j,t,hj,ht,rfl⟩
   · rw[QA2 hm hm' hx1 hx2 hy1 hy2 hi hs1,QA2 hm hm' hx1 hx2 hy1 hy2 hj ht]at e
     have e2:=XD8 e
     exact injC _ _ (by omega) (by omega) (by show pd C _-1=pd C _-1;rw[e2])
   · rw[QA2 hm hm' hx1 hx2 hy1 hy2 hi hs1,QA1 hm hm' hx1 hx2 hy1 hy2 hj ht]at e
     have e2:=XD8 e
     have h1:=(QF9 hm i s hi hs1).2.2.2
     have h2:=(QF9 hm' j t hj ht).2.2.2
     omega
   · rw[QA1 hm hm' hx1 hx2 hy1 hy2 hi hs1,QA2 hm hm' hx1 hx2 hy1 hy2 hj ht]at e
     have e2:=XD8 e
     have h1:=(QF9 hm' i s hi hs1).2.2.2
     have h2:=(QF9 hm j t hj ht).2.2.2
     omega
   · rw[QA1 hm hm' hx1 hx2 hy1 hy2 hi hs1,QA1 hm hm' hx1 hx2 hy1 hy2 hj ht]at e
     have e2:=XD8 e
     have:=injD (4*i+s) (4*j+t) (by omega) (by omega) (by show pd D _-1=pd D _-1;congr 1;omega)
     omega
end
end Go.Proofs.YtookanmeflbdlaaGreatDoor
/- Plain mathematics: a sum of two diagrams: its faces, by two trades. -/
namespace Go.Proofs.YtookanmeflbdlaaGreatDoor
theorem Xu4 {j:Nat} (h:1<=j):al j=if j%2=1 then j+1 else j-1:=by
 by_cases e:j%2=1
 · obtain⟨i,rfl⟩:∃ i,j=2*i+1:=⟨j / 2,by omega⟩
   rw[ZZ5,if_pos e]
 · obtain⟨i,rfl⟩:∃ i,j=2*i+2:=⟨j / 2 - 1,by omega⟩
   rw[XG1,if_neg e]
   omega
theorem KH6 {j m:Nat} (h:1<=j):al (j+4*m)=al j+4*m:=by
 rw[Xu4 h,Xu4 (by omega),show(j+4*m)%2=j%2 by omega]
 split<;>omega
theorem JW4 {x y m w:Nat} (hx:1<=x) (hy:1<=y) (hw:1<=w):al (swp (2*x) (2*y+4*m) (al w))=swp (2*x-1) (2*y-1+4*m) w:=by
 have e:=Xu4 hw
 have h1:1<=al w:=by rw[e];split<;>omega
 by_cases c1:w=2*x-1
 · have:al w=2*x:=by rw[e,if_pos (by omega)];omega
   unfold swp
   rw[if_pos this,if_pos c1,Xu4 (by omega),if_neg (by omega)]
   omega
 · by_cases c2:w=2*y-1+4*m
   · have h2:al w=2*y+4*m:=by rw[e,if_pos (by omega)];omega
     unfold swp
     rw[if_neg c1,if_pos c2]
     by_cases c3:al w=2*x
     · omega
     · rw[if_neg c3,if_pos h2,Xu4 (by omega),if_neg (by omega)]
   · have h3 : al w ≠ 2 * x := fun q => by
       have:=Xu5 hw
       rw[q,Xu4 (by omega),if_neg (by omega)]at this
       omega
     have h4:al w≠2*y+4*m:=fun q=>by
      have:=Xu5 hw
      rw[q,Xu4 (by omega),if_neg (by omega)]at this
      omega
     unfold swp
     rw[if_neg c1,if_neg c2,if_neg h3,if_neg h4,Xu5 hw]
theorem XF0 {C:List Cr} {loops:Int} (hm:QQ6 C loops=true) {z:Nat} (h1:1<=z) (h2:z<=4*C.length):∃ k s,k<C.length/\s<4/\z=pd C (4*k+s):=by
 obtain⟨q,hq,e⟩:=(ZX0 hm).onto (y:=z - 1) (by omega)
 have h:=QF9 hm (q / 4) (q%4) (by omega) (by omega)
 refine⟨q / 4,q%4,by omega,by omega,?_⟩
 rw[show 4*(q / 4)+q%4=q by omega]at h ⊢
 have e':pd C q-1=z-1:=e
 omega
def fB (C D:List Cr) (w:Nat):Nat:=if w<=4*C.length then fd C w else fd D (w-4*C.length)+4*C.length
theorem JV2 {C D : List Cr} {l1 l2 l : Int} (hm : QQ6 C l1 = true) (hm' : QQ6 D l2 = true) {x y : Nat} (hx1 : 1 ≤ x) (hx2 : x ≤ 2 * C.length) (hy1 : 1 ≤ y) (hy2 : y ≤ 2 * D.length) (hT : QQ6 (QX4 C D x y) l = true) {w : Nat} (hw1 : 1 ≤ w) (hw2 : w ≤ 4 * (C.length + D.length)) :
    fd (QX4 C D x y) w=swp (2*x) (2*y+4*C.length) (fB C D (swp (2*x-1) (2*y-1+4*C.length) w)):=by
 have hlen:=QV8 C D (x:Int) (y:Int)
 obtain⟨a1,a2,-,-⟩:=Qd2 (n:=C.length+D.length) hw1 hw2
 have hz:1<=swp (2*x) (2*y+4*C.length) (al w)/\swp (2*x) (2*y+4*C.length) (al w)<=4*(C.length+D.length):=by
  unfold swp
  split
  · omega
  · split<;>omega
 have hz2:=JW4 (m:=C.length) hx1 hy1 hw1
 have hz3:swp (2*x) (2*y+4*C.length) (swp (2*x) (2*y+4*C.length) (al w))=al w:=Xy3 _ _ _
 generalize swp (2*x) (2*y+4*C.length) (al w)=z at hz hz2 hz3
 rw[<-hz2]
 by_cases h:z<=4*C.length
 · obtain⟨k,s,hk,hs,rfl⟩:=XF0 hm hz.1 h
   have h1:=Xq5 hT k s (by omega) hs
   rw[QA2 hm hm' hx1 hx2 hy1 hy2 hk hs,hz3,Xu5 hw1,QA2 hm hm' hx1 hx2 hy1 hy2 hk (Nat.mod_lt _ (by decide)),<-Xq5 hm k s hk hs]at h1
   obtain⟨b1,b2,-,-⟩:=Qd2 hz.1 h
   rw[h1]
   unfold fB
   rw[if_pos b2]
 · obtain⟨z',rfl⟩:∃ z',z=z'+4*C.length:=⟨z - 4*C.length,by omega⟩
   obtain⟨k,s,hk,hs,rfl⟩:=XF0 hm' (z:=z') (by omega) (by omega)
   have h1:=Xq5 hT (C.length+k) s (by omega) hs
   rw[QA1 hm hm' hx1 hx2 hy1 hy2 hk hs,hz3,Xu5 hw1,QA1 hm hm' hx1 hx2 hy1 hy2 hk (Nat.mod_lt _ (by decide)),<-Xq5 hm' k s hk hs]at h1
   rw[h1,KH6 (by omega)]
   obtain⟨b1,b2,-,-⟩:=Qd2 (n:=D.length) (j:=pd D (4*k+s)) (by omega) (by omega)
   unfold fB
   rw[if_neg (by omega),show al (pd D (4*k+s))+4*C.length-4*C.length=al (pd D (4*k+s)) by omega]
theorem QG5 {C D:List Cr} {l1 l2:Int} (hm:QQ6 C l1=true) (hm':QQ6 D l2=true) (a:Nat) (h1:1<=a) (h2:a<=4*(C.length+D.length)):1<=fB C D a/\fB C D a<=4*(C.length+D.length)/\(a<=4*C.length↔fB C D a<=4*C.length):=by
 unfold fB
 by_cases h:a<=4*C.length
 · rw[if_pos h]
   have:=QZ9 hm a h1 h
   exact⟨this.1,by omega,⟨fun _=>this.2,fun _=>h⟩⟩
 · rw[if_neg h]
   have:=QZ9 hm' (a-4*C.length) (by omega) (by omega)
   exact⟨by omega,by omega,⟨fun q=>absurd q h,fun q=>by omega⟩⟩
theorem JV3 {C D:List Cr} {l1 l2:Int} (hm:QQ6 C l1=true) (hm':QQ6 D l2=true) (a b:Nat) (h1:1<=a) (h2:a<=4*(C.length+D.length)) (h3:1<=b) (h4:b<=4*(C.length+D.length)) (e:fB C D a=fB C D b):a=b:=by
 have ca:=(QG5 hm hm' a h1 h2).2.2
 have cb:=(QG5 hm hm' b h3 h4).2.2
 by_cases h:a<=4*C.length
 · have hb:b<=4*C.length:=cb.2 (e▸ca.1 h)
   unfold fB at e
   rw[if_pos h,if_pos hb]at e
   exact Qj5 hm a b h1 h h3 hb e
 · have hb:¬ b<=4*C.length:=fun q=>h (ca.2 (e▸cb.1 q))
   unfold fB at e
   rw[if_neg h,if_neg hb]at e
   have:=Qj5 hm' (a-4*C.length) (b-4*C.length) (by omega) (by omega) (by omega) (by omega) (by omega)
   omega
theorem Kx6 {C D:List Cr} {l1 l2:Int} (hm:QQ6 C l1=true) (hm':QQ6 D l2=true):Bij (up0 (fB C D)) (4*(C.length+D.length)+1):=
 Qk4 (fun a h1 h2=>⟨(QG5 hm hm' a h1 h2).1,(QG5 hm hm' a h1 h2).2.1⟩) (fun a b h1 h2 h3 h4 e=>JV3 hm hm' a b h1 h2 h3 h4 e)
theorem Qf9 {E:List (Nat×Nat)} {n:Nat} {W:List Nat} (h:Least E n W) {v:Nat} (hv:v<n):W.getD v 0=v↔∀ u,Con E v u->v<=u:=by
 constructor
 · intro e u hu
   have:=(h.2 v hv).2 u hu
   omega
 · intro q
   have h1:=q _ (h.2 v hv).1
   have h2:=h.le hv
   omega
theorem XH9 {C D:List Cr} {l1 l2:Int} (hm:QQ6 C l1=true) (hm':QQ6 D l2=true) {v u:Nat} (hv:v<=4*C.length):Con (eds (up0 (fB C D)) (4*(C.length+D.length)+1)) v u↔u<=4*C.length/\Con (eds (up0 (fd C)) (4*C.length+1)) v u:=by
 have e:∀ i,i<=4*C.length->up0 (fB C D) i=up0 (fd C) i:=fun i hi=>by
  by_cases h0:i=0
  · rw[h0];rfl
  · rw[QZ2 _ (by omega),QZ2 _ (by omega)]
    unfold fB
    rw[if_pos hi]
 have hB:=Qk4 (QZ9 hm) (fun a b h1 h2 h3 h4 e=>Qj5 hm a b h1 h2 h3 h4 e)
 constructor
 · intro hc
   refine hc (fun z=>z<=4*C.length/\Con (eds (up0 (fd C)) (4*C.length+1)) v z) (closed_eds.2 fun i hi=>?_) ⟨hv,Con.refl _ _⟩
   by_cases h:i<=4*C.length
   · rw[e i h]
     have h1:=hB.lt i (by omega)
     have h2:=XD4 (f:=up0 (fd C)) (M:=4*C.length+1) (x:=i) (by omega)
     exact⟨fun q=>⟨by omega,q.2.trans h2⟩,fun q=>⟨h,q.2.trans h2.symm⟩⟩
   · rw[QZ2 _ (by omega)]
     have:=(QG5 hm hm' i (by omega) (by omega)).2.2
     exact⟨fun q=>absurd q.1 h,fun q=>absurd (this.2 q.1) h⟩
 · rintro⟨-,hc⟩ S hS hSv
   refine hc S (closed_eds.2 fun i hi=>?_) hSv
   have:=closed_eds.1 hS i (by omega)
   rw[e i (by omega)]at this
   exact this
theorem Xj2 {C D:List Cr} {l1 l2:Int} (hm:QQ6 C l1=true) (hm':QQ6 D l2=true) {v u:Nat} (hv1:1<=v):Con (eds (up0 (fB C D)) (4*(C.length+D.length)+1)) (v+4*C.length) u↔4*C.length<u/\Con (eds (up0 (fd D)) (4*D.length+1)) v (u-4*C.length):=by
 have e:∀ i,1<=i->i<=4*D.length->up0 (fB C D) (i+4*C.length)=up0 (fd D) i+4*C.length:=fun i h1 hi=>by
  rw[QZ2 _ (by omega),QZ2 _ (by omega)]
  unfold fB
  rw[if_neg (by omega),show i+4*C.length-4*C.length=i by omega]
 constructor
 · intro hc
   refine hc (fun z=>4*C.length<z/\Con (eds (up0 (fd D)) (4*D.length+1)) v (z-4*C.length)) (closed_eds.2 fun i hi=>?_) ⟨by omega,by rw[show v+4*C.length-4*C.length=v by omega];exact Con.refl _ _⟩
   by_cases h:i<=4*C.length
   · have h2 : up0 (fB C D) i ≤ 4 * C.length := by
       by_cases h0:i=0
       · rw[h0];exact Nat.zero_le _
       · rw[QZ2 _ (by omega)]
         exact(QG5 hm hm' i (by omega) (by omega)).2.2.1 h
     exact⟨fun q=>absurd q.1 (by omega),fun q=>absurd q.1 (by omega)⟩
   · obtain⟨j,rfl⟩:∃ j,i=j+4*C.length:=⟨i - 4*C.length,by omega⟩
     rw[e j (by omega) (by omega),show j+4*C.length-4*C.length=j by omega,show up0 (fd D) j+4*C.length-4*C.length=up0 (fd D) j by omega]
     have h2:=XD4 (f:=up0 (fd D)) (M:=4*D.length+1) (x:=j) (by omega)
     have h3:1<=up0 (fd D) j:=by rw[QZ2 _ (by omega)];exact(QZ9 hm' j (by omega) (by omega)).1
     exact⟨fun q=>⟨by omega,q.2.trans h2⟩,fun q=>⟨by omega,q.2.trans h2.symm⟩⟩
 · rintro⟨hu,hc⟩ S hS hSv
   have h := hc (fun z => S (z + 4 * C.length)) (closed_eds.2 fun i hi => by
    by_cases h0:i=0
    · rw[h0];exact Iff.rfl
    · have:=closed_eds.1 hS (i+4*C.length) (by omega)
      rw[e i (by omega) (by omega)]at this
      exact this) hSv
   have h':S (u-4*C.length+4*C.length):=h
   rwa [show u-4*C.length+4*C.length=u by omega]at h'
theorem Zv9 (P:Nat->Bool) (a:Nat):∀ b,(List.range (a+b)).countP P=(List.range a).countP P+(List.range b).countP fun i=>P (a+i):=by
 intro b
 induction b with
 |zero=>simp
 |succ b ih=>
  rw[show a+(b+1)=a+b+1 by omega,List.range_succ,List.countP_append,ih,List.range_succ,List.countP_append,List.countP_singleton,List.countP_singleton]
  omega
theorem KF8 {C D:List Cr} {l1 l2:Int} (hm:QQ6 C l1=true) (hm':QQ6 D l2=true) (Q:Nat->Bool):cyN (up0 (fB C D)) (4*(C.length+D.length)+1) Q=cyN (up0 (fd C)) (4*C.length+1) Q+cyN (up0 (fd D)) (4*D.length+1) fun j=>decide (1<=j)&&Q (j+4*C.length):=by
 have hB:=Kx6 hm hm'
 have hC:=Qk4 (QZ9 hm) (fun a b h1 h2 h3 h4 e=>Qj5 hm a b h1 h2 h3 h4 e)
 have hD:=Qk4 (QZ9 hm') (fun a b h1 h2 h3 h4 e=>Qj5 hm' a b h1 h2 h3 h4 e)
 have wB:=QB7 hB.lt
 have wC:=QB7 hC.lt
 have wD:=QB7 hD.lt
 unfold cyN
 rw[XD2,XD2,XD2,show 4*(C.length+D.length)+1=4*C.length+1+4*D.length by omega,Zv9,Xd5 (fun v=>decide ((cyW (up0 (fd D)) (4*D.length+1)).getD v 0=v)&&(decide (1<=v)&&Q (v+4*C.length))) (4*D.length) (by simp)]
 congr 1
 · refine List.countP_congr fun v hv=>?_
   have hv:=List.mem_range.1 hv
   have e:(cyW (up0 (fB C D)) (4*C.length+1+4*D.length)).getD v 0=v↔(cyW (up0 (fd C)) (4*C.length+1)).getD v 0=v:=by
    rw[show 4*C.length+1+4*D.length=4*(C.length+D.length)+1 by omega,Qf9 wB (by omega),Qf9 wC hv]
    constructor
    · intro q u hu
      by_cases h:u<=4*C.length
      · exact q u ((XH9 hm hm' (by omega)).2 ⟨h,hu⟩)
      · omega
    · intro q u hu
      exact q u ((XH9 hm hm' (by omega)).1 hu).2
   rw[decide_eq_decide.2 e]
 · refine List.countP_congr fun i hi=>?_
   have hi:=List.mem_range.1 hi
   have e:(cyW (up0 (fB C D)) (4*C.length+1+4*D.length)).getD (4*C.length+1+i) 0=4*C.length+1+i↔(cyW (up0 (fd D)) (4*D.length+1)).getD (i+1) 0=i+1:=by
    rw[show 4*C.length+1+4*D.length=4*(C.length+D.length)+1 by omega,show 4*C.length+1+i=i+1+4*C.length by omega,Qf9 wB (by omega),Qf9 wD (by omega)]
    constructor
    · intro q u hu
      by_cases h0:u=0
      · rw[h0]at hu
        exact absurd hu (XU3 (QZ9 hm') (by omega))
      · have:=q (u+4*C.length) ((Xj2 hm hm' (by omega)).2 ⟨by omega,by rw[show u+4*C.length-4*C.length=u by omega];exact hu⟩)
        omega
    · intro q u hu
      obtain⟨h1,h2⟩:=(Xj2 hm hm' (by omega)).1 hu
      have:=q _ h2
      omega
   rw[decide_eq_decide.2 e,show i+1+4*C.length=4*C.length+1+i by omega,decide_eq_true (show 1<=i+1 by omega),Bool.true_and]
end Go.Proofs.YtookanmeflbdlaaGreatDoor
/- Plain mathematics: a sum of two diagrams: the two trades, and its pieces. -/
namespace Go.Proofs.YtookanmeflbdlaaGreatDoor
theorem Kj0 {f:Nat->Nat} {M:Nat} {Q:Nat->Bool} (h:∀ z,z<M->Q z=Q (f z)) (x y:Nat) (_hx:x<M) (hc:Con (eds f M) x y):Q x=Q y:=
 hc (fun z=>Q x=Q z) (closed_eds.2 fun z hz=>by rw[h z hz]) rfl
theorem Kd8 {C D : List Cr} {l1 l2 l : Int} (hm : QQ6 C l1 = true) (hm' : QQ6 D l2 = true) {x y : Nat} (hx1 : 1 ≤ x) (hx2 : x ≤ 2 * C.length) (hy1 : 1 ≤ y) (hy2 : y ≤ 2 * D.length) (hT : QQ6 (QX4 C D x y) l = true) (Q : Nat → Bool)
    (hQ:∀ z,1<=z->z<=4*(C.length+D.length)->Q z=Q (fB C D z)) (e1:Q (2*x-1)=Q (2*y-1+4*C.length)) (e2:Q (2*x)=Q (2*y+4*C.length)) (e3:Q (2*x-1)=Q (2*x)):
    (Q (2*x)=true->cyN (up0 (fd (QX4 C D x y))) (4*(C.length+D.length)+1) Q+2=cyN (up0 (fB C D)) (4*(C.length+D.length)+1) Q∨cyN (up0 (fd (QX4 C D x y))) (4*(C.length+D.length)+1) Q=cyN (up0 (fB C D)) (4*(C.length+D.length)+1) Q)/\
    (Q (2*x)=false->cyN (up0 (fd (QX4 C D x y))) (4*(C.length+D.length)+1) Q=cyN (up0 (fB C D)) (4*(C.length+D.length)+1) Q):=by
 have hB:=Kx6 hm hm'
 have hQB:∀ z,z<4*(C.length+D.length)+1->Q z=Q (up0 (fB C D) z):=fun z hz=>by
  by_cases h0:z=0
  · rw[h0];rfl
  · rw[QZ2 _ (by omega)];exact hQ z (by omega) (by omega)
 have la:2*x-1<4*(C.length+D.length)+1:=by omega
 have lb:2*y-1+4*C.length<4*(C.length+D.length)+1:=by omega
 have hn:¬ Con (eds (up0 (fB C D)) (4*(C.length+D.length)+1)) (2*x-1) (2*y-1+4*C.length):=fun q=>by
  have:=((XH9 hm hm' (by omega)).1 q).1
  omega
 have k1:=Qv2 hB Q la lb hn (Kj0 hQB) e1
 have hg:=hB.tr la lb
 have hQg:∀ z,z<4*(C.length+D.length)+1->Q z=Q (tr (up0 (fB C D)) (2*x-1) (2*y-1+4*C.length) z):=fun z hz=>by
  by_cases c1:z=2*x-1
  · rw[c1,Xw9,e1];exact hQB _ lb
  · by_cases c2:z=2*y-1+4*C.length
    · rw[c2,ZC5,<-e1];exact hQB _ la
    · rw[XV4 _ c1 c2];exact hQB _ hz
 have hgw:∀ w,1<=w->tr (up0 (fB C D)) (2*x-1) (2*y-1+4*C.length) w=fB C D (swp (2*x-1) (2*y-1+4*C.length) w):=fun w hw=>by
  unfold tr swp
  by_cases c1:w=2*x-1
  · rw[if_pos c1,if_pos c1,QZ2 _ (by omega)]
  · rw[if_neg c1,if_neg c1]
    by_cases c2:w=2*y-1+4*C.length
    · rw[if_pos c2,if_pos c2,QZ2 _ (by omega)]
    · rw[if_neg c2,if_neg c2,QZ2 _ (by omega)]
 have hg0:tr (up0 (fB C D)) (2*x-1) (2*y-1+4*C.length) 0=0:=by
  rw[XV4 _ (by omega) (by omega)];rfl
 generalize tr (up0 (fB C D)) (2*x-1) (2*y-1+4*C.length)=g at k1 hg hQg hgw hg0
 obtain⟨a,ha,ea⟩:=hg.onto (y:=2*x) (by omega)
 obtain⟨b,hb,eb⟩:=hg.onto (y:=2*y+4*C.length) (by omega)
 have hab:a≠b:=fun q=>by rw[q,eb]at ea;omega
 have hcong:∀ w,w<4*(C.length+D.length)+1->tr g a b w=up0 (fd (QX4 C D x y)) w:=fun w hw=>by
  by_cases h0:w=0
  · have a0:w≠a:=fun q=>by rw[<-q,h0,hg0]at ea;omega
    have b0:w≠b:=fun q=>by rw[<-q,h0,hg0]at eb;omega
    rw[XV4 g a0 b0,h0,hg0]
    rfl
  · rw[QZ2 _ (by omega),JV2 hm hm' hx1 hx2 hy1 hy2 hT (by omega) (by omega),<-hgw w (by omega)]
    unfold swp
    by_cases c1:w=a
    · rw[c1,Xw9,ea,eb,if_pos rfl]
    · by_cases c2:w=b
      · rw[c2,ZC5,ea,eb,if_neg (by omega),if_pos rfl]
      · rw[XV4 g c1 c2,if_neg (fun q=>c1 (hg.inj _ _ hw ha (by rw[q,ea]))),if_neg (fun q=>c2 (hg.inj _ _ hw hb (by rw[q,eb])))]
 have qa:Q a=Q (2*x):=by rw[hQg a ha,ea]
 have qb:Q b=Q (2*x):=by rw[hQg b hb,eb,e2]
 rw[<-Qq5 hcong]
 rw[e3]at k1
 by_cases hc:Con (eds g (4*(C.length+D.length)+1)) a b
 · have k2:=XH6 hg Q ha hb hab hc (Kj0 hQg)
   rw[qa]at k2
   refine⟨fun q=>Or.inr ?_,fun q=>?_⟩
   · rw[if_pos q]at k1 k2;omega
   · rw[if_neg (by rw[q];decide)]at k1 k2;omega
 · have k2:=Qv2 hg Q ha hb hc (Kj0 hQg) (by rw[qa,qb])
   rw[qa]at k2
   refine⟨fun q=>Or.inl ?_,fun q=>?_⟩
   · rw[if_pos q]at k1 k2;omega
   · rw[if_neg (by rw[q];decide)]at k1 k2;omega
theorem ZX5 {C D : List Cr} {l1 l2 l : Int} (hm : QQ6 C l1 = true) (hm' : QQ6 D l2 = true) {x y : Nat} (hx1 : 1 ≤ x) (hx2 : x ≤ 2 * C.length) (hy1 : 1 ≤ y) (hy2 : y ≤ 2 * D.length) (hT : QQ6 (QX4 C D x y) l = true) {w : Nat} :
    (1<=w->w<=4*C.length->lvC (QX4 C D x y) (swp (2*x) (2*y+4*C.length) w)=lvC C w)/\
    (1<=w->w<=4*D.length->lvC (QX4 C D x y) (swp (2*x) (2*y+4*C.length) (w+4*C.length))=C.length+lvC D w):=by
 have hlen:=QV8 C D (x:Int) (y:Int)
 constructor
 · intro h1 h2
   obtain⟨k,s,hk,hs,rfl⟩:=XF0 hm h1 h2
   rw[<-QA2 hm hm' hx1 hx2 hy1 hy2 hk hs,(QF9 hT k s (by omega) hs).2.1,(QF9 hm k s hk hs).2.1]
 · intro h1 h2
   obtain⟨k,s,hk,hs,rfl⟩:=XF0 hm' h1 h2
   rw[<-QA1 hm hm' hx1 hx2 hy1 hy2 hk hs,(QF9 hT (C.length+k) s (by omega) hs).2.1,(QF9 hm' k s hk hs).2.1]
theorem closed_arcs {C:List Cr} {S:Nat->Prop}:Closed (QV5 C) S↔∀ a,1<=a->a<=2*C.length->(S (lvC C (2*a))↔S (lvC C (2*a-1))):=by
 have e:∀ i,arE C i=(lvC C (2*(i+1)),lvC C (2*(i+1)-1)):=fun i=>by
  obtain⟨v1,v2⟩:=Zx1 C i
  rw[show 2*(i+1)=2*i+2 by omega,show 2*i+2-1=2*i+1 by omega,v1,v2]
 constructor
 · intro h a h1 h2
   have:=h (arE C (a-1)) (List.mem_map.2 ⟨a-1,List.mem_range.2 (by omega),rfl⟩)
   rw[e,show a-1+1=a by omega]at this
   exact this
 · intro h d hd
   obtain⟨i,hi,rfl⟩:=List.mem_map.1 hd
   have:=h (i+1) (by omega) (by have:=List.mem_range.1 hi;omega)
   show S (arE C i).1↔S (arE C i).2
   rw[e]
   exact this
theorem JQ5 {C:List Cr} {loops:Int} (hm:QQ6 C loops=true) {a:Nat} (h1:1<=a) (h2:a<=2*C.length):lvC C (2*nx C a-1)=lvC C (2*a):=by
 obtain⟨-,p2,p3,p4,p5⟩:=ZQ5 hm a h1 h2
 obtain⟨a1,a2,a3⟩:=ZX3 hm a h1 h2
 have ca:=Qb2 (C.getD (toC C a) Cr.none) (toS C a) p3
 rw[p5]at ca
 have e1:=QC9 hm _ a2 a3 _ _ _ p2 (Nat.mod_lt _ (by decide)) a1 ca
 have e2:lvC C (2*nx C a-1)=enC C (nx C a) false:=by
  unfold lvC
  rw[show dA (2*nx C a-1)=nx C a by unfold dA;omega,show dB (2*nx C a-1)=false by unfold dB;exact decide_eq_false (by omega)]
 have e3:lvC C (2*a)=toC C a:=by
  unfold lvC
  rw[show dA (2*a)=a by unfold dA;omega,show dB (2*a)=true by unfold dB;exact decide_eq_true (by omega)]
  rfl
 rw[e2,e3]
 unfold enC
 have e4:QG0 C (nx C a) false C.length=((toC C a:Int),(((toS C a+2)%4:Nat):Int)):=e1
 rw[e4]
 exact Int.toNat_natCast _
theorem Xk2 {C:List Cr} {loops:Int} (hm:QQ6 C loops=true) {y:Nat} (h1:1<=y) (h2:y<=2*C.length) {S:Nat->Prop} (hS:∀ a,1<=a->a<=2*C.length->a≠y->(S (lvC C (2*a))↔S (lvC C (2*a-1)))) (h:S (lvC C (2*y))):S (lvC C (2*y-1)):=by
 have hB:=Qk4 (Xk1 hm) (fun a b p q r s t=>JK9 hm a b p q r s t)
 obtain⟨p,p0,hp⟩:=period hB (x:=y) (by omega)
 have hpos:∀ i,1<=it (up0 (nx C)) i y/\it (up0 (nx C)) i y<=2*C.length:=by
  intro i
  induction i with
  |zero=>exact⟨h1,h2⟩
  |succ i ih=>
   show 1<=up0 (nx C) (it (up0 (nx C)) i y)/\up0 (nx C) (it (up0 (nx C)) i y)<=2*C.length
   rw[QZ2 _ ih.1]
   exact Xk1 hm _ ih.1 ih.2
 have hs:∀ i,it (up0 (nx C)) (i+1) y=nx C (it (up0 (nx C)) i y):=fun i=>QZ2 _ (hpos i).1
 have key:∀ i,S (lvC C (2*y-1))∨S (lvC C (2*it (up0 (nx C)) i y)):=by
  intro i
  induction i with
  |zero=>exact Or.inr h
  |succ i ih=>
   rcases ih with ih|ih
   · exact Or.inl ih
   · rw[<-JQ5 hm (hpos i).1 (hpos i).2,<-hs i]at ih
     by_cases e:it (up0 (nx C)) (i+1) y=y
     · rw[e]at ih;exact Or.inl ih
     · exact Or.inr ((hS _ (hpos (i+1)).1 (hpos (i+1)).2 e).2 ih)
 rcases key (p - 1) with k|k
 · exact k
 · rw[<-JQ5 hm (hpos _).1 (hpos _).2,<-hs,show p-1+1=p by omega,hp]at k
   exact k
end Go.Proofs.YtookanmeflbdlaaGreatDoor
