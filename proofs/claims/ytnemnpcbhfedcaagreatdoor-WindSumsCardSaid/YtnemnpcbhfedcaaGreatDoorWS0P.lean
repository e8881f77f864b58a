/- Several texts of the proof, one behind the other. -/
import Derived.Test.YtnemnpcbhfedcaaGreatDoorCySP
import Derived.Test.YtnemnpcbhfedcaaGreatDoorF1P
import Derived.Test.YtnemnpcbhfedcaaGreatDoorSgP
import Derived.Test.YtnemnpcbhfedcaaGreatDoorF7P
/- Two renamings beside each other, and tied: their rings. -/
namespace Go.Proofs.YtnemnpcbhfedcaaGreatDoor
structure Gd (f:Nat->Nat) (n:Nat):Prop where
 closed:∀ a,1<=a->a<=n->1<=f a/\f a<=n
 inj:∀ a b,1<=a->a<=n->1<=b->b<=n->f a=f b->a=b
theorem Gd.bij {f:Nat->Nat} {n:Nat} (h:Gd f n):Bij (up0 f) (n+1):=bij_up0 h.closed h.inj
def gB (f:Nat->Nat) (n:Nat) (g:Nat->Nat) (w:Nat):Nat:=if w<=n then f w else g (w-n)+n
theorem gB_closed {f g:Nat->Nat} {n m:Nat} (hm:Gd f n) (hm':Gd g m) (a:Nat) (h1:1<=a) (h2:a<=(n+m)):1<=gB f n g a/\gB f n g a<=(n+m)/\(a<=n↔gB f n g a<=n):=by
 unfold gB
 by_cases h:a<=n
 · rw[if_pos h]
   have:=hm.closed a h1 h
   exact⟨this.1,by omega,⟨fun _=>this.2,fun _=>h⟩⟩
 · rw[if_neg h]
   have:=hm'.closed (a-n) (by omega) (by omega)
   exact⟨by omega,by omega,⟨fun q=>absurd q h,fun q=>by omega⟩⟩
theorem gB_inj {f g:Nat->Nat} {n m:Nat} (hm:Gd f n) (hm':Gd g m) (a b:Nat) (h1:1<=a) (h2:a<=(n+m)) (h3:1<=b) (h4:b<=(n+m)) (e:gB f n g a=gB f n g b):a=b:=by
 have ca:=(gB_closed hm hm' a h1 h2).2.2
 have cb:=(gB_closed hm hm' b h3 h4).2.2
 by_cases h:a<=n
 · have hb:b<=n:=cb.2 (e▸ca.1 h)
   unfold gB at e
   rw[if_pos h,if_pos hb]at e
   exact hm.inj a b h1 h h3 hb e
 · have hb:¬ b<=n:=fun q=>h (ca.2 (e▸cb.1 q))
   unfold gB at e
   rw[if_neg h,if_neg hb]at e
   have:=hm'.inj (a-n) (b-n) (by omega) (by omega) (by omega) (by omega) (by omega)
   omega
theorem gB_bij {f g:Nat->Nat} {n m:Nat} (hm:Gd f n) (hm':Gd g m):Bij (up0 (gB f n g)) ((n+m)+1):=
 bij_up0 (fun a h1 h2=>⟨(gB_closed hm hm' a h1 h2).1,(gB_closed hm hm' a h1 h2).2.1⟩) (fun a b h1 h2 h3 h4 e=>gB_inj hm hm' a b h1 h2 h3 h4 e)
theorem conB_left {f g:Nat->Nat} {n m:Nat} (hm:Gd f n) (hm':Gd g m) {v u:Nat} (hv:v<=n):Con (eds (up0 (gB f n g)) ((n+m)+1)) v u↔u<=n/\Con (eds (up0 (f)) (n+1)) v u:=by
 have e:∀ i,i<=n->up0 (gB f n g) i=up0 (f) i:=fun i hi=>by
  by_cases h0:i=0
  · rw[h0];rfl
  · rw[up0_pos _ (by omega),up0_pos _ (by omega)]
    unfold gB
    rw[if_pos hi]
 have hB:=bij_up0 (hm.closed) (fun a b h1 h2 h3 h4 e=>hm.inj a b h1 h2 h3 h4 e)
 constructor
 · intro hc
   refine hc (fun z=>z<=n/\Con (eds (up0 (f)) (n+1)) v z) (closed_eds.2 fun i hi=>?_) ⟨hv,Con.refl _ _⟩
   by_cases h:i<=n
   · rw[e i h]
     have h1:=hB.lt i (by omega)
     have h2:=con_f (f:=up0 (f)) (M:=n+1) (x:=i) (by omega)
     exact⟨fun q=>⟨by omega,q.2.trans h2⟩,fun q=>⟨h,q.2.trans h2.symm⟩⟩
   · rw[up0_pos _ (by omega)]
     have:=(gB_closed hm hm' i (by omega) (by omega)).2.2
     exact⟨fun q=>absurd q.1 h,fun q=>absurd (this.2 q.1) h⟩
 · rintro⟨-,hc⟩ S hS hSv
   refine hc S (closed_eds.2 fun i hi=>?_) hSv
   have:=closed_eds.1 hS i (by omega)
   rw[e i (by omega)]at this
   exact this
theorem conB_right {f g:Nat->Nat} {n m:Nat} (hm:Gd f n) (hm':Gd g m) {v u:Nat} (hv1:1<=v):Con (eds (up0 (gB f n g)) ((n+m)+1)) (v+n) u↔n<u/\Con (eds (up0 (g)) (m+1)) v (u-n):=by
 have e:∀ i,1<=i->i<=m->up0 (gB f n g) (i+n)=up0 (g) i+n:=fun i h1 hi=>by
  rw[up0_pos _ (by omega),up0_pos _ (by omega)]
  unfold gB
  rw[if_neg (by omega),show i+n-n=i by omega]
 constructor
 · intro hc
   refine hc (fun z=>n<z/\Con (eds (up0 (g)) (m+1)) v (z-n)) (closed_eds.2 fun i hi=>?_) ⟨by omega,by rw[show v+n-n=v by omega];exact Con.refl _ _⟩
   by_cases h:i<=n
   · have h2 : up0 (gB f n g) i ≤ n := by
       by_cases h0:i=0
       · rw[h0];exact Nat.zero_le _
       · rw[up0_pos _ (by omega)]
         exact(gB_closed hm hm' i (by omega) (by omega)).2.2.1 h
     exact⟨fun q=>absurd q.1 (by omega),fun q=>absurd q.1 (by omega)⟩
   · obtain⟨j,rfl⟩:∃ j,i=j+n:=⟨i - n,by omega⟩
     rw[e j (by omega) (by omega),show j+n-n=j by omega,show up0 (g) j+n-n=up0 (g) j by omega]
     have h2:=con_f (f:=up0 (g)) (M:=m+1) (x:=j) (by omega)
     have h3:1<=up0 (g) j:=by rw[up0_pos _ (by omega)];exact(hm'.closed j (by omega) (by omega)).1
     exact⟨fun q=>⟨by omega,q.2.trans h2⟩,fun q=>⟨by omega,q.2.trans h2.symm⟩⟩
 · rintro⟨hu,hc⟩ S hS hSv
   have h := hc (fun z => S (z + n)) (closed_eds.2 fun i hi => by
    by_cases h0:i=0
    · rw[h0];exact Iff.rfl
    · have:=closed_eds.1 hS (i+n) (by omega)
      rw[e i (by omega) (by omega)]at this
      exact this) hSv
   have h':S (u-n+n):=h
   rwa [show u-n+n=u by omega]at h'
theorem cyB_both {f g:Nat->Nat} {n m:Nat} (hm:Gd f n) (hm':Gd g m) (Q:Nat->Bool):cyN (up0 (gB f n g)) ((n+m)+1) Q=cyN (up0 (f)) (n+1) Q+cyN (up0 (g)) (m+1) fun j=>decide (1<=j)&&Q (j+n):=by
 have hB:=gB_bij hm hm'
 have hC:=bij_up0 (hm.closed) (fun a b h1 h2 h3 h4 e=>hm.inj a b h1 h2 h3 h4 e)
 have hD:=bij_up0 (hm'.closed) (fun a b h1 h2 h3 h4 e=>hm'.inj a b h1 h2 h3 h4 e)
 have wB:=cyW_least hB.lt
 have wC:=cyW_least hC.lt
 have wD:=cyW_least hD.lt
 unfold cyN
 rw[rq_eq,rq_eq,rq_eq,show(n+m)+1=n+1+m by omega,cnt_add,cnt_up1 (fun v=>decide ((cyW (up0 (g)) (m+1)).getD v 0=v)&&(decide (1<=v)&&Q (v+n))) (m) (by simp)]
 congr 1
 · refine List.countP_congr fun v hv=>?_
   have hv:=List.mem_range.1 hv
   have e:(cyW (up0 (gB f n g)) (n+1+m)).getD v 0=v↔(cyW (up0 (f)) (n+1)).getD v 0=v:=by
    rw[show n+1+m=(n+m)+1 by omega,root_iff wB (by omega),root_iff wC hv]
    constructor
    · intro q u hu
      by_cases h:u<=n
      · exact q u ((conB_left hm hm' (by omega)).2 ⟨h,hu⟩)
      · omega
    · intro q u hu
      exact q u ((conB_left hm hm' (by omega)).1 hu).2
   rw[decide_eq_decide.2 e]
 · refine List.countP_congr fun i hi=>?_
   have hi:=List.mem_range.1 hi
   have e:(cyW (up0 (gB f n g)) (n+1+m)).getD (n+1+i) 0=n+1+i↔(cyW (up0 (g)) (m+1)).getD (i+1) 0=i+1:=by
    rw[show n+1+m=(n+m)+1 by omega,show n+1+i=i+1+n by omega,root_iff wB (by omega),root_iff wD (by omega)]
    constructor
    · intro q u hu
      by_cases h0:u=0
      · rw[h0]at hu
        exact absurd hu (zero_apart (hm'.closed) (by omega))
      · have:=q (u+n) ((conB_right hm hm' (by omega)).2 ⟨by omega,by rw[show u+n-n=u by omega];exact hu⟩)
        omega
    · intro q u hu
      obtain⟨h1,h2⟩:=(conB_right hm hm' (by omega)).1 hu
      have:=q _ h2
      omega
   rw[decide_eq_decide.2 e,show i+1+n=n+1+i by omega,decide_eq_true (show 1<=i+1 by omega),Bool.true_and]
def posQ (j:Nat):Bool:=decide (1<=j)
theorem walks_len {f:Nat->Nat} {n:Nat} (h:Gd f n):(walksTo f n n).1.length=cyN (up0 f) (n+1) posQ:=by
 rw[<-walks_cyN h.closed h.inj posQ rfl]
 refine(List.countP_eq_length.2 fun l hl=>?_).symm
 exact decide_eq_true ((heads_roots h.closed h.inj n (Nat.le_refl _)).1 l hl).1
theorem pos_q {f:Nat->Nat} {M:Nat} (h0:f 0=0) (h:∀ z,1<=z->z<M->1<=f z):∀ z,z<M->posQ z=posQ (f z):=fun z hz=>by
 by_cases e:z=0
 · rw[e,h0]
 · unfold posQ
   rw[decide_eq_true (show 1<=z by omega),decide_eq_true (h z (by omega) hz)]
theorem rings_tie {f g t : Nat → Nat} {n m x y : Nat} (hf : Gd f n) (hg : Gd g m) (x1 : 1 ≤ x) (x2 : x ≤ n) (y1 : 1 ≤ y) (y2 : y ≤ m) (ht : ∀ a, 1 ≤ a → a ≤ n + m → t a = gB f n g (swp x (y + n) a)) :
    cyN (up0 t) (n+m+1) posQ+1=cyN (up0 f) (n+1) posQ+cyN (up0 g) (m+1) posQ:=by
 have hB:=gB_bij hf hg
 have e : cyN (up0 t) (n + m + 1) posQ = cyN (tr (up0 (gB f n g)) x (y + n)) (n + m + 1) posQ := cyN_congr (fun a ha => by
  by_cases h0:a=0
  · rw[h0,tr_o _ (by omega) (by omega)];rfl
  · rw[up0_pos _ (by omega),ht a (by omega) (by omega)]
    by_cases c1:a=x
    · rw[c1,tr_a,swp_u,up0_pos _ (by omega)]
    · by_cases c2:a=y+n
      · rw[c2,tr_b,swp_v,up0_pos _ (by omega)]
      · rw[tr_o _ c1 c2,swp_o c1 c2,up0_pos _ (by omega)]) _
 have hn:¬ Con (eds (up0 (gB f n g)) (n+m+1)) x (y+n):=fun hc=>by
  have:=((conB_left hf hg (v:=x) (by omega)).1 hc).1
  omega
 have hq:=pos_q (f:=up0 (gB f n g)) (M:=n+m+1) rfl (fun z z1 z2=>by rw[up0_pos _ z1];exact(gB_closed hf hg z z1 (by omega)).1)
 have hj:=cyN_join hB posQ (a:=x) (b:=y+n) (by omega) (by omega) hn (q_con hq) (by unfold posQ;rw[decide_eq_true x1,decide_eq_true (show 1<=y+n by omega)])
 rw[if_pos (show posQ x=true from decide_eq_true x1),<-e,cyB_both hf hg]at hj
 rw[hj]
 congr 1
 unfold cyN
 refine rq_congr _ fun v hv=>?_
 unfold posQ
 by_cases h:1<=v
 · rw[decide_eq_true h,decide_eq_true (show 1<=v+n by omega)];rfl
 · rw[decide_eq_false h];rfl
theorem cyN_odd {f:Nat->Nat} {M a b:Nat} (h:Bij f M) (h0:f 0=0) (hz:∀ z,1<=z->z<M->1<=f z) (a1:1<=a) (a2:a<M) (b1:1<=b) (b2:b<M) (hne:a≠b):(cyN (tr f a b) M posQ+1)%2=cyN f M posQ%2:=by
 have hq:=pos_q h0 hz
 have qa:posQ a=true:=decide_eq_true a1
 have qb:posQ b=true:=decide_eq_true b1
 by_cases hc:Con (eds f M) a b
 · have:=cyN_part h posQ a2 b2 hne hc (q_con hq)
   rw[if_pos qa]at this
   omega
 · have:=cyN_join h posQ a2 b2 hc (q_con hq) (by rw[qa,qb])
   rw[if_pos qa]at this
   omega
end Go.Proofs.YtnemnpcbhfedcaaGreatDoor
/- The renamings of a sum's arcs: straight on, and aside. -/
namespace Go.Proofs.YtnemnpcbhfedcaaGreatDoor
theorem to_of {C:List Cr} {a i k:Nat} (h:endTo C a true C.length=((i:Int),(k:Int))):toC C a=i/\toS C a=k:=by
 unfold toC toS
 rw[h]
 simp
theorem nx_gd {C:List Cr} {l:Int} (hm:mayD C l=true):Gd (nx C) (2*C.length):=⟨nx_closed hm,fun a b h1 h2 h3 h4 e=>nx_inj hm a b h1 h2 h3 h4 e⟩
theorem sx_gd {C:List Cr} {l:Int} (hm:mayD C l=true):Gd (sx C) (2*C.length):=⟨sx_closed hm,fun a b h1 h2 h3 h4 e=>(sx_goes hm).inj a b h1 h2 h3 h4 e⟩
set_option linter.unusedSectionVars false
section
variable {C D:List Cr} {l1 l2 l:Int} (hm:mayD C l1=true) (hm':mayD D l2=true) {x y:Nat} (hx1:1<=x) (hx2:x<=2*C.length) (hy1:1<=y) (hy2:y<=2*D.length) (hT:mayD (tieC C D x y) l=true)
include hm hm' hx1 hx2 hy1 hy2 hT
theorem to_tie_l {a:Nat} (_h1:1<=a) (_h2:a<=2*(C.length+D.length)) {z:Nat} (hz:swp x (y+2*C.length) a=z) (z1:1<=z) (z2:z<=2*C.length):toC (tieC C D x y) a=toC C z/\toS (tieC C D x y) a=toS C z:=by
 have hlen:=tie_len C D (x:Int) (y:Int)
 obtain⟨-,p2,p3,p4,p5⟩:=to_may hm z z1 z2
 have ea:a=if z=x then y+2*C.length else z:=by
  rw[<-hz]
  unfold swp
  by_cases c1:a=x
  · rw[if_pos c1,if_neg (by omega)]
    rw[<-hz]at z2
    unfold swp at z2
    rw[if_pos c1]at z2
    omega
  · by_cases c2:a=y+2*C.length
    · rw[if_neg c1,if_pos c2,if_pos rfl];exact c2
    · rw[if_neg c1,if_neg c2,if_neg c1]
 have e:aAt C (toC C z) (toS C z)=z:=by unfold aAt;rw[p4];simp
 have harc:=tie_arc_l hm hm' hx1 hx2 hy1 hy2 (i:=toC C z) (s:=toS C z) p2 p3
 rw[e,p5]at harc
 have harc2:((tieC C D x y).getD (toC C z) Cr.none).arc (toS C z)=(a:Int):=by
  rw[harc,ea]
  by_cases c:z=x
  · rw[if_pos ⟨c,rfl⟩,if_pos c]
  · rw[if_neg (fun q=>c q.1),if_neg c]
 have hcm:((tieC C D x y).getD (toC C z) Cr.none).comes (toS C z)=true:=by rw[tie_l C D x y p2,tieX_comes];exact p5
 exact to_of (end_one hT a _h1 (by omega) true _ _ (by omega) p3 harc2 hcm)
theorem to_tie_r {a:Nat} (_h1:1<=a) (_h2:a<=2*(C.length+D.length)) {z:Nat} (hz:swp x (y+2*C.length) a=z+2*C.length) (z1:1<=z) (z2:z<=2*D.length):toC (tieC C D x y) a=C.length+toC D z/\toS (tieC C D x y) a=toS D z:=by
 have hlen:=tie_len C D (x:Int) (y:Int)
 obtain⟨-,p2,p3,p4,p5⟩:=to_may hm' z z1 z2
 have ea:a=if z=y then x else z+2*C.length:=by
  unfold swp at hz
  by_cases c1:a=x
  · rw[if_pos c1]at hz
    rw[if_pos (by omega)];exact c1
  · by_cases c2:a=y+2*C.length
    · rw[if_neg c1,if_pos c2]at hz
      omega
    · rw[if_neg c1,if_neg c2]at hz
      rw[if_neg (by omega)];exact hz
 have e:aAt D (toC D z) (toS D z)=z:=by unfold aAt;rw[p4];simp
 have harc:=tie_arc_r hm hm' hx1 hx2 hy1 hy2 (j:=toC D z) (s:=toS D z) p2 p3
 rw[e,p5]at harc
 have harc2:((tieC C D x y).getD (C.length+toC D z) Cr.none).arc (toS D z)=(a:Int):=by
  rw[harc,ea]
  by_cases c:z=y
  · rw[if_pos ⟨c,rfl⟩,if_pos c]
  · rw[if_neg (fun q=>c q.1),if_neg c]
 have hcm:((tieC C D x y).getD (C.length+toC D z) Cr.none).comes (toS D z)=true:=by rw[tie_r C D x y p2,tieX_comes];exact p5
 exact to_of (end_one hT a _h1 (by omega) true _ _ (by omega) p3 harc2 hcm)
theorem swp_range {a:Nat} (h1:1<=a) (h2:a<=2*(C.length+D.length)):1<=swp x (y+2*C.length) a/\swp x (y+2*C.length) a<=2*(C.length+D.length):=by
 unfold swp
 split
 · omega
 · split<;>omega
theorem nx_tie {a:Nat} (h1:1<=a) (h2:a<=2*C.length+2*D.length):nx (tieC C D x y) a=gB (nx C) (2*C.length) (nx D) (swp x (y+2*C.length) a):=by
 obtain⟨r1,r2⟩:=swp_range hm hm' hx1 hx2 hy1 hy2 hT (a:=a) h1 (by omega)
 unfold gB
 obtain⟨z,hz⟩:∃ z,swp x (y+2*C.length) a=z:=⟨_,rfl⟩
 rw[hz]at r1 r2 ⊢
 by_cases c:z<=2*C.length
 · rw[if_pos c]
   obtain⟨t1,t2⟩:=to_tie_l hm hm' hx1 hx2 hy1 hy2 hT h1 (by omega) hz r1 c
   obtain⟨-,p2,p3,p4,p5⟩:=to_may hm z r1 c
   have hc:=comes_over (C.getD (toC C z) Cr.none) (toS C z) p3
   rw[p5]at hc
   have harc:=tie_arc_l hm hm' hx1 hx2 hy1 hy2 (i:=toC C z) (s:=(toS C z+2)%4) p2 (Nat.mod_lt _ (by decide))
   rw[if_neg (fun q=>by rw[hc]at q;exact absurd q.2 (by decide))]at harc
   have ez:nx C z=aAt C (toC C z) ((toS C z+2)%4):=rfl
   have et:nx (tieC C D x y) a=(((tieC C D x y).getD (toC (tieC C D x y) a) Cr.none).arc ((toS (tieC C D x y) a+2)%4)).toNat:=rfl
   rw[et,t1,t2,harc,Int.toNat_natCast,ez]
 · rw[if_neg c]
   obtain⟨u,rfl⟩:∃ u,z=u+2*C.length:=⟨z - 2*C.length,by omega⟩
   rw[show u+2*C.length-2*C.length=u by omega]
   obtain⟨t1,t2⟩:=to_tie_r hm hm' hx1 hx2 hy1 hy2 hT h1 (by omega) hz (by omega) (by omega)
   obtain⟨-,p2,p3,p4,p5⟩:=to_may hm' u (by omega) (by omega)
   have hc:=comes_over (D.getD (toC D u) Cr.none) (toS D u) p3
   rw[p5]at hc
   have harc:=tie_arc_r hm hm' hx1 hx2 hy1 hy2 (j:=toC D u) (s:=(toS D u+2)%4) p2 (Nat.mod_lt _ (by decide))
   rw[if_neg (fun q=>by rw[hc]at q;exact absurd q.2 (by decide))]at harc
   have ez:nx D u=aAt D (toC D u) ((toS D u+2)%4):=rfl
   have et:nx (tieC C D x y) a=(((tieC C D x y).getD (toC (tieC C D x y) a) Cr.none).arc ((toS (tieC C D x y) a+2)%4)).toNat:=rfl
   rw[et,t1,t2,harc,Int.toNat_natCast,ez]
theorem sx_tie {a:Nat} (h1:1<=a) (h2:a<=2*C.length+2*D.length):sx (tieC C D x y) a=gB (sx C) (2*C.length) (sx D) (swp x (y+2*C.length) a):=by
 obtain⟨r1,r2⟩:=swp_range hm hm' hx1 hx2 hy1 hy2 hT (a:=a) h1 (by omega)
 unfold gB
 obtain⟨z,hz⟩:∃ z,swp x (y+2*C.length) a=z:=⟨_,rfl⟩
 rw[hz]at r1 r2 ⊢
 by_cases c:z<=2*C.length
 · rw[if_pos c]
   obtain⟨t1,t2⟩:=to_tie_l hm hm' hx1 hx2 hy1 hy2 hT h1 (by omega) hz r1 c
   obtain⟨-,p2,-,-,-⟩:=to_may hm z r1 c
   have hS:sxS (tieC C D x y) a=sxS C z:=by
    unfold sxS
    rw[t1,t2,tie_l C D x y p2]
    rfl
   have hc:(C.getD (toC C z) Cr.none).comes (sxS C z)=false:=sx_comes z
   have harc:=tie_arc_l hm hm' hx1 hx2 hy1 hy2 (i:=toC C z) (s:=sxS C z) p2 (sxS_lt C z)
   rw[if_neg (fun q=>by rw[hc]at q;exact absurd q.2 (by decide))]at harc
   have ez:sx C z=aAt C (toC C z) (sxS C z):=rfl
   have et:sx (tieC C D x y) a=(((tieC C D x y).getD (toC (tieC C D x y) a) Cr.none).arc (sxS (tieC C D x y) a)).toNat:=rfl
   rw[et,t1,hS,harc,Int.toNat_natCast,ez]
 · rw[if_neg c]
   obtain⟨u,rfl⟩:∃ u,z=u+2*C.length:=⟨z - 2*C.length,by omega⟩
   rw[show u+2*C.length-2*C.length=u by omega]
   obtain⟨t1,t2⟩:=to_tie_r hm hm' hx1 hx2 hy1 hy2 hT h1 (by omega) hz (by omega) (by omega)
   obtain⟨-,p2,-,-,-⟩:=to_may hm' u (by omega) (by omega)
   have hS:sxS (tieC C D x y) a=sxS D u:=by
    unfold sxS
    rw[t1,t2,tie_r C D x y p2]
    rfl
   have hc:(D.getD (toC D u) Cr.none).comes (sxS D u)=false:=sx_comes u
   have harc:=tie_arc_r hm hm' hx1 hx2 hy1 hy2 (j:=toC D u) (s:=sxS D u) p2 (sxS_lt D u)
   rw[if_neg (fun q=>by rw[hc]at q;exact absurd q.2 (by decide))]at harc
   have ez:sx D u=aAt D (toC D u) (sxS D u):=rfl
   have et:sx (tieC C D x y) a=(((tieC C D x y).getD (toC (tieC C D x y) a) Cr.none).arc (sxS (tieC C D x y) a)).toNat:=rfl
   rw[et,t1,hS,harc,Int.toNat_natCast,ez]
theorem walks_tie:(walksM (tieC C D x y)).length+1=(walksM C).length+(walksM D).length:=by
 have hlen:=tie_len C D (x:Int) (y:Int)
 have e1:=walks_len (nx_gd hm)
 have e2:=walks_len (nx_gd hm')
 have e3:=walks_len (nx_gd hT)
 unfold walksM
 rw[e1,e2,e3,hlen,show 2*(C.length+D.length)=2*C.length+2*D.length by omega]
 exact rings_tie (nx_gd hm) (nx_gd hm') hx1 hx2 hy1 hy2 (fun a a1 a2=>nx_tie hm hm' hx1 hx2 hy1 hy2 hT a1 a2)
theorem circ_tie:(circM (tieC C D x y)).length+1=(circM C).length+(circM D).length:=by
 have hlen:=tie_len C D (x:Int) (y:Int)
 have e1:=walks_len (sx_gd hm)
 have e2:=walks_len (sx_gd hm')
 have e3:=walks_len (sx_gd hT)
 unfold circM
 rw[e1,e2,e3,hlen,show 2*(C.length+D.length)=2*C.length+2*D.length by omega]
 exact rings_tie (sx_gd hm) (sx_gd hm') hx1 hx2 hy1 hy2 (fun a a1 a2=>sx_tie hm hm' hx1 hx2 hy1 hy2 hT a1 a2)
end
end Go.Proofs.YtnemnpcbhfedcaaGreatDoor
/- The genus and the writhe of a sum; that it is planar and of one piece. -/
namespace Go.Proofs.YtnemnpcbhfedcaaGreatDoor
def ovA (C:List Cr) (k:Nat):Nat:=aAt C k (if(C.getD k Cr.none).plus=true then 3 else 1)
def unA (C:List Cr) (k:Nat):Nat:=aAt C k 0
def psX (C:List Cr) (k a:Nat):Nat:=if toC C a<k then sx C a else nx C a
theorem in_two {C : List Cr} {l : Int} (hm : mayD C l = true) {k : Nat} (hk : k < C.length) :
    (1<=unA C k/\unA C k<=2*C.length/\toC C (unA C k)=k/\toS C (unA C k)=0)/\(1<=ovA C k/\ovA C k<=2*C.length/\toC C (ovA C k)=k/\toS C (ovA C k)=if(C.getD k Cr.none).plus=true then 3 else 1):=by
 have key:∀ s,s<4->(C.getD k Cr.none).comes s=true->1<=aAt C k s/\aAt C k s<=2*C.length/\toC C (aAt C k s)=k/\toS C (aAt C k s)=s:=fun s hs hc=>by
  obtain⟨-,-,h1,h2⟩:=en_side hm k s hk hs
  obtain⟨t1,t2⟩:=to_of (end_one hm (aAt C k s) h1 h2 true k s hk hs (aAt_int hm k s hk hs) hc)
  exact⟨h1,h2,t1,t2⟩
 refine⟨key 0 (by omega) (by simp[Cr.comes]),key _ ?_ ?_⟩
 · split<;>omega
 · split
   · rename_i h;simp[Cr.comes];simpa using h
   · rename_i h;simp[Cr.comes];simpa using h
theorem at_two {C:List Cr} {l:Int} (hm:mayD C l=true) {a:Nat} (h1:1<=a) (h2:a<=2*C.length):a=unA C (toC C a)∨a=ovA C (toC C a):=by
 obtain⟨-,p2,p3,p4,p5⟩:=to_may hm a h1 h2
 have e:a=aAt C (toC C a) (toS C a):=by unfold aAt;rw[p4];simp
 generalize toS C a=s at p3 p4 p5 e
 generalize toC C a=k at p2 p4 p5 e
 match s,p3,p5,e with
 |0,_,_,e=>exact Or.inl e
 |1,_,q,e=>
  refine Or.inr ?_
  have:(C.getD k Cr.none).plus=false:=by simpa[Cr.comes] using q
  unfold ovA
  rw[this]
  exact e
 |2,_,q,_=>simp[Cr.comes]at q
 |3,_,q,e=>
  refine Or.inr ?_
  have:(C.getD k Cr.none).plus=true:=by simpa[Cr.comes] using q
  unfold ovA
  rw[this]
  exact e
theorem aside_two {C:List Cr} {l:Int} (hm:mayD C l=true) {k:Nat} (hk:k<C.length):sx C (unA C k)=nx C (ovA C k)/\sx C (ovA C k)=nx C (unA C k)/\unA C k≠ovA C k:=by
 obtain⟨⟨-,-,u1,u2⟩,-,-,o1,o2⟩:=in_two hm hk
 have a1:sx C (unA C k)=((C.getD (toC C (unA C k)) Cr.none).arc (sxS C (unA C k))).toNat:=rfl
 have a2:sx C (ovA C k)=((C.getD (toC C (ovA C k)) Cr.none).arc (sxS C (ovA C k))).toNat:=rfl
 have b1:nx C (unA C k)=((C.getD (toC C (unA C k)) Cr.none).arc ((toS C (unA C k)+2)%4)).toNat:=rfl
 have b2:nx C (ovA C k)=((C.getD (toC C (ovA C k)) Cr.none).arc ((toS C (ovA C k)+2)%4)).toNat:=rfl
 have s1:sxS C (unA C k)=if(C.getD k Cr.none).plus=true then 1 else 3:=by unfold sxS;rw[u1,u2];simp
 have s2:sxS C (ovA C k)=2:=by unfold sxS;rw[o2];split<;>simp_all
 refine⟨?_,?_,fun e=>?_⟩
 · rw[a1,b2,u1,o1,s1,o2]
   split<;>rfl
 · rw[a2,b1,u1,o1,s2,u2]
 · rw[e,o2]at u2
   split at u2<;>omega
theorem ps_tr {C:List Cr} {l:Int} (hm:mayD C l=true) {k:Nat} (hk:k<C.length) {a:Nat} (h:a<2*C.length+1):up0 (psX C (k+1)) a=tr (up0 (psX C k)) (unA C k) (ovA C k) a:=by
 obtain⟨⟨u0,u9,u1,-⟩,o0,o9,o1,-⟩:=in_two hm hk
 obtain⟨t1,t2,-⟩:=aside_two hm hk
 by_cases h0:a=0
 · rw[h0,tr_o _ (by omega) (by omega)];rfl
 · by_cases c1:a=unA C k
   · rw[c1,tr_a,up0_pos _ (by omega),up0_pos _ (by omega)]
     unfold psX
     rw[u1,o1,if_pos (by omega),if_neg (by omega),t1]
   · by_cases c2:a=ovA C k
     · rw[c2,tr_b,up0_pos _ (by omega),up0_pos _ (by omega)]
       unfold psX
       rw[u1,o1,if_pos (by omega),if_neg (by omega),t2]
     · rw[tr_o _ c1 c2,up0_pos _ (by omega),up0_pos _ (by omega)]
       have hk2:toC C a≠k:=fun e=>by
        rcases at_two hm (a:=a) (by omega) (by omega) with q|q
        · rw[e]at q;exact c1 q
        · rw[e]at q;exact c2 q
       unfold psX
       by_cases c3:toC C a<k
       · rw[if_pos c3,if_pos (by omega)]
       · rw[if_neg c3,if_neg (by omega)]
theorem ps_odd {C:List Cr} {l:Int} (hm:mayD C l=true):∀ k,k<=C.length->Bij (up0 (psX C k)) (2*C.length+1)/\(cyN (up0 (psX C k)) (2*C.length+1) posQ+k)%2=cyN (up0 (nx C)) (2*C.length+1) posQ%2:=by
 intro k
 induction k with
 |zero=>
  intro _
  have e:psX C 0=nx C:=funext fun a=>by unfold psX;rw[if_neg (Nat.not_lt_zero _)]
  rw[e]
  exact⟨(nx_gd hm).bij,rfl⟩
 |succ k ih=>
  intro hk
  obtain⟨hB,hp⟩:=ih (by omega)
  obtain⟨⟨u0,u9,-,-⟩,o0,o9,-,-⟩:=in_two hm (k:=k) (by omega)
  have hne:=(aside_two hm (k:=k) (by omega)).2.2
  have e:∀ a,a<2*C.length+1->up0 (psX C (k+1)) a=tr (up0 (psX C k)) (unA C k) (ovA C k) a:=fun a ha=>ps_tr hm (by omega) ha
  have hB2:=hB.tr (a:=unA C k) (b:=ovA C k) (by omega) (by omega)
  have hpos:∀ z,1<=z->z<2*C.length+1->1<=up0 (psX C k) z:=fun z z1 z2=>by
   rw[up0_pos _ z1]
   unfold psX
   split
   · exact(sx_closed hm z z1 (by omega)).1
   · exact(nx_closed hm z z1 (by omega)).1
  have ho:=cyN_odd hB rfl hpos u0 (by omega) o0 (by omega) hne
  rw[<-cyN_congr e]at ho
  refine⟨⟨fun x hx=>by rw[e x hx];exact hB2.lt x hx,fun x y hx hy q=>?_⟩,by omega⟩
  rw[e x hx,e y hy]at q
  exact hB2.inj x y hx hy q
theorem genus_even {C:List Cr} {l:Int} (hm:mayD C l=true):(2-((walksM C).length:Int)-((circM C).length:Int)+(C.length:Int))%2=0:=by
 have h:=(ps_odd hm C.length (Nat.le_refl _)).2
 have e1:(walksM C).length=cyN (up0 (nx C)) (2*C.length+1) posQ:=walks_len (nx_gd hm)
 have e2:(circM C).length=cyN (up0 (sx C)) (2*C.length+1) posQ:=walks_len (sx_gd hm)
 have e3 : cyN (up0 (psX C C.length)) (2 * C.length + 1) posQ = cyN (up0 (sx C)) (2 * C.length + 1) posQ := cyN_congr (fun a ha => by
  by_cases h0:a=0
  · rw[h0];rfl
  · rw[up0_pos _ (by omega),up0_pos _ (by omega)]
    unfold psX
    rw[if_pos (to_may hm a (by omega) (by omega)).2.1]) _
 rw[e3,<-e1,<-e2]at h
 omega
theorem tdiv_even {x y:Int} (hx:x%2=0) (hy:y%2=0):(x+y).tdiv 2=x.tdiv 2+y.tdiv 2:=by
 obtain⟨a,rfl⟩:∃ a,x=2*a:=⟨x / 2,by omega⟩
 obtain⟨b,rfl⟩:∃ b,y=2*b:=⟨y / 2,by omega⟩
 rw[show 2*a+2*b=2*(a+b) by omega,Int.mul_tdiv_cancel_left _ (by decide),Int.mul_tdiv_cancel_left _ (by decide),Int.mul_tdiv_cancel_left _ (by decide)]
theorem one_all {C:List Cr} {l:Int} (hm:mayD C l=true) (ho:oneB C l=true):0<C.length/\l=0/\∀ u v,u<C.length->v<C.length->Con (arcE C) u v:=by
 unfold oneB at ho
 simp only[Bool.and_eq_true,decide_eq_true_eq,List.all_eq_true,List.mem_range]at ho
 obtain⟨⟨h1,h2⟩,h3⟩:=ho
 exact⟨h1,h3,fun u v hu hv=>((whoM_least hm).same hu hv).1 (by rw[h2 u hu,h2 v hv])⟩
section
variable {C D:List Cr} {l1 l2 l:Int} (hm:mayD C l1=true) (hm':mayD D l2=true) {x y:Nat} (hx1:1<=x) (hx2:x<=2*C.length) (hy1:1<=y) (hy2:y<=2*D.length) (hT:mayD (tieC C D x y) l=true)
include hm hm' hx1 hx2 hy1 hy2 hT
theorem gN_tie:gN (tieC C D x y)=gN C+gN D:=by
 have hlen:=tie_len C D (x:Int) (y:Int)
 have h1:=walks_tie hm hm' hx1 hx2 hy1 hy2 hT
 have h2:=circ_tie hm hm' hx1 hx2 hy1 hy2 hT
 unfold gN
 rw[<-tdiv_even (genus_even hm) (genus_even hm'),hlen]
 congr 1
 omega
theorem tie_all (ho:oneB C l1=true) (ho':oneB D l2=true):∀ v,v<C.length+D.length->Con (arcE (tieC C D x y)) v (lvC C (2*x)):=fun v hv=>by
 obtain⟨p1,-,p3⟩:=one_all hm ho
 obtain⟨q1,-,q3⟩:=one_all hm' ho'
 have lx:lvC C (2*x)<C.length:=lv_lt hm (by omega) (by omega)
 have ly:lvC D (2*y)<D.length:=lv_lt hm' (by omega) (by omega)
 by_cases h:v<C.length
 · exact conT_C hm hm' hx1 hx2 hy1 hy2 hT (p3 v _ h lx)
 · obtain⟨j,rfl⟩:∃ j,v=C.length+j:=⟨v - C.length,by omega⟩
   exact(conT_D hm hm' hx1 hx2 hy1 hy2 hT (q3 j _ (by omega) ly)).trans (conT_xy hm hm' hx1 hx2 hy1 hy2 hT).symm
theorem tie_one (ho:oneB C l1=true) (ho':oneB D l2=true) (hl:l=0):oneB (tieC C D x y) l=true:=by
 have hlen:=tie_len C D (x:Int) (y:Int)
 obtain⟨p1,-,-⟩:=one_all hm ho
 have ha:=tie_all hm hm' hx1 hx2 hy1 hy2 hT ho ho'
 unfold oneB
 simp only[Bool.and_eq_true,decide_eq_true_eq,List.all_eq_true,List.mem_range]
 refine⟨⟨by omega,fun v hv=>?_⟩,hl⟩
 have:=((whoM_least hT).2 v hv).2 0 ((ha v (by omega)).trans (ha 0 (by omega)).symm)
 omega
theorem tie_flat (ho:oneB C l1=true) (ho':oneB D l2=true) (hp:planarB C=true) (hp':planarB D=true):planarB (tieC C D x y)=true:=by
 have hlen:=tie_len C D (x:Int) (y:Int)
 have lx:lvC C (2*x)<C.length:=lv_lt hm (by omega) (by omega)
 have ly:lvC D (2*y)<D.length:=lv_lt hm' (by omega) (by omega)
 rw[planar_flat hT]
 intro v hv
 obtain⟨j1,j2⟩:=flat_j hm hm' hx1 hx2 hy1 hy2 hT (v:=v) (by omega) (tie_all hm hm' hx1 hx2 hy1 hy2 hT ho ho' v (by omega))
 have h1:=(planar_flat hm).1 hp _ lx
 have h2:=(planar_flat hm').1 hp' _ ly
 have hle:=(flat_le hT hv).1
 unfold flatAt at h1 h2 ⊢
 omega
omit hm hm' hx1 hx2 hy1 hy2 hT in
theorem wr_tie_l:∀ k,k<=C.length->wrM (tieC C D x y) k=wrM C k
 |0,_=>rfl
 |k+1,hk=>by
  unfold wrM
  rw[wr_tie_l k (by omega),tie_l C D x y (by omega)]
  rfl
omit hm hm' hx1 hx2 hy1 hy2 hT in
theorem wr_tie_r:∀ k,k<=D.length->wrM (tieC C D x y) (C.length+k)=wrM C C.length+wrM D k
 |0,_=>by rw[Nat.add_zero,wr_tie_l C.length (Nat.le_refl _)];simp[wrM]
 |k+1,hk=>by
  have e:wrM (tieC C D x y) (C.length+k+1)=wrM (tieC C D x y) (C.length+k)+sgn ((tieC C D x y).getD (C.length+k) Cr.none).plus:=rfl
  rw[<-Nat.add_assoc,e,wr_tie_r k (by omega),tie_r C D x y (by omega)]
  have e2:wrM D (k+1)=wrM D k+sgn (D.getD k Cr.none).plus:=rfl
  rw[e2,Int.add_assoc]
  rfl
omit hm hm' hx1 hx2 hy1 hy2 hT in
theorem wr_tie:wrM (tieC C D x y) (tieC C D x y).length=wrM C C.length+wrM D D.length:=by
 rw[tie_len,wr_tie_r D.length (Nat.le_refl _)]
end
end Go.Proofs.YtnemnpcbhfedcaaGreatDoor
