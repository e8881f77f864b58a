/- Several texts of the proof, one behind the other. -/
import Derived.Test.YtefooihnoajnlaaTK6P
import Derived.Test.YtefooihnoajnlaaJ8mP
import Derived.Test.YtefooihnoajnlaaJ0P
import Derived.Test.YtefooihnoajnlaaW7P
/- What is left of a diagram when crossings are smoothed may be one. -/
namespace Go.Proofs.Ytefooihnoajnlaa
structure Lfs (C:List Cr) (loops:Int) (G L:List Nat) (P:Nat->Bool):Prop where
 hm:mayD C loops=true
 go:Goes C (sx C)
 hL:uniM C (sx C) G=L
 hP:∀ v,1<=v->(P v=true↔thP C G L v)
theorem Lfs.least {C:List Cr} {loops:Int} {G L:List Nat} {P:Nat->Bool} (h:Lfs C loops G L P):Least (uTo C (sx C) G (2*C.length)) (2*C.length+1) L:=h.hL▸uni_least (G:=G) h.go.closed
theorem Lfs.pos {C:List Cr} {loops:Int} {G L:List Nat} {P:Nat->Bool} (h:Lfs C loops G L P) {a:Nat} (h1:1<=a) (h2:a<=2*C.length):1<=L.getD a 0:=
 (h.least.2 a (by omega)).1 (fun z=>1<=z) (fun e he=>by have:=uTo_lt h.go.closed e he;exact⟨fun _=>this.2.1,fun _=>this.1.1⟩) h1
theorem Lfs.at {C : List Cr} {loops : Int} {G L : List Nat} {P : Nat → Bool} (h : Lfs C loops G L P) {k s : Nat} (hk : k < C.length) (hG : k ∉ G) (hs : s < 4) :
    ((lft C G L P).getD (posG G k) Cr.none).arc s=((cntB P (L.getD (aAt C k s) 0)+1:Nat):Int)/\P (L.getD (aAt C k s) 0)=true/\1<=L.getD (aAt C k s) 0/\((lft C G L P).getD (posG G k) Cr.none).comes s=(C.getD k Cr.none).comes s:=by
 obtain⟨-,-,a1,a2⟩:=en_side h.hm k s hk hs
 have hp:=h.pos a1 a2
 have hP:P (L.getD (aAt C k s) 0)=true:=(h.hP _ hp).2 ⟨k,s,hk,hG,hs,rfl⟩
 unfold lft
 rw[reTo_at hG _ hk,reX_comes,reX_arc _ _ hs]
 refine⟨?_,hP,hp,rfl⟩
 show((numM L P (aAt C k s):Nat):Int)=_
 unfold numM
 rw[if_pos hP]
theorem Lfs.one {C : List Cr} {loops : Int} {G L : List Nat} {P : Nat → Bool} (h : Lfs C loops G L P) {k s j t : Nat} (hk : k < C.length) (hG : k ∉ G) (hs : s < 4) (hj : j < C.length) (hH : j ∉ G) (ht : t < 4)
    (e:L.getD (aAt C k s) 0=L.getD (aAt C j t) 0) (ec:(C.getD k Cr.none).comes s=(C.getD j Cr.none).comes t):k=j/\s=t:=by
 obtain⟨k1,k2,k3,k4⟩:=en_side h.hm k s hk hs
 obtain⟨j1,j2,j3,j4⟩:=en_side h.hm j t hj ht
 have ea:aAt C k s=aAt C j t:=by
  rw[<-h.hL]at e
  cases hc:(C.getD k Cr.none).comes s with
  |true=>
   rw[hc]at k1
   rw[<-ec,hc]at j1
   exact ends_one h.go G k3 k4 j3 j4 (by have q:toC C (aAt C k s)=k:=k1;rw[q];exact hG) (by have q:toC C (aAt C j t)=j:=j1;rw[q];exact hH) e
  |false=>
   rw[hc]at k1
   rw[<-ec,hc]at j1
   exact starts_one h.go G k3 k4 j3 j4 (by rw[k1];exact hG) (by rw[j1];exact hH) e
 rw[ec,ea]at k1 k2
 exact⟨k1.symm.trans j1,k2.symm.trans j2⟩
theorem Lfs.many {C:List Cr} {loops:Int} {G L:List Nat} {P:Nat->Bool} (h:Lfs C loops G L P):cntB P (2*C.length+1)<=2*posG G C.length:=by
 have hw:∀ v,∃ a,v<2*C.length+1->1<=v->P v=true->1<=a/\a<=2*C.length/\L.getD a 0=v/\toC C a ∉ G:=fun v=>by
  by_cases q:v<2*C.length+1/\1<=v/\P v=true
  · obtain⟨q1,q2,q3⟩:=q
    have th:=(h.hP v q2).1 q3
    rw[<-h.hL]at th
    obtain⟨-,a,ha,e,hg⟩:=(st_th h.hm h.go G v q2).1 th
    rw[h.hL]at e
    have a1:1<=a:=by
     rcases Nat.eq_zero_or_pos a with rfl|hp
     · have:=h.least.le (v:=0) (by omega);omega
     · exact hp
    unfold goneB at hg
    rw[if_neg (by omega)]at hg
    exact⟨a,fun _ _ _=>⟨a1,by omega,e,by simpa using hg⟩⟩
  · exact⟨0,fun q1 q2 q3=>absurd ⟨q1,q2,q3⟩ q⟩
 obtain⟨w,hw⟩:=Classical.axiomOfChoice hw
 have hr:=cntB_cnt P (2*C.length+1)
 have hc:(List.range (2*posG G C.length)).countP (fun _=>true)=2*posG G C.length:=by
  rw[List.countP_eq_length.2 fun _ _=>rfl,List.length_range]
 rw[hr,<-hc]
 refine inj_cnt (fun v=>2*posG G (toC C (w v))+toS C (w v)%2) (fun v hv hP=>?_) fun u v hu hv hPu hPv e=>?_
 · simp only[Bool.and_eq_true,decide_eq_true_eq]at hP
   obtain⟨a1,a2,a3,a4⟩:=hw v hv hP.1 hP.2
   have t:=(to_may h.hm _ a1 a2).2.1
   have:=posG_lt t a4
   exact⟨by show 2*posG G (toC C (w v))+toS C (w v)%2<_;omega,rfl⟩
 · simp only[Bool.and_eq_true,decide_eq_true_eq]at hPu hPv
   obtain⟨a1,a2,a3,a4⟩:=hw u hu hPu.1 hPu.2
   obtain⟨b1,b2,b3,b4⟩:=hw v hv hPv.1 hPv.2
   obtain⟨-,t1,t2,t3,t4⟩:=to_may h.hm _ a1 a2
   obtain⟨-,u1,u2,u3,u4⟩:=to_may h.hm _ b1 b2
   have e:2*posG G (toC C (w u))+toS C (w u)%2=2*posG G (toC C (w v))+toS C (w v)%2:=e
   have ek:=posG_inj a4 b4 (by omega)
   rw[ek]at t3 t4
   have es:=comes_par t2 u2 t4 u4 (by omega)
   rw[es,u3]at t3
   rw[<-a3,<-b3,show w u=w v by omega]
theorem Lfs.may {C:List Cr} {loops lo:Int} {G L:List Nat} {P:Nat->Bool} (h:Lfs C loops G L P) (hs:sizeB (lft C G L P) lo=true):mayD (lft C G L P) lo=true:=by
 refine may_one hs (fun i s hi hs=>?_) fun i s j t hi hs hj ht ea ec=>?_
 · rw[Lft.len]at hi ⊢
   obtain⟨k,k1,k2,rfl⟩:=posG_onto hi
   obtain⟨e1,e2,e3,-⟩:=h.at k1 k2 hs
   obtain⟨-,-,a1,a2⟩:=en_side h.hm k s k1 hs
   have hlt:=h.least.lt (v:=aAt C k s) (by omega)
   have h1:=cntB_lt e3 e2 hlt
   have h2:=h.many
   rw[e1]
   omega
 · rw[Lft.len]at hi hj
   obtain⟨k,k1,k2,rfl⟩:=posG_onto hi
   obtain⟨m,m1,m2,rfl⟩:=posG_onto hj
   obtain⟨e1,e2,e3,e4⟩:=h.at k1 k2 hs
   obtain⟨f1,f2,f3,f4⟩:=h.at m1 m2 ht
   rw[e1,f1]at ea
   rw[e4,f4]at ec
   have el:=cntB_inj f3 f2 e3 e2 (by omega)
   obtain⟨q1,q2⟩:=h.one m1 m2 ht k1 k2 hs el ec
   exact⟨by rw[q1],q2⟩
theorem Lfs.arc {C:List Cr} {loops:Int} {G L:List Nat} {P:Nat->Bool} (h:Lfs C loops G L P) {k s:Nat} (hk:k<C.length) (hG:k ∉ G) (hs:s<4):aAt (lft C G L P) (posG G k) s=cntB P (L.getD (aAt C k s) 0)+1:=by
 have:=(h.at hk hG hs).1
 show(((lft C G L P).getD (posG G k) Cr.none).arc s).toNat=_
 rw[this,Int.toNat_natCast]
end Go.Proofs.Ytefooihnoajnlaa
/- A diagram as arcs and crossings for descents; what is smoothed at a crossing is its other name; plain mathematics. -/
namespace Go.Proofs.Ytefooihnoajnlaa
def sysC (C:List Cr):Sys:=⟨2*C.length,toC C,fun a=>decide (toS C a=0),nx C,sx C,fun j=>(C.getD j Cr.none).plus⟩
theorem nx_goesH {C:List Cr} {loops:Int} (hm:mayD C loops=true):Goes C (nx C) where
 closed:=nx_closed hm
 inj:=fun a b a1 a2 b1 b2 e=>by
  have ha:=nx_may hm a a1 a2
  have hb:=nx_may hm b b1 b2
  obtain⟨-,i1,s1,r1,q1⟩:=to_may hm a a1 a2
  obtain⟨-,i2,s2,r2,q2⟩:=to_may hm b b1 b2
  have oa:(C.getD (toC C a) Cr.none).comes ((toS C a+2)%4)=false:=by rw[comes_opp _ s1,q1];rfl
  have ob:(C.getD (toC C b) Cr.none).comes ((toS C b+2)%4)=false:=by rw[comes_opp _ s2,q2];rfl
  have ea:=end_one hm (nx C a) ha.2.1 ha.2.2 false (toC C a) ((toS C a+2)%4) i1 (Nat.mod_lt _ (by decide)) ha.1 oa
  have eb:=end_one hm (nx C b) hb.2.1 hb.2.2 false (toC C b) ((toS C b+2)%4) i2 (Nat.mod_lt _ (by decide)) hb.1 ob
  rw[e,eb]at ea
  have hc:toC C b=toC C a:=by have h:=congrArg Prod.fst ea;simp only at h;omega
  have hs:(toS C b+2)%4=(toS C a+2)%4:=by have h:=congrArg Prod.snd ea;simp only at h;omega
  have ht:toS C a=toS C b:=by omega
  rw[hc]at r2
  rw[ht,r2]at r1
  omega
 out:=fun a a1 a2=>by
  have ha:=nx_may hm a a1 a2
  obtain⟨-,i1,s1,r1,q1⟩:=to_may hm a a1 a2
  have oa:(C.getD (toC C a) Cr.none).comes ((toS C a+2)%4)=false:=by rw[comes_opp _ s1,q1];rfl
  have ea:=end_one hm (nx C a) ha.2.1 ha.2.2 false (toC C a) ((toS C a+2)%4) i1 (Nat.mod_lt _ (by decide)) ha.1 oa
  unfold enC
  rw[ea]
  rfl
theorem gd_sys {C:List Cr} {loops:Int} (hm:mayD C loops=true):Gd (sysC C):=by
 have hn:=nx_goesH hm
 have hs:=sx_goes hm
 refine⟨fun ways a h1 h2=>?_,fun ways a b a1 a2 b1 b2 e=>?_⟩
 · unfold nxW
   split
   · exact hs.closed a h1 h2
   · exact hn.closed a h1 h2
 · have oa : enC C (nxW (sysC C) ways a) false = toC C a := by
     unfold nxW
     split
     · exact hs.out a a1 a2
     · exact hn.out a a1 a2
   have ob:enC C (nxW (sysC C) ways b) false=toC C b:=by
    unfold nxW
    split
    · exact hs.out b b1 b2
    · exact hn.out b b1 b2
   have ec:toC C a=toC C b:=by rw[<-oa,<-ob,e]
   unfold nxW at e
   have e0:(if ways (toC C a)=2 then sx C a else nx C a)=(if ways (toC C b)=2 then sx C b else nx C b):=e
   rw[ec]at e0
   split at e0
   · exact hs.inj a b a1 a2 b1 b2 e0
   · exact hn.inj a b a1 a2 b1 b2 e0
theorem to_at {C:List Cr} {loops:Int} (hm:mayD C loops=true) {a:Nat} (h1:1<=a) (h2:a<=2*C.length):toC C a<C.length/\toS C a<4/\aAt C (toC C a) (toS C a)=a/\(C.getD (toC C a) Cr.none).comes (toS C a)=true:=by
 obtain⟨-,i1,s1,r1,q1⟩:=to_may hm a h1 h2
 exact⟨i1,s1,by unfold aAt;rw[r1];rfl,q1⟩
theorem nx_atH (C:List Cr) (a:Nat):nx C a=aAt C (toC C a) ((toS C a+2)%4):=rfl
theorem sx_atH (C:List Cr) (a:Nat):sx C a=aAt C (toC C a) (sxS C a):=rfl
theorem two_in {C:List Cr} {loops:Int} (hm:mayD C loops=true) {a b:Nat} (a1:1<=a) (a2:a<=2*C.length) (b1:1<=b) (b2:b<=2*C.length) (ec:toC C a=toC C b) (ep:toS C a%2=toS C b%2):a=b:=by
 obtain⟨i1,s1,e1,q1⟩:=to_at hm a1 a2
 obtain⟨i2,s2,e2,q2⟩:=to_at hm b1 b2
 rw[<-ec]at e2 q2
 have:=comes_par s1 s2 q1 q2 ep
 rw[<-e1,<-e2,this]
section
variable {C:List Cr} {loops lo:Int} {k:Nat} {L:List Nat} {P:Nat->Bool} (h:Lfs C loops [k] L P)
include h
theorem Lfs.num {a:Nat} (h1:1<=a) (h2:a<=2*C.length) (hk:toC C a≠k):P (L.getD a 0)=true/\numM L P a=cntB P (L.getD a 0)+1/\1<=L.getD a 0:=by
 obtain⟨i1,s1,e1,q1⟩:=to_at h.hm h1 h2
 obtain⟨g1,g2,g3,g4⟩:=h.at i1 (by simpa using hk) s1
 rw[e1]at g2 g3
 exact⟨g2,by unfold numM;rw[if_pos g2],g3⟩
theorem Lfs.side {j s:Nat} (hj:j<C.length) (hk:j≠k) (hs:s<4):aAt (lft C [k] L P) (posG [k] j) s=numM L P (aAt C j s):=by
 rw[h.arc hj (by simpa using hk) hs]
 obtain⟨g1,g2,g3,g4⟩:=h.at hj (by simpa using hk) hs
 unfold numM
 rw[if_pos g2]
theorem Lfs.to (hD:mayD (lft C [k] L P) lo=true) {a:Nat} (h1:1<=a) (h2:a<=2*C.length) (hk:toC C a≠k):toC (lft C [k] L P) (numM L P a)=posG [k] (toC C a)/\toS (lft C [k] L P) (numM L P a)=toS C a:=by
 obtain⟨i1,s1,e1,q1⟩:=to_at h.hm h1 h2
 obtain⟨g1,g2,g3,g4⟩:=h.at i1 (by simpa using hk) s1
 have hpos:posG [k] (toC C a)<(lft C [k] L P).length:=by rw[Lft.len];exact posG_lt i1 (by simpa using hk)
 have:=to_side hD (posG [k] (toC C a)) (toS C a) hpos s1 (by rw[g4];exact q1)
 have ea:((lft C [k] L P).getD (posG [k] (toC C a)) Cr.none).arc (toS C a)=(numM L P a:Int):=by
  rw[g1,e1]
  unfold numM
  rw[e1]at g2
  rw[if_pos g2]
 rw[ea]at this
 exact⟨this.2.2.1,this.2.2.2⟩
theorem Lfs.edge {p:Nat} (h1:1<=p) (h2:p<=2*C.length) (hp:toC C p=k):L.getD (sx C p) 0=L.getD p 0:=by
 have:=(h.least.same (u:=p) (v:=sx C p) (by omega) (by have:=h.go.closed p h1 h2;omega)).2 (Con.edge (mem_uTo.2 ⟨p,h1,h2,by rw[hp];simp,rfl⟩))
 exact this.symm
theorem Lfs.round {p:Nat} (h1:1<=p) (h2:p<=2*C.length) (hr:sx C p=p∨(toC C (sx C p)=k/\sx C (sx C p)=p)) {y:Nat} (hy:Con (uTo C (sx C) [k] (2*C.length)) p y):y=p∨y=sx C p:=by
 have hq:=h.go.closed p h1 h2
 refine hy (fun y=>y=p∨y=sx C p) (fun e he=>?_) (Or.inl rfl)
 obtain⟨x,x1,x2,x3,rfl⟩:=mem_uTo.1 he
 have x3:toC C x=k:=by simpa using x3
 constructor
 · rintro(e|e)
   · exact Or.inr (by show sx C x=sx C p;rw[show x=p from e])
   · have e:x=sx C p:=e
     rcases hr with r|⟨r1,r2⟩
     · exact Or.inl (by show sx C x=p;rw[e,r,r])
     · exact Or.inl (by show sx C x=p;rw[e];exact r2)
 · rintro(e|e)
   · have e:sx C x=p:=e
     rcases hr with r|⟨r1,r2⟩
     · exact Or.inl (h.go.inj x p x1 x2 h1 h2 (by rw[e,r]))
     · exact Or.inr (h.go.inj x (sx C p) x1 x2 hq.1 hq.2 (by rw[e,r2]))
   · exact Or.inl (h.go.inj x p x1 x2 h1 h2 e)
theorem Lfs.col (hD:mayD (lft C [k] L P) lo=true):Col (sysC C) (sysC (lft C [k] L P)) k (numM L P) (fun a=>L.getD a 0) (posG [k]):=by
 have hm:=h.hm
 have hl:=h.least
 have hlen:(lft C [k] L P).length=posG [k] C.length:=Lft.len
 have hlt:∀ a,a<=2*C.length->L.getD a 0<2*C.length+1:=fun a ha=>hl.lt (by omega)
 have hph:∀ a,1<=numM L P a->P (L.getD a 0)=true/\numM L P a=cntB P (L.getD a 0)+1:=fun a ha=>by
  unfold numM at ha ⊢
  by_cases q:P (L.getD a 0)=true
  · rw[if_pos q];exact⟨q,rfl⟩
  · rw[if_neg q]at ha;omega
 have many:=h.many
 refine⟨gd_sys hm,fun(a:Nat) (h1:1<=a) (h2:a<=2*C.length) (h3:toC C a≠k)=>?_,fun(a b:Nat) (a1:1<=a) (a2:a<=2*C.length) (b1:1<=b) (b2:b<=2*C.length) (a3:toC C a≠k) (b3:toC C b≠k) e=>?_,fun(c:Nat) (c1:1<=c) (c2:c<=2*(lft C [k] L P).length)=>?_,fun(a:Nat) (h1:1<=a) (h2:a<=2*C.length) (h3:toC C a≠k)=>(h.to hD h1 h2 h3).1,fun(a:Nat) (h1:1<=a) (h2:a<=2*C.length) (h3:toC C a≠k)=>?_,fun(a:Nat) (h1:1<=a) (h2:a<=2*C.length) (h3:toC C a≠k)=>?_,fun(a:Nat) (h1:1<=a) (h2:a<=2*C.length) (h3:toC C a≠k)=>?_,fun(a:Nat) (h1:1<=a) (h2:a<=2*C.length) (h3:toC C a≠k)=>?_,fun(a:Nat) (h1:1<=a) (h2:a<=2*C.length) (h3:toC C a≠k)=>?_,fun(a b:Nat) (a1:1<=a) (a2:a<=2*C.length) (b1:1<=b) (b2:b<=2*C.length) (a3:toC C a≠k) (b3:toC C b≠k) e=>?_,fun(p:Nat) (h1:1<=p) (h2:p<=2*C.length) (h3:toC C p=k)=>?_,fun(p q u:Nat) (p1:1<=p) (p2:p<=2*C.length) (q1:1<=q) (q2:q<=2*C.length) (u1:1<=u) (u2:u<=2*C.length) (p3:toC C p=k) (q3:toC C q=k) (u3:toC C u=k)=>?_,fun(p:Nat) (h1:1<=p) (h2:p<=2*C.length) (h3:toC C p=k) (hr:sx C p=p∨(toC C (sx C p)=k/\sx C (sx C p)=p))=>?_,fun(p:Nat) (h1:1<=p) (h2:p<=2*C.length) (h3:toC C p=k) (hr:sx C p=p)=>?_,fun(a:Nat) (h1:1<=a) (h2:a<=2*C.length)=>?_,fun(a b:Nat) (a1:1<=a) (a2:a<=2*C.length) (b1:1<=b) (b2:b<=2*C.length) a3 e=>?_,fun(p:Nat) (h1:1<=p) (h2:p<=2*C.length) (h3:toC C p=k)=>h.edge h1 h2 h3,fun(a b:Nat) (a1:1<=a) (a2:a<=2*C.length) (b1:1<=b) (b2:b<=2*C.length) a3 e=>?_⟩
 · obtain⟨g1,g2,g3⟩:=h.num h1 h2 h3
   have:=cntB_lt g3 g1 (hlt a h2)
   show 1<=numM L P a/\numM L P a<=2*(lft C [k] L P).length
   rw[hlen]
   omega
 · obtain⟨g1,g2,g3⟩:=h.num a1 a2 a3
   obtain⟨f1,f2,f3⟩:=h.num b1 b2 b3
   have el:=cntB_inj g3 g1 f3 f1 (by omega)
   rw[<-h.hL]at el
   exact ends_one h.go [k] a1 a2 b1 b2 (by simpa using a3) (by simpa using b3) el
 · obtain⟨i1,s1,e1,q1⟩:=to_at hD c1 c2
   rw[hlen]at i1
   obtain⟨j,j1,j2,j3⟩:=posG_onto i1
   rw[<-j3]at e1 q1
   have jk:j≠k:=by simpa using j2
   obtain⟨-,-,-,g4⟩:=h.at j1 j2 s1
   rw[g4]at q1
   have ts:=to_side hm j _ j1 s1 q1
   refine⟨aAt C j (toS (lft C [k] L P) c),ts.1,ts.2.1,?_,?_⟩
   · show toC C (aAt C j (toS (lft C [k] L P) c))≠k
     have:toC C (aAt C j (toS (lft C [k] L P) c))=j:=ts.2.2.1
     rw[this]
     exact jk
   · rw[<-h.side j1 jk s1]
     exact e1
 · show decide (toS (lft C [k] L P) (numM L P a)=0)=decide (toS C a=0)
   rw[(h.to hD h1 h2 h3).2]
 · show nx (lft C [k] L P) (numM L P a)=numM L P (nx C a)
   obtain⟨t1,t2⟩:=h.to hD h1 h2 h3
   rw[nx_atH,t1,t2,h.side (to_at hm h1 h2).1 h3 (Nat.mod_lt _ (by decide)),nx_atH]
 · show sx (lft C [k] L P) (numM L P a)=numM L P (sx C a)
   obtain⟨t1,t2⟩:=h.to hD h1 h2 h3
   have hp:((lft C [k] L P).getD (posG [k] (toC C a)) Cr.none).plus=(C.getD (toC C a) Cr.none).plus:=by
    unfold lft
    rw[reTo_at (by simpa using h3) _ (to_at hm h1 h2).1]
    rfl
   have hs:sxS (lft C [k] L P) (numM L P a)=sxS C a:=by
    unfold sxS
    rw[t2,t1,hp]
   rw[sx_atH,t1,hs,h.side (to_at hm h1 h2).1 h3 (sxS_lt C a),sx_atH]
 · have key : ∀ s, s < 4 → 1 ≤ numM L P (aAt C (toC C a) s) := fun s hs => by
     rw[<-h.side (to_at hm h1 h2).1 h3 hs,h.arc (to_at hm h1 h2).1 (by simpa using h3) hs]
     omega
   exact⟨key _ (Nat.mod_lt _ (by decide)),key _ (sxS_lt C a)⟩
 · show((lft C [k] L P).getD (posG [k] (toC C a)) Cr.none).plus=(C.getD (toC C a) Cr.none).plus
   unfold lft
   rw[reTo_at (by simpa using h3) _ (to_at hm h1 h2).1]
   rfl
 · have na:toC C a ∉ [k]:=by simpa using a3
   have nb:toC C b ∉ [k]:=by simpa using b3
   exact posG_inj (G:=[k]) na nb e
 · show numM L P (sx C p)=numM L P p
   unfold numM
   rw[h.edge h1 h2 h3]
 · have t1:toC C p=toC C q:=by rw[show toC C p=k from p3,show toC C q=k from q3]
   have t2:toC C q=toC C u:=by rw[show toC C q=k from q3,show toC C u=k from u3]
   have hp:toS C p%2=toS C q%2∨toS C q%2=toS C u%2∨toS C p%2=toS C u%2:=by omega
   rcases hp with e|e|e
   · exact Or.inl (two_in hm p1 p2 q1 q2 t1 e)
   · exact Or.inr (Or.inl (two_in hm q1 q2 u1 u2 t2 e))
   · exact Or.inr (Or.inr (two_in hm p1 p2 u1 u2 (t1.trans t2) e))
 · show numM L P p=0
   unfold numM
   refine if_neg fun hP=>?_
   have hpos:=h.pos h1 h2
   have th:=(h.hP _ hpos).1 hP
   rw[<-h.hL]at th
   rw[<-h.hL]at hpos
   obtain⟨-,a,ha,e,hg⟩:=(st_th hm h.go [k] _ hpos).1 th
   rw[h.hL]at e
   have a1:1<=a:=by
    rcases Nat.eq_zero_or_pos a with rfl|hp
    · have:=hl.le (v:=0) (by omega)
      have:=h.pos h1 h2
      omega
    · exact hp
   unfold goneB at hg
   rw[if_neg (by omega)]at hg
   have hak:toC C a≠k:=by simpa using hg
   have hc:Con (uTo C (sx C) [k] (2*C.length)) p a:=(hl.same (by omega) (by omega)).1 e.symm
   rcases h.round h1 h2 hr hc with f|f
   · exact hak (by rw[f];exact h3)
   · rcases hr with r|⟨r,-⟩
     · exact hak (by rw[f,show sx C p=p from r];exact h3)
     · exact hak (by rw[f];exact r)
 · show L.getD p 0=p
   have hc:=(hl.2 p (by omega)).1
   rcases h.round h1 h2 (Or.inl hr) hc with f|f
   · exact f
   · rw[f];exact hr
 · refine⟨h.pos h1 h2,hl.le (by omega),?_⟩
   show numM L P (L.getD a 0)=numM L P a
   unfold numM
   rw[hl.root (by omega)]
 · obtain⟨g1,g2⟩:=hph a a3
   obtain⟨f1,f2⟩:=hph b (by omega)
   show L.getD a 0<L.getD b 0
   refine Nat.lt_of_not_le fun hle=>?_
   have hpb:=h.pos b1 b2
   rcases Nat.eq_or_lt_of_le hle with q|q
   · rw[q]at f2;omega
   · have:=cntB_lt hpb f1 q;omega
 · obtain⟨g1,g2⟩:=hph a a3
   obtain⟨f1,f2⟩:=hph b (by omega)
   exact cntB_inj (h.pos a1 a2) g1 (h.pos b1 b2) f1 (by omega)
omit h in
theorem lfs_rings:lpU (sysC C) (numM L P) (fun a=>L.getD a 0) (fun _=>false)=cntB (nfB L P) (2*C.length+1):=by
 have key:∀ n,n<=2*C.length->cnP (fun p=>decide (numM L P p=0)&&decide (L.getD p 0=p)&&!(fun _=>false) p) n=cntB (nfB L P) (n+1):=by
  intro n
  induction n with
  |zero=>intro _;rfl
  |succ n ih=>
   intro hn
   show cnP _ n+_=cntB (nfB L P) (n+1)+_
   rw[ih (by omega)]
   congr 1
   have e:(decide (numM L P (n+1)=0)&&decide (L.getD (n+1) 0=n+1)&&!(fun _=>false) (n+1))=nfB L P (n+1):=by
    unfold nfB
    by_cases hL:L.getD (n+1) 0=n+1
    · rw[decide_eq_true hL]
      unfold numM
      rw[hL]
      cases P (n+1)<;>simp
    · rw[decide_eq_false hL]
      simp
   show(if(decide (numM L P (n+1)=0)&&decide (L.getD (n+1) 0=n+1)&&!(fun _=>false) (n+1))=true then 1 else 0)=_
   rw[e]
   by_cases q:nfB L P (n+1)=true
   · rw[if_pos q,if_pos ⟨by omega,q⟩]
   · rw[if_neg q,if_neg (fun z=>q z.2)]
 exact key _ (Nat.le_refl _)
end
end Go.Proofs.Ytefooihnoajnlaa
/- A crossing that is changed: the strands go on alike, the other one is below; what a diagram's descents are worth, by those of two others; plain mathematics. -/
namespace Go.Proofs.Ytefooihnoajnlaa
def mirTH (x:Cr):Nat:=if x.plus=true then 3 else 1
theorem mir_arcH (x:Cr) {s:Nat} (hs:s<4):(mirX x).arc s=x.arc ((s+mirTH x)%4)/\(mirX x).comes s=x.comes ((s+mirTH x)%4):=by
 obtain⟨a,b,c,d,p⟩:=x
 have:s=0∨s=1∨s=2∨s=3:=by omega
 rcases this with rfl|rfl|rfl|rfl<;>cases p<;>simp[mirX,mirTH,Cr.arc,Cr.comes]
def chD (C:List Cr) (k:Nat):List Cr:=C.set k (mirX (C.getD k Cr.none))
theorem chD_len (C:List Cr) (k:Nat):(chD C k).length=C.length:=by unfold chD;simp
theorem chD_at (C:List Cr) (k j:Nat) (hk:k<C.length):(chD C k).getD j Cr.none=if j=k then mirX (C.getD k Cr.none) else C.getD j Cr.none:=by
 unfold chD
 rw[List.getD_eq_getElem?_getD,List.getElem?_set]
 by_cases e:j=k
 · subst e
   rw[if_pos rfl,if_pos hk,if_pos rfl]
   rfl
 · rw[if_neg (fun q=>e q.symm),if_neg e,<-List.getD_eq_getElem?_getD]
def rot (C:List Cr) (k j s:Nat):Nat:=if j=k then(s+mirTH (C.getD k Cr.none))%4 else s
theorem rot_lt (C:List Cr) (k j s:Nat) (hs:s<4):rot C k j s<4:=by unfold rot;split<;>omega
theorem mirTH_or (x:Cr):mirTH x=1∨mirTH x=3:=by unfold mirTH;split<;>simp
theorem rot_inj (C:List Cr) (k j s t:Nat) (hs:s<4) (ht:t<4) (e:rot C k j s=rot C k j t):s=t:=by
 unfold rot at e
 split at e
 · rcases mirTH_or (C.getD k Cr.none) with h|h<;>rw[h]at e<;>omega
 · exact e
theorem rot_back (C:List Cr) (k j s:Nat) (hs:s<4):∃ t,t<4/\rot C k j t=s:=by
 unfold rot
 split
 · rcases mirTH_or (C.getD k Cr.none) with h|h<;>rw[h]
   · exact⟨(s+3)%4,Nat.mod_lt _ (by decide),by omega⟩
   · exact⟨(s+1)%4,Nat.mod_lt _ (by decide),by omega⟩
 · exact⟨s,hs,rfl⟩
theorem chD_side (C:List Cr) (k j s:Nat) (hk:k<C.length) (hs:s<4):((chD C k).getD j Cr.none).arc s=(C.getD j Cr.none).arc (rot C k j s)/\((chD C k).getD j Cr.none).comes s=(C.getD j Cr.none).comes (rot C k j s):=by
 rw[chD_at C k j hk]
 unfold rot
 by_cases e:j=k
 · rw[if_pos e,if_pos e,e]
   exact mir_arcH _ hs
 · rw[if_neg e,if_neg e]
   exact⟨rfl,rfl⟩
theorem chD_may {C:List Cr} {loops:Int} (hm:mayD C loops=true) {k:Nat} (hk:k<C.length):mayD (chD C k) loops=true:=by
 have hs:sizeB (chD C k) loops=true:=by
  have:=may_size hm
  unfold sizeB at this ⊢
  rw[chD_len]
  exact this
 refine may_one hs (fun i s hi hs=>?_) (fun i s j t hi hs hj ht ea ec=>?_)
 · rw[chD_len]at hi ⊢
   rw[(chD_side C k i s hk hs).1]
   have:=may_fit hm i (rot C k i s) hi (rot_lt C k i s hs)
   exact⟨this.1,this.2.1⟩
 · rw[chD_len]at hi hj
   rw[(chD_side C k i s hk hs).1,(chD_side C k j t hk ht).1]at ea
   rw[(chD_side C k i s hk hs).2,(chD_side C k j t hk ht).2]at ec
   have a:=en_side hm i (rot C k i s) hi (rot_lt C k i s hs)
   have b:=en_side hm j (rot C k j t) hj (rot_lt C k j t ht)
   have e:aAt C j (rot C k j t)=aAt C i (rot C k i s):=by unfold aAt;rw[ea]
   rw[e,ec]at b
   have ej:j=i:=b.1.symm.trans a.1
   subst ej
   exact⟨rfl,rot_inj C k j t s ht hs (b.2.1.symm.trans a.2.1)⟩
theorem chD_aAt (C:List Cr) (k j s:Nat) (hk:k<C.length) (hs:s<4):aAt (chD C k) j s=aAt C j (rot C k j s):=by unfold aAt;rw[(chD_side C k j s hk hs).1]
theorem chD_to {C:List Cr} {loops:Int} (hm:mayD C loops=true) {k:Nat} (hk:k<C.length) {a:Nat} (h1:1<=a) (h2:a<=2*C.length):toC (chD C k) a=toC C a/\toS (chD C k) a<4/\rot C k (toC C a) (toS (chD C k) a)=toS C a:=by
 obtain⟨i1,s1,e1,q1⟩:=to_at hm h1 h2
 obtain⟨t,t1,t2⟩:=rot_back C k (toC C a) (toS C a) s1
 obtain⟨f1,f2⟩:=chD_side C k (toC C a) t hk t1
 rw[t2]at f1 f2
 have:=to_side (chD_may hm hk) (toC C a) t (by rw[chD_len];exact i1) t1 (by rw[f2];exact q1)
 have ea:(((chD C k).getD (toC C a) Cr.none).arc t).toNat=a:=by rw[f1];exact e1
 rw[ea]at this
 refine⟨this.2.2.1,by rw[this.2.2.2];exact t1,by rw[this.2.2.2];exact t2⟩
theorem same_change {C:List Cr} {loops:Int} (hm:mayD C loops=true) {k:Nat} (hk:k<C.length):SameBut (sysC C) (sysC (chD C k)) k:=by
 have hN:(sysC (chD C k)).N=(sysC C).N:=by show 2*(chD C k).length=2*C.length;rw[chD_len]
 refine⟨hN,fun a h1 h2=>(chD_to hm hk h1 h2).1,fun a h1 h2=>?_,fun a h1 h2=>?_,fun a h1 h2 h3=>?_,fun a h1 h2 h3 h4=>?_,fun j hj=>?_⟩
 · show nx (chD C k) a=nx C a
   obtain⟨t1,t2,t3⟩:=chD_to hm hk h1 h2
   rw[nx_atH,nx_atH,t1,chD_aAt C k _ _ hk (Nat.mod_lt _ (by decide))]
   congr 1
   rw[<-t3]
   unfold rot
   split<;>omega
 · show sx (chD C k) a=sx C a
   obtain⟨t1,t2,t3⟩:=chD_to hm hk h1 h2
   rw[sx_atH,sx_atH,t1,chD_aAt C k _ _ hk (sxS_lt _ _)]
   congr 1
   unfold sxS
   rw[t1,chD_at C k _ hk]
   by_cases e:toC C a=k
   · have q1:=(to_at hm h1 h2).2.2.2
     have s1:=(to_at hm h1 h2).2.1
     rw[if_pos e]
     unfold rot at t3 ⊢
     rw[if_pos e]at t3 ⊢
     rw[e]at q1 ⊢
     generalize toS (chD C k) a=s' at t2 t3 ⊢
     generalize toS C a=s at t3 q1 s1 ⊢
     generalize C.getD k Cr.none=X at t3 q1 ⊢
     obtain⟨xa,xb,xc,xd,p⟩:=X
     have hs:s=0∨s=1∨s=2∨s=3:=by omega
     have hs':s'=0∨s'=1∨s'=2∨s'=3:=by omega
     cases p<;>rcases hs with rfl|rfl|rfl|rfl<;>rcases hs' with rfl|rfl|rfl|rfl<;>first|rfl|(simp[mirTH,mirX];done)|(exfalso;revert t3;simp[mirTH];done)|(exfalso;revert q1;simp[Cr.comes];done)
   · rw[if_neg e]
     unfold rot at t3 ⊢
     rw[if_neg e]at t3 ⊢
     rw[t3]
 · show decide (toS (chD C k) a=0)=decide (toS C a=0)
   obtain⟨t1,t2,t3⟩:=chD_to hm hk h1 h2
   unfold rot at t3
   rw[if_neg (show ¬ toC C a=k from h3)]at t3
   rw[t3]
 · show decide (toS (chD C k) a=0)=false
   obtain⟨t1,t2,t3⟩:=chD_to hm hk h1 h2
   have h0:toS C a=0:=of_decide_eq_true h4
   unfold rot at t3
   rw[if_pos (show toC C a=k from h3),h0]at t3
   refine decide_eq_false fun q=>?_
   rw[q]at t3
   rcases mirTH_or (C.getD k Cr.none) with e|e<;>rw[e]at t3<;>omega
 · show((chD C k).getD j Cr.none).plus=(C.getD j Cr.none).plus
   rw[chD_at C k j hk,if_neg hj]
def smL (C:List Cr) (k:Nat):List Nat:=uniM C (sx C) [k]
def smP (C:List Cr) (k:Nat):Nat->Bool:=thB C k (smL C k) C.length 0
def smD (C:List Cr) (k:Nat):List Cr:=reTo C [k] (numM (smL C k) (smP C k)) C.length
def smN (C:List Cr) (k:Nat):Nat:=cntB (nfB (smL C k) (smP C k)) (2*C.length+1)
theorem lfs_sm {C:List Cr} {loops:Int} (hm:mayD C loops=true) (k:Nat):Lfs C loops [k] (smL C k) (smP C k):=⟨hm,sx_goes hm,rfl,fun v _=>thB_iff C k (smL C k) v⟩
theorem posG_oneH {k:Nat}:∀ n,posG [k] n+(if k<n then 1 else 0)=n
 |0=>rfl
 |n+1=>by
  rw[posG_next]
  have ih:=posG_oneH (k:=k) n
  by_cases e:n=k
  · subst e
    rw[if_pos (by simp),if_pos (by omega)]
    rw[if_neg (by omega)]at ih
    omega
  · rw[if_neg (by simpa using e)]
    by_cases q:k<n
    · rw[if_pos q]at ih;rw[if_pos (by omega)];omega
    · rw[if_neg q]at ih;rw[if_neg (by omega)];omega
theorem smD_len {C:List Cr} {k:Nat} (hk:k<C.length):(smD C k).length+1=C.length:=by
 unfold smD
 rw[reTo_pos]
 have:=posG_oneH (k:=k) C.length
 rw[if_pos hk]at this
 exact this
theorem smD_may {C:List Cr} (hm:mayD C 1=true) {k:Nat} (hk:k<C.length):mayD (smD C k) 1=true:=by
 refine(lfs_sm hm k).may ?_
 have:=may_size hm
 have hl:(lft C [k] (smL C k) (smP C k)).length+1=C.length:=smD_len hk
 unfold sizeB at this ⊢
 simp only[Bool.and_eq_true,decide_eq_true_eq]at this ⊢
 refine⟨⟨⟨by omega,by decide⟩,by decide⟩,by simp⟩
def pl2 (C:List Cr) (r:Nat):Pol2:=wk (sysC C) (2*C.length) ⟨1,fun _=>false,fun _=>0,r⟩
def fbC (C:List Cr):Option Nat:=ff (sysC C) (2*C.length) ⟨1,fun _=>false,fun _=>0,0⟩
theorem onw_r (S:Sys) (w:Nat->Bool) (ways:Nat->Nat) (a r d:Nat):onw S w ways a (r+d)=⟨(onw S w ways a r).arc,(onw S w ways a r).w,(onw S w ways a r).ways,(onw S w ways a r).r+d⟩:=by
 unfold onw
 split
 · show(⟨_,_,_,r+d+1⟩:Dst)=⟨_,_,_,r+1+d⟩
   rw[show r+d+1=r+1+d by omega]
 · rfl
theorem ff_r (S:Sys) (d:Nat):∀ m s,ff S m ⟨s.arc,s.w,s.ways,s.r+d⟩=ff S m s
 |0,_=>rfl
 |m+1,s=>by
  unfold ff
  show(if s.arc=0∨S.N<s.arc then none else if s.ways (S.cr s.arc)=0 then if S.be s.arc=true then some (S.cr s.arc) else ff S m (onw S (upd s.w s.arc true) (upd s.ways (S.cr s.arc) 1) s.arc (s.r+d)) else ff S m (onw S (upd s.w s.arc true) s.ways s.arc (s.r+d)))=_
  rw[onw_r,onw_r,ff_r S d m,ff_r S d m]
theorem fb_at (C:List Cr) (r:Nat):ff (sysC C) (2*C.length) ⟨1,fun _=>false,fun _=>0,r⟩=fbC C:=by
 have:=ff_r (sysC C) r (2*C.length) ⟨1,fun _=>false,fun _=>0,0⟩
 simpa[fbC] using this
theorem unw_all (N:Nat):unw N (fun _=>false)=N:=by
 have key:∀ n,cnP (fun _=>!(fun _=>false) 0) n=n:=fun n=>by
  induction n with
  |zero=>rfl
  |succ n ih=>show cnP _ n+1=n+1;rw[ih]
 exact key N
theorem pl2_none {C:List Cr} (h:fbC C=none) (r:Nat):pl2 C r=pwR (rgW (sysC C) (2*C.length) ⟨1,fun _=>false,fun _=>0,r⟩):=wk_none _ _ _ (by rw[fb_at];exact h)
theorem pl2_fork {C:List Cr} (hm:mayD C 1=true) {k:Nat} (hk:k<C.length) (h:fbC C=some k) (r:Nat):pl2 C r=fork2 (C.getD k Cr.none).plus (pl2 (chD C k) r) (pl2 (smD C k) (r+smN C k)):=by
 have hf:ff (sysC C) (2*C.length) ⟨1,fun _=>false,fun _=>0,r⟩=some k:=by rw[fb_at];exact h
 unfold pl2
 rw[wk_fork (sysC C) k _ _ rfl hf]
 have e1:=wk_change (same_change hm hk) _ _ rfl hf
 rw[chD_len]
 have e2:wk (sysC C) (2*C.length) ((⟨1,fun _=>false,fun _=>0,r⟩:Dst).set k 2)=wk (sysC (smD C k)) (2*(smD C k).length) ⟨1,fun _=>false,fun _=>0,r+smN C k⟩:=by
  have hL:=lfs_sm hm k
  have hc:=hL.col (smD_may hm hk)
  refine hc.walk _ _ _ _ (Nat.le_of_eq (unw_all _)) (Nat.le_of_eq (unw_all _)) ⟨fun _ _ _ _=>rfl,fun a a1 a2 a3=>(upd_other (fun _=>0) 2 a3).symm,upd_same _ _ _⟩ ?_
  have hb:Bs (sysC C) k (numM (smL C k) (smP C k)) (posG [k]) (fun _=>false) (fun _=>false) (upd (fun _=>0) k 2) (fun _=>0):=⟨fun _ _ _ _=>rfl,fun a a1 a2 a3=>(upd_other (fun _=>0) 2 a3).symm,upd_same _ _ _⟩
  have:=hc.again hb (r:=r) (tr:=r+smN C k) ⟨fun _ h=>(Bool.false_ne_true h).elim,fun _ h=>(Bool.false_ne_true h).elim,fun _ h=>(Bool.false_ne_true h).elim,fun _ h=>(Bool.false_ne_true h).elim⟩ (by rw[lfs_rings];rfl)
  have l1:∀ N,lowU N (fun _=>false)=1:=fun N=>lowU_eq (Nat.le_refl _) (by omega) (fun b b1 b2=>by omega) (fun _=>rfl)
  rw[l1,l1]at this
  exact this
 rw[e2,<-e1]
 rfl
end Go.Proofs.Ytefooihnoajnlaa
