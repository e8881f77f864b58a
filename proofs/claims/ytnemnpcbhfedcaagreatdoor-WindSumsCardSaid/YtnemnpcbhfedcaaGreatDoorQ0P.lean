/- Several texts of the proof, one behind the other. -/
import Derived.Test.YtnemnpcbhfedcaaGreatDoorH6P
import Derived.Test.YtnemnpcbhfedcaaGreatDoorF1P
/- Plain mathematics: rows modulo a prime, what they span, and how many columns have a first place in it. -/
namespace Go.Proofs.YtnemnpcbhfedcaaGreatDoor
def primeN (p:Nat):Bool:=decide (2<=p)&&(List.range p).all fun k=>decide (k<2)||decide (p%k≠0)
theorem inv_all:((List.range 98).all fun p=>!primeN p||(List.range p).all fun a=>a==0||(List.range p).any fun b=>a*b%p==1)=true:=by decide +kernel
theorem inv_ex {p a:Nat} (hp:p<98) (h:primeN p=true) (ha:a<p) (h0:a≠0):∃ b,b<p/\a*b%p=1:=by
 have h1:=List.all_eq_true.1 inv_all p (List.mem_range.2 hp)
 rw[h]at h1
 have h2:=List.all_eq_true.1 (by simpa using h1:((List.range p).all fun a=>a==0||(List.range p).any fun b=>a*b%p==1)=true) a (List.mem_range.2 ha)
 rcases Bool.or_eq_true_iff.1 h2 with h3|h3
 · exact absurd (by simpa using h3) h0
 · obtain⟨b,hb,e⟩:=List.any_eq_true.1 h3
   exact⟨b,List.mem_range.1 hb,by simpa using e⟩
structure Sub (p m:Nat) (S:(Nat->Int)->Prop):Prop where
 zero:S (fun _=>0)
 add:∀ u v (k:Int),S u->S v->S (fun j=>u j+k*v j)
 mod:∀ u v,(∀ j,j<m->(p:Int) ∣ u j-v j)->S u->S v
def Sp (p m:Nat) (R:(Nat->Int)->Prop) (v:Nat->Int):Prop:=∀ S,Sub p m S->(∀ r,R r->S r)->S v
theorem Sp.mem {p m:Nat} {R:(Nat->Int)->Prop} {r:Nat->Int} (h:R r):Sp p m R r:=fun _ _ hR=>hR r h
theorem Sp.sub (p m:Nat) (R:(Nat->Int)->Prop):Sub p m (Sp p m R):=
 ⟨fun _ hS _=>hS.zero,fun u v k hu hv S hS hR=>hS.add u v k (hu S hS hR) (hv S hS hR),fun u v h hu S hS hR=>hS.mod u v h (hu S hS hR)⟩
theorem Sp.le {p m:Nat} {R R':(Nat->Int)->Prop} {v:Nat->Int} (h:∀ r,R r->Sp p m R' r) (hv:Sp p m R v):Sp p m R' v:=hv _ (Sp.sub p m R') h
def Vc (p m:Nat) (R0:(Nat->Int)->Prop) (c:Nat) (v:Nat->Int):Prop:=Sp p m R0 v/\∀ j,j<c->(p:Int) ∣ v j
def Inv (p m:Nat) (R0:(Nat->Int)->Prop) (c:Nat) (R:(Nat->Int)->Prop):Prop:=∀ v,Sp p m R v↔Vc p m R0 c v
theorem sp_col {p m c:Nat} {R:(Nat->Int)->Prop} (hc:c<m) (h:∀ r,R r->(p:Int) ∣ r c) {v:Nat->Int} (hv:Sp p m R v):(p:Int) ∣ v c:=
 hv (fun v => (p : Int) ∣ v c) ⟨Int.dvd_zero _, fun u v k hu hv => Int.dvd_add hu (Int.dvd_mul_of_dvd_right hv), fun u v h hu => by
  have h1:=Int.dvd_sub hu (h c hc)
  have e:u c-(u c-v c)=v c:=by omega
  rw[e]at h1
  exact h1⟩ h
theorem Inv.start {p m:Nat} {R0 R:(Nat->Int)->Prop} (h1:∀ r,R r->∃ q,R0 q/\∀ j,j<m->(p:Int) ∣ q j-r j) (h2:∀ r,R0 r->∃ q,R q/\∀ j,j<m->(p:Int) ∣ q j-r j):Inv p m R0 0 R:=fun v=>
 ⟨fun hv => ⟨Sp.le (fun r hr => by obtain ⟨q, hq, e⟩ := h1 r hr; exact (Sp.sub p m R0).mod q r e (Sp.mem hq)) hv, fun j hj => absurd hj (Nat.not_lt_zero _)⟩,
  fun hv=>Sp.le (fun r hr=>by obtain⟨q,hq,e⟩:=h2 r hr;exact(Sp.sub p m R).mod q r e (Sp.mem hq)) hv.1⟩
theorem Inv.none {p m c:Nat} {R0 R:(Nat->Int)->Prop} (h:Inv p m R0 c R) (hc:c<m) (hn:∀ r,R r->(p:Int) ∣ r c):Inv p m R0 (c+1) R:=fun v=>
 ⟨fun hv => ⟨((h v).1 hv).1, fun j hj => by
     by_cases e:j=c
     · rw[e];exact sp_col hc hn hv
     · exact((h v).1 hv).2 j (by omega)⟩,
  fun hv=>(h v).2 ⟨hv.1,fun j hj=>hv.2 j (by omega)⟩⟩
theorem Inv.piv {p m c : Nat} {R0 R R' : (Nat → Int) → Prop} (h : Inv p m R0 c R) (hc : c < m) (a : Nat → Int) (ha : R a) (b : Int) (hb : (p : Int) ∣ a c * b - 1)
    (h1:∀ r',R' r'->(p:Int) ∣ r' c/\∃ r k,R r/\∀ j,j<m->(p:Int) ∣ (r j+k*a j)-r' j)
    (h2:∀ r,R r->r=a∨∃ r' k,R' r'/\∀ j,j<m->(p:Int) ∣ (r' j+k*a j)-r j):Inv p m R0 (c+1) R':=by
 have in1:∀ r',R' r'->Sp p m R r':=fun r' hr'=>by
  obtain⟨-,r,k,hr,e⟩:=h1 r' hr'
  exact(Sp.sub p m R).mod _ r' e ((Sp.sub p m R).add r a k (Sp.mem hr) (Sp.mem ha))
 have col:∀ r',R' r'->(p:Int) ∣ r' c:=fun r' hr'=>(h1 r' hr').1
 intro v
 constructor
 · intro hv
   have hv1:=(h v).1 (Sp.le in1 hv)
   refine⟨hv1.1,fun j hj=>?_⟩
   by_cases e:j=c
   · rw[e];exact sp_col hc col hv
   · exact hv1.2 j (by omega)
 · intro hv
   have hv1:Sp p m R v:=(h v).2 ⟨hv.1,fun j hj=>hv.2 j (by omega)⟩
   have hsub:=Sp.sub p m R'
   -- each is a multiple of the pivot and what the new rows span
   have key:∃ k:Int,Sp p m R' (fun j=>v j+k*a j):=by
    refine hv1 (fun v=>∃ k:Int,Sp p m R' (fun j=>v j+k*a j)) ⟨⟨0,?_⟩,?_,?_⟩ ?_
    · exact hsub.mod _ _ (fun j _=>by simp) hsub.zero
    · rintro u w k ⟨k1,hu⟩ ⟨k2,hw⟩
      refine⟨k1+k*k2,hsub.mod _ _ (fun j _=>?_) (hsub.add _ _ k hu hw)⟩
      have e:(u j+k1*a j+k*(w j+k2*a j))-(u j+k*w j+(k1+k*k2)*a j)=0:=by
       rw[Int.mul_add,Int.add_mul,Int.mul_assoc];omega
      rw[e];exact Int.dvd_zero _
    · rintro u w e ⟨k,hu⟩
      refine⟨k,hsub.mod _ _ (fun j hj=>?_) hu⟩
      have e2:u j+k*a j-(w j+k*a j)=u j-w j:=by omega
      rw[e2];exact e j hj
    · intro r hr
      rcases h2 r hr with rfl|⟨r',k,hr',e⟩
      · exact ⟨-1, hsub.mod _ _ (fun j _ => by have e : (0 : Int) - (r j + -1 * r j) = 0 := by omega
                                               rw[e];exact Int.dvd_zero _) hsub.zero⟩
      · refine⟨-k,hsub.mod r' _ (fun j hj=>?_) (Sp.mem hr')⟩
        have e2:r' j-(r j + -k*a j)=r' j+k*a j-r j:=by rw[Int.neg_mul];omega
        rw[e2];exact e j hj
   obtain⟨k,hk⟩:=key
   have hkc:=sp_col hc col hk
   have hvc:=hv.2 c (by omega)
   have d1:(p:Int) ∣ k*a c:=by
    have:=Int.dvd_sub hkc hvc
    have e:v c+k*a c-v c=k*a c:=by omega
    rw[e]at this;exact this
   have d2:(p:Int) ∣ k:=by
    have e1:(p:Int) ∣ k*(a c*b-1):=Int.dvd_mul_of_dvd_right hb
    have e2:(p:Int) ∣ k*a c*b:=Int.dvd_mul_of_dvd_left d1
    have e3:=Int.dvd_sub e2 e1
    have e4:k*a c*b-k*(a c*b-1)=k:=by rw[Int.mul_sub,Int.mul_assoc];omega
    rw[e4]at e3;exact e3
   refine hsub.mod _ v (fun j _=>?_) hk
   have e:v j+k*a j-v j=k*a j:=by omega
   rw[e];exact Int.dvd_mul_of_dvd_left d2
def pivP (p m:Nat) (R0:(Nat->Int)->Prop) (c:Nat):Prop:=∃ v,Vc p m R0 c v/\¬ (p:Int) ∣ v c
theorem piv_iff {p m c:Nat} {R0 R:(Nat->Int)->Prop} (h:Inv p m R0 c R) (hc:c<m):pivP p m R0 c↔∃ r,R r/\¬ (p:Int) ∣ r c:=by
 constructor
 · rintro⟨v,hv,hn⟩
   refine Classical.byContradiction fun hno=>hn (sp_col hc (fun r hr=>Classical.byContradiction fun hd=>hno ⟨r,hr,hd⟩) ((h v).2 hv))
 · rintro⟨r,hr,hn⟩
   exact⟨r,(h r).1 (Sp.mem hr),hn⟩
open Classical in
noncomputable def rkTo (p m:Nat) (R0:(Nat->Int)->Prop):Nat->Nat
 |0=>0
 |c+1=>rkTo p m R0 c+(if pivP p m R0 c then 1 else 0)
theorem rkTo_yes {p m c:Nat} {R0:(Nat->Int)->Prop} (h:pivP p m R0 c):rkTo p m R0 (c+1)=rkTo p m R0 c+1:=by
 show rkTo p m R0 c+_=_;rw[if_pos h]
theorem rkTo_no {p m c:Nat} {R0:(Nat->Int)->Prop} (h:¬ pivP p m R0 c):rkTo p m R0 (c+1)=rkTo p m R0 c:=by
 show rkTo p m R0 c+_=_;rw[if_neg h];rfl
theorem rkTo_le (p m:Nat) (R0:(Nat->Int)->Prop) (c:Nat):rkTo p m R0 c<=c:=by
 induction c with
 |zero=>exact Nat.le_refl _
 |succ c ih=>
  by_cases h:pivP p m R0 c
  · rw[rkTo_yes h];omega
  · rw[rkTo_no h];omega
theorem tmod_same (x:Int) (p:Nat):(p:Int) ∣ x-x.tmod p:=⟨x.tdiv p,by have:=Int.mul_tdiv_add_tmod x p;omega⟩
theorem tmod_in {x:Int} {p:Nat} (hp:0<p) (hx:0<=x):0<=x.tmod p/\x.tmod p<p:=⟨Int.tmod_nonneg _ hx,Int.tmod_lt_of_pos _ (by omega)⟩
theorem tmod_zero (x:Int) (p:Nat):x.tmod p=0↔(p:Int) ∣ x:=by
 constructor
 · intro h;have:=tmod_same x p;rw[h]at this;simpa using this
 · intro h;exact Int.tmod_eq_zero_of_dvd h
theorem small_dvd {x:Int} {p:Nat} (h0:0<=x) (h1:x<p):(p:Int) ∣ x↔x=0:=by
 constructor
 · rintro⟨k,e⟩
   by_cases hk:k<=0
   · have:(p:Int)*k<=0:=Int.mul_nonpos_of_nonneg_of_nonpos (by omega) hk
     omega
   · have:(p:Int)*1<=p*k:=Int.mul_le_mul_of_nonneg_left (by omega) (by omega)
     omega
 · intro e;rw[e];exact Int.dvd_zero _
theorem inv_int {p:Nat} (hp:p<98) (h:primeN p=true) (x:Int) (hx:¬ (p:Int) ∣ x):∃ b:Int,(p:Int) ∣ x*b-1:=by
 have h2:2<=p:=by
  have:=(Bool.and_eq_true_iff.1 h).1
  simpa using this
 have hr0:0<=x%p:=Int.emod_nonneg _ (by omega)
 have hr1:x%p<p:=Int.emod_lt_of_pos _ (by omega)
 obtain⟨a,ha⟩:∃ a:Nat,x%p=(a:Int):=⟨(x%p).toNat,by omega⟩
 have ha0:a≠0:=fun e=>hx (Int.dvd_of_emod_eq_zero (by rw[ha,e];rfl))
 obtain⟨b,-,e⟩:=inv_ex hp h (by omega) ha0
 refine⟨b,?_⟩
 have e1:(p:Int) ∣ (a:Int)*b-1:=by
  refine⟨((a*b / p:Nat):Int),?_⟩
  have:=Nat.div_add_mod (a*b) p
  rw[e]at this
  have t:((p*(a*b / p)+1:Nat):Int)=((a*b:Nat):Int):=by rw[this]
  push_cast at t
  push_cast
  omega
 have e2:(p:Int) ∣ (x-a)*b:=Int.dvd_mul_of_dvd_left (by rw[<-ha];exact⟨x / p,by have:=Int.mul_ediv_add_emod x p;omega⟩)
 have e3:=Int.dvd_add e1 e2
 have e4:(a:Int)*b-1+(x-a)*b=x*b-1:=by rw[Int.sub_mul];omega
 rw[e4]at e3;exact e3
end Go.Proofs.YtnemnpcbhfedcaaGreatDoor
/- Plain mathematics: rings of a renaming, and what becomes of them where two places are traded: two rings become one, or one becomes two. -/
namespace Go.Proofs.YtnemnpcbhfedcaaGreatDoor
structure Bij (f:Nat->Nat) (M:Nat):Prop where
 lt:∀ x,x<M->f x<M
 inj:∀ x y,x<M->y<M->f x=f y->x=y
def it (f:Nat->Nat):Nat->Nat->Nat
 |0,x=>x
 |i+1,x=>f (it f i x)
theorem it_lt {f:Nat->Nat} {M:Nat} (h:Bij f M) {x:Nat} (hx:x<M):∀ i,it f i x<M:=by
 intro i
 induction i with
 |zero=>exact hx
 |succ i ih=>exact h.lt _ ih
theorem it_add (f:Nat->Nat) (x:Nat):∀ i j,it f (i+j) x=it f i (it f j x):=by
 intro i j
 induction i with
 |zero=>rw[Nat.zero_add];rfl
 |succ i ih=>rw[show i+1+j=(i+j)+1 by omega];show f (it f (i+j) x)=f (it f i (it f j x));rw[ih]
theorem it_back {f:Nat->Nat} {M:Nat} (h:Bij f M) {x y:Nat} (hx:x<M) (hy:y<M):∀ i,it f i x=it f i y->x=y:=by
 intro i
 induction i with
 |zero=>exact id
 |succ i ih=>intro e;exact ih (h.inj _ _ (it_lt h hx i) (it_lt h hy i) e)
theorem period {f:Nat->Nat} {M:Nat} (h:Bij f M) {x:Nat} (hx:x<M):∃ p,0<p/\it f p x=x:=by
 refine Classical.byContradiction fun hn=>?_
 have hp:∀ p,0<p->it f p x≠x:=fun p h0 e=>hn ⟨p,h0,e⟩
 have hd:((List.range (M+1)).map fun i=>it f i x).Nodup:=by
  unfold List.Nodup
  rw[List.pairwise_map]
  refine List.Pairwise.imp ?_ (List.pairwise_lt_range (n:=M+1))
  intro i j hij e
  have e2:it f i x=it f i (it f (j-i) x):=by rw[<-it_add,show i+(j-i)=j by omega];exact e
  exact hp (j-i) (by omega) (it_back h hx (it_lt h hx _) i e2).symm
 have hl := hd.length_le_of_subset (l₂ := List.range M) (fun y hy => by
  obtain⟨i,-,rfl⟩:=List.mem_map.1 hy
  exact List.mem_range.2 (it_lt h hx i))
 rw[List.length_map,List.length_range,List.length_range]at hl
 omega
def eds (f:Nat->Nat) (M:Nat):List (Nat×Nat):=(List.range M).map fun i=>(i,f i)
theorem eds_mem {f:Nat->Nat} {M i:Nat} (h:i<M):(i,f i)∈eds f M:=List.mem_map.2 ⟨i,List.mem_range.2 h,rfl⟩
theorem eds_lt {f:Nat->Nat} {M:Nat} (h:∀ x,x<M->f x<M):∀ e,e∈eds f M->e.1<M/\e.2<M:=fun e he=>by
 obtain⟨i,hi,rfl⟩:=List.mem_map.1 he
 exact⟨List.mem_range.1 hi,h _ (List.mem_range.1 hi)⟩
theorem closed_eds {f:Nat->Nat} {M:Nat} {S:Nat->Prop}:Closed (eds f M) S↔∀ i,i<M->(S i↔S (f i)):=by
 constructor
 · intro h i hi
   exact h _ (eds_mem hi)
 · intro h e he
   obtain⟨i,hi,rfl⟩:=List.mem_map.1 he
   exact h i (List.mem_range.1 hi)
theorem con_f {f:Nat->Nat} {M x:Nat} (hx:x<M):Con (eds f M) x (f x):=Con.edge (eds_mem hx)
theorem con_it {f:Nat->Nat} {M:Nat} (h:Bij f M) {x:Nat} (hx:x<M):∀ i,Con (eds f M) x (it f i x):=by
 intro i
 induction i with
 |zero=>exact Con.refl _ _
 |succ i ih=>exact ih.trans (con_f (it_lt h hx i))
theorem it_con {f:Nat->Nat} {M:Nat} (h:Bij f M) {x y:Nat} (hx:x<M) (hc:Con (eds f M) x y):∃ i,it f i x=y:=by
 refine hc (fun z=>∃ i,it f i x=z) (closed_eds.2 fun z hz=>⟨?_,?_⟩) ⟨0,rfl⟩
 · rintro⟨i,rfl⟩
   exact⟨i+1,rfl⟩
 · rintro⟨i,e⟩
   cases i with
   |zero=>
    obtain⟨p,h0,hp⟩:=period h hx
    cases p with
    |zero=>omega
    |succ p=>
     refine⟨p,h.inj _ _ (it_lt h hx p) hz ?_⟩
     have e1:x=f z:=e
     exact Eq.trans hp e1
   |succ i=>exact⟨i,h.inj _ _ (it_lt h hx i) hz e⟩
theorem first_of {P:Nat->Prop} (h:∃ i,P i):∃ r,P r/\∀ i,i<r->¬ P i:=by
 obtain⟨i,hi⟩:=h
 induction i using Nat.strongRecOn with
 |ind i ih=>
  by_cases hs:∃ j,j<i/\P j
  · obtain⟨j,hj,hp⟩:=hs
    exact ih j hj hp
  · exact⟨i,hi,fun j hj hp=>hs ⟨j,hj,hp⟩⟩
def tr (f:Nat->Nat) (a b x:Nat):Nat:=if x=a then f b else if x=b then f a else f x
theorem tr_a (f:Nat->Nat) (a b:Nat):tr f a b a=f b:=by simp[tr]
theorem tr_b (f:Nat->Nat) (a b:Nat):tr f a b b=f a:=by
 unfold tr
 by_cases h:b=a
 · rw[if_pos h,h]
 · rw[if_neg h,if_pos rfl]
theorem tr_o (f:Nat->Nat) {a b x:Nat} (h1:x≠a) (h2:x≠b):tr f a b x=f x:=by simp[tr,h1,h2]
theorem tr_tr (f:Nat->Nat) (a b x:Nat):tr (tr f a b) a b x=f x:=by
 by_cases h1:x=a
 · rw[h1,tr_a,tr_b]
 · by_cases h2:x=b
   · rw[h2,tr_b,tr_a]
   · rw[tr_o _ h1 h2,tr_o _ h1 h2]
theorem Bij.tr {f:Nat->Nat} {M:Nat} (h:Bij f M) {a b:Nat} (ha:a<M) (hb:b<M):Bij (tr f a b) M:=by
 have key:∀ x,x<M->∃ z,z<M/\Proofs.YtnemnpcbhfedcaaGreatDoor.tr f a b x=f z/\(x=a->z=b)/\(x=b->z=a)/\(x≠a->x≠b->z=x):=by
  intro x hx
  by_cases h1:x=a
  · exact⟨b,hb,by rw[h1,tr_a],fun _=>rfl,fun e=>by omega,fun q=>absurd h1 q⟩
  · by_cases h2:x=b
    · exact⟨a,ha,by rw[h2,tr_b],fun q=>absurd q h1,fun _=>rfl,fun _ q=>absurd h2 q⟩
    · exact⟨x,hx,tr_o f h1 h2,fun q=>absurd q h1,fun q=>absurd q h2,fun _ _=>rfl⟩
 refine⟨fun x hx=>?_,fun x y hx hy e=>?_⟩
 · obtain⟨z,hz,e,-⟩:=key x hx
   rw[e]
   exact h.lt z hz
 · obtain⟨z,hz,e1,p1,p2,p3⟩:=key x hx
   obtain⟨u,hu,e2,q1,q2,q3⟩:=key y hy
   have e3:z=u:=h.inj z u hz hu (by rw[<-e1,<-e2,e])
   by_cases c1:x=a
   · have:=p1 c1
     by_cases c2:y=a
     · omega
     · by_cases c3:y=b
       · have:=q2 c3;omega
       · have:=q3 c2 c3;omega
   · by_cases c1b:x=b
     · have:=p2 c1b
       by_cases c2:y=a
       · have:=q1 c2;omega
       · by_cases c3:y=b
         · omega
         · have:=q3 c2 c3;omega
     · have:=p3 c1 c1b
       by_cases c2:y=a
       · have:=q1 c2;omega
       · by_cases c3:y=b
         · have:=q2 c3;omega
         · have:=q3 c2 c3;omega
theorem con_tr {f:Nat->Nat} {M:Nat} (h:Bij f M) {a b:Nat} (ha:a<M) (hb:b<M) (hn:¬ Con (eds f M) a b):Con (eds (tr f a b) M) a b:=by
 intro S hS hSa
 have hS':=closed_eds.1 hS
 have h1:S (f b):=by have:=(hS' a ha).1 hSa;rwa [tr_a]at this
 obtain⟨p,h0,hp⟩:=period h hb
 have key:∀ i,S b∨S (it f (i+1) b):=by
  intro i
  induction i with
  |zero=>exact Or.inr h1
  |succ i ih=>
   rcases ih with ih|ih
   · exact Or.inl ih
   · by_cases e:it f (i+1) b=b
     · rw[e]at ih;exact Or.inl ih
     · have ea:it f (i+1) b≠a:=fun q=>hn (q▸(con_it h hb (i+1)).symm)
       have:=(hS' _ (it_lt h hb (i+1))).1 ih
       rw[tr_o f ea e]at this
       exact Or.inr this
 have:=key (p-1)
 rw[show p-1+1=p by omega,hp]at this
 exact this.elim id id
theorem con_join {f:Nat->Nat} {M:Nat} (h:Bij f M) {a b:Nat} (ha:a<M) (hb:b<M) (hn:¬ Con (eds f M) a b) (x y:Nat):Con (eds (tr f a b) M) x y↔Con (eds f M++[(a,b)]) x y:=by
 have hab:=con_tr h ha hb hn
 constructor
 · intro hc S hS
   refine hc S (closed_eds.2 fun i hi=>?_)
   have h1:=closed_eds.1 (fun e he=>hS e (List.mem_append_left _ he):Closed (eds f M) S)
   have h2:S a↔S b:=hS (a,b) (List.mem_append_right _ (List.Mem.head _))
   by_cases e1:i=a
   · rw[e1,tr_a,h2];exact h1 b hb
   · by_cases e2:i=b
     · rw[e2,tr_b,<-h2];exact h1 a ha
     · rw[tr_o f e1 e2];exact h1 i hi
 · intro hc S hS
   have h1:=closed_eds.1 hS
   have h2:S a↔S b:=⟨hab S hS,hab.symm S hS⟩
   refine hc S fun e he=>?_
   rcases List.mem_append.1 he with he|he
   · obtain⟨i,hi,rfl⟩:=List.mem_map.1 he
     have hi:=List.mem_range.1 hi
     show S i↔S (f i)
     by_cases e1:i=a
     · rw[e1,h2];have:=h1 b hb;rwa [tr_b]at this
     · by_cases e2:i=b
       · rw[e2,<-h2];have:=h1 a ha;rwa [tr_a]at this
       · have:=h1 i hi;rwa [tr_o f e1 e2]at this
   · rw[List.mem_singleton.1 he];exact h2
theorem con_part {f:Nat->Nat} {M:Nat} (h:Bij f M) {a b:Nat} (ha:a<M) (hb:b<M) (hab:a≠b) (hc:Con (eds f M) a b):¬ Con (eds (tr f a b) M) a b:=by
 intro hcon
 obtain⟨r,hr,hmin⟩:=first_of (it_con h hb hc.symm)
 have r0:0<r:=Nat.pos_of_ne_zero fun q=>by rw[q]at hr;exact hab hr.symm
 have hB:=h.tr ha hb
 have nb:∀ i,1<=i->i<=r->it f i b≠b:=fun i h1 h2 e=>by
  by_cases e2:i=r
  · rw[e2,hr]at e;exact hab e
  · refine hmin (r-i) (by omega) ?_
    have:=it_add f b (r-i) i
    rw[e,show r-i+i=r by omega,hr]at this
    exact this.symm
 have nxt:∀ i,1<=i->i<r->tr f a b (it f i b)=it f (i+1) b:=fun i h1 h2=>tr_o f (hmin i h2) (nb i h1 (by omega))
 have hS:Closed (eds (tr f a b) M) fun z=>∃ i,1<=i/\i<=r/\it f i b=z:=closed_eds.2 fun z hz=>by
  constructor
  · rintro⟨i,h1,h2,rfl⟩
    by_cases e:i=r
    · rw[e,hr,tr_a];exact⟨1,Nat.le_refl _,r0,rfl⟩
    · exact⟨i+1,by omega,by omega,(nxt i h1 (by omega)).symm⟩
  · rintro⟨i,h1,h2,e⟩
    by_cases e1:i=1
    · refine⟨r,r0,Nat.le_refl _,?_⟩
      rw[hr]
      refine hB.inj a z ha hz ?_
      rw[tr_a,<-e,e1]
      rfl
    · refine⟨i-1,by omega,by omega,?_⟩
      refine hB.inj _ z (it_lt h hb _) hz ?_
      rw[nxt (i-1) (by omega) (by omega),<-e,show i-1+1=i by omega]
 obtain⟨i,h1,h2,e⟩:=hcon _ hS ⟨r,r0,Nat.le_refl _,hr⟩
 exact nb i h1 h2 e
def rq (W:List Nat) (Q:Nat->Bool):Nat->Nat
 |0=>0
 |k+1=>rq W Q k+(if W.getD k 0=k/\Q k=true then 1 else 0)
theorem rq_mer {Ed:List (Nat×Nat)} {n:Nat} {W:List Nat} (h:Least Ed n W) (Q:Nat->Bool) {x y:Nat} (hx:x<n) (hy:y<n) (hne:W.getD x 0≠W.getD y 0):∀ k,k<=n->rq (mer W x y) Q k+(if max (W.getD x 0) (W.getD y 0)<k/\Q (max (W.getD x 0) (W.getD y 0))=true then 1 else 0)=rq W Q k:=by
 have rx:=h.root hx
 have ry:=h.root hy
 generalize hmx:max (W.getD x 0) (W.getD y 0)=m
 have hmr:W.getD m 0=m:=by
  rcases Nat.le_total (W.getD x 0) (W.getD y 0) with hle|hle
  · have:m=W.getD y 0:=by omega
    rw[this];exact ry
  · have:m=W.getD x 0:=by omega
    rw[this];exact rx
 intro k
 induction k with
 |zero=>intro _;simp[rq]
 |succ k ih=>
  intro hk
  have i1:=ih (by omega)
  have hm:=mer_at W x y k (by rw[h.1];omega)
  rw[hmx]at hm
  simp only[rq]
  by_cases he:k=m
  · subst he
    rw[if_pos hmr]at hm
    rw[if_neg (by omega)]at i1
    rw[if_neg (show ¬ ((mer W x y).getD k 0=k/\Q k=true) from fun q=>by have:=q.1;omega)]
    by_cases hq:Q k=true
    · rw[if_pos (show k<k+1/\Q k=true from⟨by omega,hq⟩),if_pos (show W.getD k 0=k/\Q k=true from⟨hmr,hq⟩)];omega
    · rw[if_neg (show ¬ (k<k+1/\Q k=true) from fun q=>hq q.2),if_neg (show ¬ (W.getD k 0=k/\Q k=true) from fun q=>hq q.2)];omega
  · have hiff : ((mer W x y).getD k 0 = k) ↔ (W.getD k 0 = k) := by
      by_cases hr:W.getD k 0=k
      · rw[if_neg (by omega)]at hm
        rw[hm]
      · have h2 : ¬ (mer W x y).getD k 0 = k := by
          rw[hm]
          split
          · intro e
            rcases Nat.le_total (W.getD x 0) (W.getD y 0) with hle2|hle2
            · have e1:k=W.getD x 0:=by omega
              exact hr (by rw[e1];exact rx)
            · have e1:k=W.getD y 0:=by omega
              exact hr (by rw[e1];exact ry)
          · exact hr
        exact⟨fun q=>absurd q h2,fun q=>absurd q hr⟩
    rw[show(if(mer W x y).getD k 0=k/\Q k=true then 1 else 0)=(if W.getD k 0=k/\Q k=true then 1 else 0) by simp only[hiff]]
    by_cases hq:m<k/\Q m=true
    · rw[if_pos hq]at i1
      rw[if_pos (show m<k+1/\Q m=true from⟨by omega,hq.2⟩)]
      omega
    · rw[if_neg hq]at i1
      rw[if_neg (show ¬ (m<k+1/\Q m=true) from fun q=>hq ⟨by omega,q.2⟩)]
      omega
def cyW (f:Nat->Nat) (M:Nat):List Nat:=levR (List.range M) (eds f M) M
theorem cyW_least {f:Nat->Nat} {M:Nat} (h:∀ x,x<M->f x<M):Least (eds f M) M (cyW f M):=levR_least (eds_lt h) M (Nat.le_refl _)
def cyN (f:Nat->Nat) (M:Nat) (Q:Nat->Bool):Nat:=rq (cyW f M) Q M
theorem least_congr {E F:List (Nat×Nat)} {n:Nat} {W:List Nat} (h:Least E n W) (e:∀ x y,Con E x y↔Con F x y):Least F n W:=
 ⟨h.1,fun v hv=>⟨(e _ _).1 (h.2 v hv).1,fun u hu=>(h.2 v hv).2 u ((e _ _).2 hu)⟩⟩
theorem cyN_join {f:Nat->Nat} {M:Nat} (h:Bij f M) (Q:Nat->Bool) {a b:Nat} (ha:a<M) (hb:b<M) (hn:¬ Con (eds f M) a b) (hQ:∀ x y,x<M->Con (eds f M) x y->Q x=Q y) (hab:Q a=Q b):cyN (tr f a b) M Q+(if Q a=true then 1 else 0)=cyN f M Q:=by
 have hW:=cyW_least h.lt
 have hW':=cyW_least (h.tr ha hb).lt
 have e:cyW (tr f a b) M=mer (cyW f M) a b:=hW'.eq (least_congr (mer_least hW a b ha hb (eds_lt h.lt)) fun x y=>(con_join h ha hb hn x y).symm)
 have hne:(cyW f M).getD a 0≠(cyW f M).getD b 0:=fun q=>hn ((hW.same ha hb).1 q)
 have hm:=rq_mer hW Q ha hb hne M (Nat.le_refl _)
 have la:=hW.lt ha
 have lb:=hW.lt hb
 have qa:=hQ a _ ha (hW.2 a ha).1
 have qb:=hQ b _ hb (hW.2 b hb).1
 have qm:Q (max ((cyW f M).getD a 0) ((cyW f M).getD b 0))=Q a:=by
  rcases Nat.le_total ((cyW f M).getD a 0) ((cyW f M).getD b 0) with hle|hle
  · rw[Nat.max_eq_right hle,<-qb,hab]
  · rw[Nat.max_eq_left hle,<-qa]
 rw[qm]at hm
 unfold cyN
 rw[e,<-hm]
 by_cases hq:Q a=true
 · rw[if_pos hq,if_pos ⟨by omega,hq⟩]
 · rw[if_neg hq,if_neg fun q=>hq q.2]
theorem eds_congr {f g:Nat->Nat} {M:Nat} (e:∀ x,x<M->f x=g x):eds f M=eds g M:=by
 unfold eds
 refine List.map_congr_left fun i hi=>?_
 rw[e i (List.mem_range.1 hi)]
theorem cyN_congr {f g:Nat->Nat} {M:Nat} (e:∀ x,x<M->f x=g x) (Q:Nat->Bool):cyN f M Q=cyN g M Q:=by
 unfold cyN cyW
 rw[eds_congr e]
theorem cyN_part {f:Nat->Nat} {M:Nat} (h:Bij f M) (Q:Nat->Bool) {a b:Nat} (ha:a<M) (hb:b<M) (hne:a≠b) (hc:Con (eds f M) a b) (hQ:∀ x y,x<M->Con (eds f M) x y->Q x=Q y):cyN f M Q+(if Q a=true then 1 else 0)=cyN (tr f a b) M Q:=by
 have hn:=con_part h ha hb hne hc
 have hB:=h.tr ha hb
 have hQ':∀ x y,x<M->Con (eds (tr f a b) M) x y->Q x=Q y:=fun x y hx hxy=>by
  have := hxy (fun z => Q x = Q z) (closed_eds.2 fun i hi => by
   have e:Q i=Q (tr f a b i):=by
    by_cases e1:i=a
    · rw[e1,tr_a,hQ a b ha hc];exact hQ b _ hb (con_f hb)
    · by_cases e2:i=b
      · rw[e2,tr_b,<-hQ a b ha hc];exact hQ a _ ha (con_f ha)
      · rw[tr_o f e1 e2];exact hQ i _ hi (con_f hi)
   rw[e]) rfl
  exact this
 have k:=cyN_join hB Q ha hb hn hQ' (hQ a b ha hc)
 rw[cyN_congr (fun x _=>tr_tr f a b x)]at k
 exact k
end Go.Proofs.YtnemnpcbhfedcaaGreatDoor
/- Plain mathematics: the walks along a renaming begin each at the lowest of its ring: there are as many as rings. -/
namespace Go.Proofs.YtnemnpcbhfedcaaGreatDoor
def up0 (f:Nat->Nat) (x:Nat):Nat:=if x=0 then 0 else f x
theorem up0_pos (f:Nat->Nat) {x:Nat} (h:1<=x):up0 f x=f x:=by unfold up0;rw[if_neg (by omega)]
theorem bij_up0 {f:Nat->Nat} {n:Nat} (hf:∀ a,1<=a->a<=n->1<=f a/\f a<=n) (hi:∀ a b,1<=a->a<=n->1<=b->b<=n->f a=f b->a=b):Bij (up0 f) (n+1):=by
 refine⟨fun x hx=>?_,fun x y hx hy e=>?_⟩
 · by_cases h:x=0
   · rw[h];exact Nat.succ_pos n
   · rw[up0_pos f (by omega)];have:=hf x (by omega) (by omega);omega
 · by_cases h:x=0
   · by_cases g:y=0
     · omega
     · rw[h,up0_pos f (show 1<=y by omega)]at e
       have:=hf y (by omega) (by omega)
       have e0:up0 f 0=0:=rfl
       omega
   · by_cases g:y=0
     · rw[g,up0_pos f (show 1<=x by omega)]at e
       have:=hf x (by omega) (by omega)
       have e0:up0 f 0=0:=rfl
       omega
     · rw[up0_pos f (show 1<=x by omega),up0_pos f (show 1<=y by omega)]at e
       exact hi x y (by omega) (by omega) (by omega) (by omega) e
theorem walkF_head (f:Nat->Nat):∀ (m:Nat) (seen:List Bool) (x z:Nat) (acc:List Nat),(walkF f m seen x (z::acc)).1.getD 0 0=z/\(walkF f m seen x (z::acc)).1≠[]:=by
 intro m
 induction m with
 |zero=>intro seen x z acc;exact⟨rfl,by simp[walkF]⟩
 |succ m ih=>
  intro seen x z acc
  simp only[walkF]
  split
  · exact⟨rfl,by simp⟩
  · exact ih _ _ z (acc++[x])
theorem walkF_new (f:Nat->Nat) (m:Nat) (seen:List Bool) (x:Nat) (h:un seen x=1):(walkF f (m+1) seen x []).1.getD 0 0=x/\(walkF f (m+1) seen x []).1≠[]:=by
 have h1:¬ seen.getD x true=true:=fun q=>by unfold un at h;rw[if_pos q]at h;omega
 simp only[walkF]
 rw[if_neg h1]
 exact walkF_head f m _ _ x []
theorem un_seen {seen:List Bool} {x:Nat} (h:un seen x=0):seen.getD x true=true:=by
 refine Classical.byContradiction fun q=>?_
 unfold un at h
 rw[if_neg q]at h
 omega
theorem seen_in {f:Nat->Nat} {n a y:Nat} (h1:1<=y) (h2:y<=n):un (walksTo f n a).2 y=0↔∃ l,l∈(walksTo f n a).1/\y∈l:=by
 have h:=walksTo_one f n a y h1 h2
 have hc:1<=(walksTo f n a).1.flatten.count y↔∃ l,l∈(walksTo f n a).1/\y∈l:=by rw[List.one_le_count_iff,List.mem_flatten]
 rw[<-hc]
 omega
theorem zero_apart {f:Nat->Nat} {n:Nat} (hf:∀ a,1<=a->a<=n->1<=f a/\f a<=n) {x:Nat} (hx:1<=x):¬ Con (eds (up0 f) (n+1)) x 0:=fun hc=>by
 have := hc (fun z => 1 ≤ z) (closed_eds.2 fun i hi => by
  by_cases h:i=0
  · subst h;exact Iff.rfl
  · rw[up0_pos f (by omega)]
    have:=(hf i (by omega) (by omega)).1
    exact⟨fun _=>this,fun _=>by omega⟩) hx
 exact absurd this (by decide)
theorem seen_closed {f:Nat->Nat} {n:Nat} (hf:∀ a,1<=a->a<=n->1<=f a/\f a<=n) (hi:∀ a b,1<=a->a<=n->1<=b->b<=n->f a=f b->a=b) (a:Nat) (ha:a<=n):Closed (eds (up0 f) (n+1)) fun z=>1<=z/\un (walksTo f n a).2 z=0:=by
 obtain⟨r1,r2,-⟩:=rings_closed hf hi a ha
 refine closed_eds.2 fun i hin=>?_
 by_cases h:i=0
 · subst h;exact Iff.rfl
 · rw[up0_pos f (by omega)]
   have hfi:=hf i (by omega) (by omega)
   constructor
   · rintro⟨h1,h2⟩
     obtain⟨l,hl,hy⟩:=(seen_in h1 (by omega)).1 h2
     exact⟨hfi.1,(seen_in hfi.1 hfi.2).2 ⟨l,hl,r1 l hl i hy⟩⟩
   · rintro⟨-,h2⟩
     exact⟨by omega,r2 i (by omega) (by omega) h2⟩
theorem ring_con {f:Nat->Nat} {n:Nat} {l:List Nat} (hm:∀ y,y∈l->1<=y/\y<=n) (hc:∀ i,i+1<l.length->l.getD (i+1) 0=f (l.getD i 0)):∀ i,i<l.length->Con (eds (up0 f) (n+1)) (l.getD 0 0) (l.getD i 0):=by
 intro i
 induction i with
 |zero=>intro _;exact Con.refl _ _
 |succ i ih=>
  intro hi
  have hb:=hm _ (at_mem (l:=l) (i:=i) (by omega))
  have h1:=con_f (f:=up0 f) (M:=n+1) (x:=l.getD i 0) (by omega)
  rw[up0_pos f hb.1,<-hc i hi]at h1
  exact(ih (by omega)).trans h1
theorem heads_roots {f : Nat → Nat} {n : Nat} (hf : ∀ a, 1 ≤ a → a ≤ n → 1 ≤ f a ∧ f a ≤ n) (hi : ∀ a b, 1 ≤ a → a ≤ n → 1 ≤ b → b ≤ n → f a = f b → a = b) : ∀ a, a ≤ n →
    (∀ l,l∈(walksTo f n a).1->1<=l.getD 0 0/\l.getD 0 0<=a)/\
    ∀ Q:Nat->Bool,Q 0=false->(walksTo f n a).1.countP (fun l=>Q (l.getD 0 0))=rq (cyW (up0 f) (n+1)) Q (a+1):=by
 have hB:=bij_up0 hf hi
 have hW:=cyW_least hB.lt
 intro a
 induction a with
 |zero=>
  intro _
  refine⟨fun l hl=>absurd hl (by simp[walksTo]),fun Q q0=>?_⟩
  simp[walksTo,rq,q0]
 |succ a ih=>
  intro ha
  obtain⟨i1,i2⟩:=ih (by omega)
  have hcl:=seen_closed hf hi a (by omega)
  have hin:=walksTo_mem hf a (by omega)
  obtain⟨-,-,r3⟩:=rings_closed hf hi a (by omega)
  by_cases hs:un (walksTo f n a).2 (a+1)=0
  · have e : walksTo f n (a + 1) = walksTo f n a := by
      simp only[walksTo]
      rw[walkF_seen (un_seen hs)]
      rfl
    rw[e]
    refine⟨fun l hl=>⟨(i1 l hl).1,by have:=(i1 l hl).2;omega⟩,fun Q q0=>?_⟩
    rw[i2 Q q0]
    have hnr:(cyW (up0 f) (n+1)).getD (a+1) 0≠a+1:=fun q=>by
     obtain⟨l,hl,hy⟩:=(seen_in (by omega) ha).1 hs
     obtain⟨i,hil,ei⟩:=mem_atZ hy
     have hc:=ring_con (f:=f) (n:=n) (hin l hl).2.2 (r3 l hl).1 i hil
     rw[ei]at hc
     have:=(hW.2 (a+1) (by omega)).2 _ hc.symm
     have:=(i1 l hl).2
     omega
    show _=rq (cyW (up0 f) (n+1)) Q (a+1)+(if(cyW (up0 f) (n+1)).getD (a+1) 0=a+1/\Q (a+1)=true then 1 else 0)
    rw[if_neg fun q=>hnr q.1]
    rfl
  · have hs1:un (walksTo f n a).2 (a+1)=1:=by have:=un_le (walksTo f n a).2 (a+1);omega
    obtain⟨hh,hne⟩:=walkF_new f n (walksTo f n a).2 (a+1) hs1
    have e:(walksTo f n (a+1)).1=(walksTo f n a).1++[(walkF f (n+1) (walksTo f n a).2 (a+1) []).1]:=by
     simp only[walksTo]
     rw[if_neg hne]
    rw[e]
    refine⟨fun l hl=>?_,fun Q q0=>?_⟩
    · rcases List.mem_append.1 hl with h|h
      · exact⟨(i1 l h).1,by have:=(i1 l h).2;omega⟩
      · rw[List.mem_singleton.1 h,hh];omega
    · have hr : (cyW (up0 f) (n + 1)).getD (a + 1) 0 = a + 1 := by
        refine Classical.byContradiction fun q=>?_
        have hle:=hW.le (v:=a+1) (by omega)
        have hcn:=(hW.2 (a+1) (by omega)).1
        generalize hu:(cyW (up0 f) (n+1)).getD (a+1) 0=u at q hle hcn
        by_cases h0:u=0
        · rw[h0]at hcn
          exact zero_apart hf (by omega) hcn
        · have:=hcn.symm _ hcl ⟨by omega,walksTo_seen f n a u (by omega) (by omega)⟩
          exact hs this.2
      rw[List.countP_append,i2 Q q0]
      show _=rq (cyW (up0 f) (n+1)) Q (a+1)+(if(cyW (up0 f) (n+1)).getD (a+1) 0=a+1/\Q (a+1)=true then 1 else 0)
      rw[List.countP_singleton,hh]
      by_cases hq:Q (a+1)=true
      · rw[if_pos hq,if_pos ⟨hr,hq⟩]
      · rw[if_neg hq,if_neg fun q=>hq q.2]
theorem walks_cyN {f:Nat->Nat} {n:Nat} (hf:∀ a,1<=a->a<=n->1<=f a/\f a<=n) (hi:∀ a b,1<=a->a<=n->1<=b->b<=n->f a=f b->a=b) (Q:Nat->Bool) (q0:Q 0=false):(walksTo f n n).1.countP (fun l=>Q (l.getD 0 0))=cyN (up0 f) (n+1) Q:=(heads_roots hf hi n (Nat.le_refl _)).2 Q q0
end Go.Proofs.YtnemnpcbhfedcaaGreatDoor
/- The walk of wind.circles. -/
namespace Go.Proofs.YtnemnpcbhfedcaaGreatDoor
open Go.RowKit
set_option maxHeartbeats 8000000
set_option maxRecDepth 100000
theorem arcRings_aside (a : Option Addr) (cap : Nat) (C : List Cr) (loops : Int) (gF cF gT cT : Nat) (w : World) (hm : mayD C loops = true) (hD : Dr w a cap C gF gT) :
    Calls Tryz.prog 40 #[drV a cap C loops gF cF gT cT,.func (.func 42) #[drV a cap C loops gF cF gT cT] #[]] w fun e w'=>∃ v,e=.returned v/\NatsOwn w' w.heap.size v (circM C)/\Below w.heap.size w w':=by
 obtain⟨s1,-,-,-⟩:=sizeB_iff (may_size hm)
 obtain⟨i0,hi,hz0,hz1,hz2⟩:=info_parts infoInt
 obtain⟨i1,hj,hy0,hy1,hy2⟩:=info_parts infoInts
 obtain⟨i2,hk,hx0,hx1,hx2⟩:=info_parts infoBool
 unfold drV
 have HM:Hid (mayD C loops=true):=hm
 have HD:Hid (Dr w a cap C gF gT):=hD
 have HNX:Hid (∀ x,1<=x->x<=2*C.length->1<=sx C x/\sx C x<=2*C.length):=sx_closed hm
 have HWM:Hid (circM C=(walksTo (sx C) (2*C.length) (2*C.length)).1):=(rfl:circM C=(walksTo (sx C) (2*C.length) (2*C.length)).1)
 clear hm hD
 obtain⟨w0,hw0⟩:∃ w0,w0=w.alloc (.cells #[.slice a C.length cap,.int .i64 loops,.slice (some ⟨gF,0,none⟩) (2*C.length+1) cF,.slice (some ⟨gT,0,none⟩) (2*C.length+1) cT] 40):=⟨_,rfl⟩
 have HW0:Hid (w0=w.alloc (.cells #[.slice a C.length cap,.int .i64 loops,.slice (some ⟨gF,0,none⟩) (2*C.length+1) cF,.slice (some ⟨gT,0,none⟩) (2*C.length+1) cT] 40)):=hw0
 have hs0:w0.heap.size=w.heap.size+1:=by rw[hw0];simp
 have HB0:Hid (Below w.heap.size w w0):=(by rw[hw0];exact(Below.refl _ _).alloc (Nat.le_refl _) _:Below w.heap.size w w0)
 have HT0:Hid (w0.heap[w.heap.size]?=some (.cells #[.slice a C.length cap,.int .i64 loops,.slice (some ⟨gF,0,none⟩) (2*C.length+1) cF,.slice (some ⟨gT,0,none⟩) (2*C.length+1) cT] 40 (0,0))):=(by rw[hw0];exact alloc_at rfl:w0.heap[w.heap.size]?=some (.cells #[.slice a C.length cap,.int .i64 loops,.slice (some ⟨gF,0,none⟩) (2*C.length+1) cF,.slice (some ⟨gT,0,none⟩) (2*C.length+1) cT] 40 (0,0)))
 clear hw0
 go_enter Tryz.func40,Tryz.ntmps40
 go_wp2_with (first|(at_make;refine wpList_make_full _ rfl _ _ 122 rfl (w.heap.size+1) 4 i2 (.bool false) 1 Tryz.underlying122 hk hx0 hx1 .i64 .i64 _ _ (2*C.length+1) rfl rfl rfl rfl (by rw[hx2];omega) (by unfold maxLen;omega) (by simp) ?_;intro w1 hrow hg1;refine Hid.out ?_))
 refine Lib.hid ?_
 rw[<-HW0.out]at hrow hg1
 rw[made_false,hs0]at hrow
 have HK0:Hid (WkAt w (w.heap.size+1) (2*C.length+1) #[.slice a C.length cap,.int .i64 loops,.slice (some ⟨gF,0,none⟩) (2*C.length+1) cF,.slice (some ⟨gT,0,none⟩) (2*C.length+1) cT] 40 (2*C.length) (walksTo (sx C) (2*C.length) 0) (.slice none 0 0) [] w1):=
  ⟨(hg1.block _ (by omega) (by simp)).trans HT0.out,hrow,rfl,World.ownsRow_nil _ _ _ _,fun j hj=>absurd hj (Nat.not_lt_zero _),HB0.out.grown hg1 (by omega) (fun k hk=>by cases hk)⟩
 clear hrow hg1 HT0 HB0 hs0 HW0
 go_wp2
 go_loopw [5,7] (fun v3 v5 wr=>∃ (i j:Nat) (zs:List Value),i<=2*C.length/\Hid (j=i+1)/\v5=.int .i64 (j:Nat)/\WkAt w (w.heap.size+1) (2*C.length+1) #[.slice a C.length cap,.int .i64 loops,.slice (some ⟨gF,0,none⟩) (2*C.length+1) cF,.slice (some ⟨gT,0,none⟩) (2*C.length+1) cT] 40 (2*C.length) (walksTo (sx C) (2*C.length) i) v3 zs wr) (fun _ v5 _=>2*C.length+1-(intOf v5).toNat)
 case atStart=>exact⟨0,1,[],Nat.zero_le _,(rfl:1=0+1),rfl,HK0.out⟩
 case round=>
  clear HK0
  rename World=>W1
  obtain⟨i,j0,zs,hin,hji,rfl,hk⟩:=hrel
  have b3:W1.cell? ⟨w.heap.size,3,none⟩=some (.slice (some ⟨gT,0,none⟩) (2*C.length+1) cT):=block_cell hk.box rfl
  have HK:Hid (WkAt w (w.heap.size+1) (2*C.length+1) #[.slice a C.length cap,.int .i64 loops,.slice (some ⟨gF,0,none⟩) (2*C.length+1) cF,.slice (some ⟨gT,0,none⟩) (2*C.length+1) cT] 40 (2*C.length) (walksTo (sx C) (2*C.length) i) _ zs W1):=hk
  have hgS:=hk.seen.lt (w.heap.size+1) rfl
  have HSL:Hid ((walksTo (sx C) (2*C.length) i).2.length=2*C.length+1):=walksTo_len _ _ _
  have HCT:Hid ((walksTo (sx C) (2*C.length) i).1.length<=i):=walksTo_count _ _ _
  by_cases hil:i<2*C.length
  · have hsd:=hk.seen
    have hbl:=hk.bel
    have hj1:1<=j0:=by have:=hji.out;omega
    have hj2:j0<=2*C.length:=by have:=hji.out;omega
    have hdj:decide ((j0:Int)<2*(C.length:Int)+1)=true:=by simp;omega
    have hdj2:decide (j0<2*C.length+1)=true:=by simp;omega
    clear hk
    go_wp2
    go_loopw [8, 9] (fun v6 v7 ws => ∃ (f : Nat) (seen : List Bool) (x : Nat) (acc : List Nat), v7 = .int .i64 (x : Nat) ∧ 1 ≤ x ∧ x ≤ 2 * C.length ∧ Hid (walkF (sx C) (2 * C.length + 1) (walksTo (sx C) (2 * C.length) i).2 j0 [] = walkF (sx C) f seen x acc) ∧ Hid (unseen seen ≤ f) ∧ seen.length = 2 * C.length + 1 ∧ Hid (acc.length + unseen seen ≤ 2 * C.length + 1) ∧
        ws.ownsRow W1.heap.size 3 1 v6 acc.length (nats acc)/\ws.ownsRow (w.heap.size+1) 4 1 (.slice (some ⟨w.heap.size+1,0,none⟩) (2*C.length+1) (2*C.length+1)) (2*C.length+1) (bools seen)/\W1.grownBy ws (some (w.heap.size+1))/\Below w.heap.size w ws) (fun v6 _ _=>2*C.length+2-lenOf v6)
    case atStart=>exact⟨2*C.length+1,(walksTo (sx C) (2*C.length) i).2,j0,[],rfl,by omega,by omega,(rfl:walkF (sx C) (2*C.length+1) (walksTo (sx C) (2*C.length) i).2 j0 []=_),(by have:=unseen_le (walksTo (sx C) (2*C.length) i).2;rw[HSL.out]at this;exact this:unseen (walksTo (sx C) (2*C.length) i).2<=2*C.length+1),HSL.out,(by have:=unseen_le (walksTo (sx C) (2*C.length) i).2;rw[HSL.out]at this;simpa using this:([]:List Nat).length+unseen (walksTo (sx C) (2*C.length) i).2<=2*C.length+1),World.ownsRow_nil _ _ _ _,hsd,World.grownBy.refl _ _,hbl⟩
    case round=>
     clear hsd hbl b3
     rename World=>W3
     obtain⟨f,seen,x,acc,rfl,hx1,hx2,hwk,hun,hsl,hac,hown,hsd,hgr,hbl⟩:=hrel
     obtain⟨a6,c6,rfl⟩:=own_capS hown
     have e0:W3.cell? ⟨w.heap.size+1,x,none⟩=some (.bool (seen.getD x true)):=by
      rw[hsd.cellAt x (by omega)];exact bools_get seen x (by omega)
     have z0:W3.frozen? ⟨w.heap.size+1,x,none⟩=false:=hsd.frozenAt x
     have hszW:=hgr.size
     cases hbit:seen.getD x true with
     |false=>
      rw[hbit]at e0
      have hst:=hsd.stored x (.bool true)
      rw[bools_set]at hst
      have HSD:Hid ((W3.setCell ⟨w.heap.size+1,x,none⟩ (.bool true)).ownsRow (w.heap.size+1) 4 1 (.slice (some ⟨w.heap.size+1,0,none⟩) (2*C.length+1) (2*C.length+1)) (2*C.length+1) (bools (seen.set x true))):=hst.1
      have HGS:Hid (W3.grownBy (W3.setCell ⟨w.heap.size+1,x,none⟩ (.bool true)) (some (w.heap.size+1))):=hst.2
      have HOW:Hid ((W3.setCell ⟨w.heap.size+1,x,none⟩ (.bool true)).ownsRow W1.heap.size 3 1 (.slice a6 acc.length c6) acc.length (nats acc)):=hown.kept hst.2 (own_ne hown hsd (by decide))
      have HWK:Hid (walkF (sx C) f seen x acc=walkF (sx C) (f-1) (seen.set x true) (sx C x) (acc++[x])/\unseen (seen.set x true)<=f-1):=walkF_more hbit hun.out
      have HUS:Hid (unseen (seen.set x true)+1=unseen seen):=unseen_set hbit
      have hacl:acc.length<2*C.length+1:=by have:=hac.out;have:=HUS.out;omega
      have hs3:(W3.setCell ⟨w.heap.size+1,x,none⟩ (.bool true)).heap.size=W3.heap.size:=by simp
      have hlt3:w.heap.size+1<W3.heap.size:=by omega
      have HB3:Hid (Below w.heap.size w (W3.setCell ⟨w.heap.size+1,x,none⟩ (.bool true))):=hbl.grown hst.2 hbl.size (fun q hq=>by have:=Option.some.inj hq;omega)
      have HG3:Hid (W1.grownBy (W3.setCell ⟨w.heap.size+1,x,none⟩ (.bool true)) (some (w.heap.size+1))):=grown_trans hgr hst.2
      have HX:Hid (1<=sx C x/\sx C x<=2*C.length):=HNX.out x hx1 hx2
      clear hst hsd hown hgr hbl
      go_wp2_with (first
       |(at_builtin;refine wpList_append_own _ rfl _ _ 53 rfl W1.heap.size 3 i0 (.int .i64 0) 1 8 Tryz.underlying53 hi hz0 hz1 hz2 rfl (by decide) _ _ _ rfl (HOW.out.alloc _) ⟨W3.heap.size,0,none⟩ 1 1 [.int .i64 (x:Nat)] rfl rfl (by rw[<-hs3];exact new_cell1 _ _ _) (int_one _) (by unfold maxLen;omega) (by omega) (by simp;omega) ?_;intro v8 w8 hown8 hg8 _;refine Hid.out ?_))
      refine Lib.hid ?_
      have HG8:Hid (((W3.setCell ⟨w.heap.size+1,x,none⟩ (.bool true)).alloc (.cells #[.int .i64 (x:Nat)] 3)).grownBy w8 (Value.slice a6 acc.length c6).ownBlock):=hg8
      have HO8:Hid (w8.ownsRow W1.heap.size 3 1 v8 (acc++[x]).length (nats (acc++[x]))):=(by rw[List.length_append,nats_app];exact hown8:w8.ownsRow W1.heap.size 3 1 v8 (acc++[x]).length (nats (acc++[x])))
      have hA:=HOW.out.alloc (.cells #[.int .i64 (x:Nat)] 3)
      have hS:=HSD.out.alloc (.cells #[.int .i64 (x:Nat)] 3)
      have HS8:Hid (w8.ownsRow (w.heap.size+1) 4 1 (.slice (some ⟨w.heap.size+1,0,none⟩) (2*C.length+1) (2*C.length+1)) (2*C.length+1) (bools (seen.set x true))):=hS.kept HG8.out (own_ne hS hA (by decide))
      have HG18:Hid (W1.grownBy w8 (some (w.heap.size+1))):=grown_new (grown_trans HG3.out (grown_none (World.grownBy_alloc _ _ none))) HG8.out (fun q hq=>(hA.lt q hq).1)
      have HB8:Hid (Below w.heap.size w w8):=(HB3.out.alloc (by rw[hs3];omega) _).grown HG8.out (by simp;omega) (fun q hq=>by have:=(hA.lt q hq).1;omega)
      have HX8:Hid (w8.heap[w.heap.size]?=some (.cells #[.slice a C.length cap,.int .i64 loops,.slice (some ⟨gF,0,none⟩) (2*C.length+1) cF,.slice (some ⟨gT,0,none⟩) (2*C.length+1) cT] 40 (0,0))):=(HG18.out.block _ (by omega) (fun e=>by have:=Option.some.inj e;omega)).trans HK.out.box
      have HD8:Hid (Dr w8 a cap C gF gT):=HD.out.on HB8.out
      clear hA hS hg8 hown8 e0 z0
      go_wp2_with (go_at_call 42;refine(aside_any a cap C loops gF cF gT cT x _ HM.out hx1 hx2 HD8.out).mono ?_;rintro e9 w9 ⟨rfl,hb9⟩;refine Hid.out ?_)
      refine Lib.hid ?_
      have HB9:Hid (Below w8.heap.size w8 w9):=hb9
      clear hb9
      obtain⟨hn1,hn2⟩:=HX.out
      obtain⟨y,hy⟩:∃ y,sx C x=y:=⟨_,rfl⟩
      rw[hy]at hn1 hn2 HWK ⊢
      have hg9:w8.grownBy w9 none:=grown_below HB9.out none
      go_wp2
      go_roundw
      case rel=>exact⟨f - 1,seen.set x true,y,acc++[x],rfl,hn1,hn2,(hwk.out.trans HWK.out.1:walkF (sx C) (2*C.length+1) (walksTo (sx C) (2*C.length) i).2 j0 []=_),HWK.out.2,by simpa using hsl,(by have:=hac.out;have:=HUS.out;rw[List.length_append];simp only[List.length_cons,List.length_nil];omega:(acc++[x]).length+unseen (seen.set x true)<=2*C.length+1),own_any HO8.out hg9,own_any HS8.out hg9,grown_new HG18.out hg9 (fun q hq=>by cases hq),HB8.out.trans (HB9.out.mono HB8.out.size)⟩
      case measure=>
       obtain⟨a8,c8,e8⟩:=own_capS HO8.out
       rw[e8]
       simp only[lenOf,List.length_append,List.length_cons,List.length_nil]
       omega
     |true=>
      rw[hbit]at e0
      have HWT:Hid (walksTo (sx C) (2*C.length) (i+1)=(if acc=[] then(walksTo (sx C) (2*C.length) i).1 else(walksTo (sx C) (2*C.length) i).1++[acc],seen)):=walksTo_next (by rw[<-hji.out];exact hwk.out.trans (walkF_seen hbit))
      have hlz:zs.length<=i:=by rw[HK.out.len];exact HCT.out
      have HX3:Hid (W3.heap[w.heap.size]?=some (.cells #[.slice a C.length cap,.int .i64 loops,.slice (some ⟨gF,0,none⟩) (2*C.length+1) cF,.slice (some ⟨gT,0,none⟩) (2*C.length+1) cT] 40 (0,0))):=(hgr.block _ (by omega) (fun e=>by have:=Option.some.inj e;omega)).trans HK.out.box
      have hrows:=HK.out.rows.kept hgr (own_ne HK.out.rows HK.out.seen (by decide))
      have HEA:Hid (∀ j,j<zs.length->W3.ownsRow (w.heap.size+1) 3 1 (zs.getD j (.bool false)) ((walksTo (sx C) (2*C.length) i).1.getD j []).length (nats ((walksTo (sx C) (2*C.length) i).1.getD j []))):=fun j hj=>(HK.out.each j hj).kept hgr (own_ne (HK.out.each j hj) HK.out.seen (by decide))
      have hlen:=HK.out.len
      by_cases hz:acc=[]
      · subst hz
        rw[if_pos rfl]at HWT
        go_wp2
        go_roundw
        case rel=>
         refine⟨i+1,j0+1,zs,by omega,(by have:=hji.out;omega:j0+1=i+1+1),by go_num,?_⟩
         rw[HWT.out]
         exact⟨HX3.out,hsd,hlen,hrows,HEA.out,hbl⟩
        case measure=>simp only[intOf];omega
      · rw[if_neg hz]at HWT
        have hpos:0<acc.length:=List.length_pos_iff.2 hz
        have HON:Hid (∀ u∈[Value.slice a6 acc.length c6],u.oneCell'=true):=own_oneS hown
        have HRW:Hid (W3.ownsRow (w.heap.size+1) 53 1 _ zs.length zs):=hrows
        have HOW:Hid (W3.ownsRow (w.heap.size+1) 3 1 (.slice a6 acc.length c6) acc.length (nats acc)):=own_low hown (by omega)
        have HSD:Hid (W3.ownsRow (w.heap.size+1) 4 1 (.slice (some ⟨w.heap.size+1,0,none⟩) (2*C.length+1) (2*C.length+1)) (2*C.length+1) (bools seen)):=hsd
        have HBL:Hid (Below w.heap.size w W3):=hbl
        clear hrows hown hsd hbl
        have hdp:decide (0<(acc.length:Int))=true:=by simp;omega
        have hdp2:decide (0<acc.length)=true:=by simp;omega
        go_wp2_with (first
         |(at_builtin;refine wpList_append_own _ rfl _ _ 43 rfl (w.heap.size+1) 53 i1 (.slice none 0 0) 1 24 Tryz.underlying43 hj hy0 hy1 hy2 rfl (by decide) _ _ _ rfl (HRW.out.alloc _) ⟨W3.heap.size,0,none⟩ 1 1 [Value.slice a6 acc.length c6] rfl rfl (new_cell1 _ _ _) HON.out (by unfold maxLen;omega) (by omega) (by simp;omega) ?_;intro v8 w8 hown8 hg8 _;go_frame))
        go_roundw
        case rel=>
         have hR:=HRW.out.alloc (.cells #[Value.slice a6 acc.length c6] 53)
         have hO:=HOW.out.alloc (.cells #[Value.slice a6 acc.length c6] 53)
         have hS:=HSD.out.alloc (.cells #[Value.slice a6 acc.length c6] 53)
         refine⟨i+1,j0+1,zs++[Value.slice a6 acc.length c6],by omega,(by have:=hji.out;omega:j0+1=i+1+1),by go_num,?_⟩
         rw[HWT.out]
         refine⟨?_,hS.kept hg8 (own_ne hS hR (by decide)),by simp[hlen],by rw[List.length_append];exact hown8,fun j hjl=>?_,(HBL.out.alloc (by omega) _).grown hg8 (by simp;omega) (fun q hq=>by have:=(hR.lt q hq).1;omega)⟩
         · refine(hg8.block _ (by simp;omega) (fun e=>by have:=(hR.lt _ e.symm).1;omega)).trans (alloc_old HX3.out)
         · by_cases hjk:j<zs.length
           · have e1:((walksTo (sx C) (2*C.length) i).1++[acc]).getD j []=(walksTo (sx C) (2*C.length) i).1.getD j []:=by rw[List.getD_eq_getElem?_getD,List.getD_eq_getElem?_getD,List.getElem?_append_left (by omega)]
             rw[getD_left zs _ j hjk,e1]
             have h1:=(HEA.out j hjk).alloc (.cells #[Value.slice a6 acc.length c6] 53)
             exact h1.kept hg8 (own_ne h1 hR (by decide))
           · have ej:j=zs.length:=by simp at hjl;omega
             have e1:((walksTo (sx C) (2*C.length) i).1++[acc]).getD j []=acc:=by rw[ej,hlen];simp[List.getD]
             have e2:(zs++[Value.slice a6 acc.length c6]).getD j (.bool false)=Value.slice a6 acc.length c6:=by rw[ej];exact getD_last zs _
             rw[e1,e2]
             exact hO.kept hg8 (own_ne hO hR (by decide))
        case measure=>simp only[intOf];omega
  · obtain rfl:i=2*C.length:=by omega
    obtain rfl:j0=2*C.length+1:=hji.out
    go_wp2
    go_ret
    exact⟨_,rfl,⟨zs,by rw[HWM.out];exact HK.out.len,own_low HK.out.rows (by omega),fun j hj=>by rw[HWM.out]at hj ⊢;exact own_low (HK.out.each j (by rw[HK.out.len];exact hj)) (by omega)⟩,HK.out.bel⟩
theorem circles_in (a : Option Addr) (cap : Nat) (C : List Cr) (loops : Int) (gF cF gT cT : Nat) (w : World) (hm : mayD C loops = true) (hD : Dr w a cap C gF gT) :
    Calls Tryz.prog 16 #[drV a cap C loops gF cF gT cT] w fun e w'=>∃ v,e=.returned v/\NatsOwn w' w.heap.size v (circM C)/\Below w.heap.size w w':=by
 have hmf:∀ (fn:Fn) (first cap:Array Value) (w:World),(Instr.makeFunc fn first cap).run Tryz.prog w=.ok (.func fn first cap) w:=fun _ _ _ _=>rfl
 have HM:Hid (mayD C loops=true):=hm
 have HB0:Hid (Below w.heap.size w (w.alloc (.cells #[.slice a C.length cap,.int .i64 loops,.slice (some ⟨gF,0,none⟩) (2*C.length+1) cF,.slice (some ⟨gT,0,none⟩) (2*C.length+1) cT] 40))):=(Below.refl _ _).alloc (Nat.le_refl _) _
 have HD:Hid (Dr (w.alloc (.cells #[.slice a C.length cap,.int .i64 loops,.slice (some ⟨gF,0,none⟩) (2*C.length+1) cF,.slice (some ⟨gT,0,none⟩) (2*C.length+1) cT] 40)) a cap C gF gT):=hD.on HB0.out
 clear hm hD
 unfold drV
 go_enter Tryz.func16,Tryz.ntmps16
 go_wp2_with (go_at_call 40;refine(arcRings_aside a cap C loops gF cF gT cT _ HM.out HD.out).mono ?_;rintro e9 w4 ⟨v,rfl,hn4,hb4⟩)
 go_ret
 exact⟨v,rfl,hn4.low (by simp),HB0.out.trans (hb4.mono (by simp))⟩
end Go.Proofs.YtnemnpcbhfedcaaGreatDoor
