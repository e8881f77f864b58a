/- Several texts of the proof, one behind the other. -/
import Derived.Test.YtbobljddklldjaaGreatDoorPMathP
import Derived.Test.YtbobljddklldjaaGreatDoorPT4
import Derived.Test.YtbobljddklldjaaGreatDoorW1P
import Derived.Test.YtbobljddklldjaaGreatDoorBaseP
/- Plain mathematics of Alexander's table: polynomials of two terms, and the places of a row. -/
namespace Go.Proofs.YtbobljddklldjaaGreatDoor
open Go.RowKit
def aPol (x y:Int):List (Int×Int):=(if x=0 then [] else [(0,x)])++(if y=0 then [] else [(1,y)])
def aFun (x y:Int) (e:Int):Int:=if e=0 then x else if e=1 then y else 0
theorem canon_aPol (x y:Int):Poly.Canon (aPol x y) (aFun x y):=by
 unfold aPol
 constructor
 · by_cases hx:x=0<;>by_cases hy:y=0<;>simp[hx,hy]
 · intro e c
   by_cases hx:x=0<;>by_cases hy:y=0<;>by_cases h0:e=0<;>by_cases h1:e=1<;>simp[aFun,hx,hy,h0,h1]<;>omega
theorem aPol_len (x y:Int):(aPol x y).length<=2:=by
 unfold aPol
 by_cases hx:x=0<;>by_cases hy:y=0<;>simp[hx,hy]
theorem aPol_may (x y:Int) (hx : -100<=x/\x<=100) (hy : -100<=y/\y<=100):Poly.mayB (aPol x y)=true:=by
 refine(Poly.may_iff _).2 ⟨Nat.le_trans (aPol_len x y) (by decide),fun i hi=>?_⟩
 rw[Poly.okB_iff]
 unfold aPol at hi ⊢
 by_cases h0:x=0<;>by_cases h1:y=0<;>simp only[h0,h1,if_true,if_false,List.nil_append,List.append_nil,List.length_nil,List.length_cons,List.singleton_append]at hi ⊢
 · omega
 · obtain rfl:i=0:=by omega
   simp
   omega
 · obtain rfl:i=0:=by omega
   simp
   omega
 · have:i=0∨i=1:=by omega
   rcases this with rfl|rfl<;>simp<;>omega
theorem coef_aPol (x y e:Int):Poly.coefL (aPol x y) e=aFun x y e:=by
 unfold aPol aFun
 by_cases hx:x=0<;>by_cases hy:y=0<;>by_cases h0:e=0<;>by_cases h1:e=1<;>simp[Poly.coefL,hx,hy,h0,h1]<;>omega
theorem aFun_add (x y dx dy e:Int):aFun x y e+aFun dx dy e=aFun (x+dx) (y+dy) e:=by
 unfold aFun
 by_cases h0:e=0
 · simp[h0]
 · by_cases h1:e=1
   · simp[h1]
   · simp[h0,h1]
theorem aPol_sum {r:List (Int×Int)} {x y dx dy:Int} (h:Poly.Canon r (fun e=>Poly.coefL (aPol x y) e+Poly.coefL (aPol dx dy) e)):r=aPol (x+dx) (y+dy):=
 Poly.canon_unique (Poly.canon_congr h fun e=>by rw[coef_aPol,coef_aPol,aFun_add]) (canon_aPol _ _)
def addFa (F:Nat->Int×Int) (p:Nat) (dx dy:Int):Nat->Int×Int:=fun j=>if j=p then((F j).1+dx,(F j).2+dy) else F j
def zeroF:Nat->Int×Int:=fun _=>(0,0)
def rowF (o i v:Nat):Nat->Int×Int:=addFa (addFa (addFa zeroF o 1 0) i 0 (-1)) v (-1) 1
def inC (C:List Cr) (c:Cr):Nat:=if c.plus=true then ovM C c.a.toNat else ovM C c.c.toNat
def outC' (C:List Cr) (c:Cr):Nat:=if c.plus=true then ovM C c.c.toNat else ovM C c.a.toNat
def alF (C:List Cr) (k:Nat):Nat->Int×Int:=rowF (outC' C (C.getD k Cr.none)) (inC C (C.getD k Cr.none)) (ovM C (C.getD k Cr.none).b.toNat)
def smallF (F:Nat->Int×Int) (b:Int):Prop:=∀ j,-b<=(F j).1/\(F j).1<=b /\ -b<=(F j).2/\(F j).2<=b
theorem small_zero:smallF zeroF 0:=fun _=>by simp[zeroF]
theorem small_add {F:Nat->Int×Int} {b:Int} (h:smallF F b) (p:Nat) {dx dy:Int} (hx : -1<=dx/\dx<=1) (hy : -1<=dy/\dy<=1):smallF (addFa F p dx dy) (b+1):=fun j=>by
 have:=h j
 unfold addFa
 by_cases e:j=p
 · rw[if_pos e];simp only;omega
 · rw[if_neg e];omega
def valsL (m:Nat) (f:Nat->Value):List Value:=(List.range m).map f
theorem valsL_len (m:Nat) (f:Nat->Value):(valsL m f).length=m:=by simp[valsL]
theorem valsL_get (m:Nat) (f:Nat->Value) (i:Nat) (h:i<m):(valsL m f)[i]?=some (f i):=by simp[valsL,h]
theorem valsL_set (m:Nat) (f g:Nat->Value) (i:Nat) (x:Value) (h:∀ j,j<m->g j=if j=i then x else f j):(valsL m f).set i x=valsL m g:=by
 apply List.ext_getElem?
 intro j
 by_cases hj:j<m
 · rw[valsL_get m g j hj,h j hj,List.getElem?_set]
   by_cases e:i=j
   · subst e;simp[valsL_len,hj]
   · rw[if_neg e,if_neg (fun h=>e h.symm),valsL_get m f j hj]
 · rw[List.getElem?_eq_none (by simp[valsL_len];omega),List.getElem?_eq_none (by simp[valsL_len];omega)]
theorem made_nilsV (n:Nat):(madeCells (Value.slice none 0 0).cells (n*1)).toList=valsL n fun _=>.slice none 0 0:=by
 have e:(Value.slice none 0 0).cells=#[Value.slice none 0 0]:=rfl
 rw[e,toList_madeCells_one,Nat.mul_one]
 apply List.ext_getElem?
 intro j
 by_cases hj:j<n
 · rw[valsL_get _ _ _ hj];simp[hj]
 · rw[List.getElem?_eq_none (by simp;omega),List.getElem?_eq_none (by simp[valsL_len];omega)]
structure PlcAt (B m g:Nat) (vals:Nat->Value) (F:Nat->Int×Int) (wr:World):Prop where
 row:wr.ownsRow B 26 1 (.slice (some ⟨g,0,none⟩) m m) m (valsL m vals)
 each:∀ j,j<m->wr.ownsRow B 58 2 (vals j) (aPol (F j).1 (F j).2).length (Poly.flat (aPol (F j).1 (F j).2))
theorem PlcAt.any {B m g:Nat} {vals:Nat->Value} {F:Nat->Int×Int} {w w':World} (h:PlcAt B m g vals F w) (hg:w.grownBy w' none):PlcAt B m g vals F w':=⟨own_any h.row hg,fun j hj=>own_any (h.each j hj) hg⟩
theorem PlcAt.set {B m g : Nat} {vals : Nat → Value} {F : Nat → Int × Int} {w w' : World} (h : PlcAt B m g vals F w) (hb : Below w.heap.size w w') (hB : B ≤ w.heap.size) (p : Nat) (dx dy : Int) (v : Value)
    (hv:w'.ownsRow w.heap.size 58 2 v (aPol ((F p).1+dx) ((F p).2+dy)).length (Poly.flat (aPol ((F p).1+dx) ((F p).2+dy)))):PlcAt B m g (fun j=>if j=p then v else vals j) (addFa F p dx dy) (w'.setCell ⟨g,p,none⟩ v):=by
 have h1:=h.any (grown_below hb none)
 have hst:=h1.row.stored p v
 refine⟨?_,fun j hj=>?_⟩
 · rw[<-valsL_set m vals _ p v fun j _=>rfl]
   exact hst.1
 · unfold addFa
   by_cases e:j=p
   · rw[if_pos e,if_pos e,e]
     exact(own_low hv hB).kept hst.2 (own_ne (own_low hv hB) h1.row (by decide))
   · rw[if_neg e,if_neg e]
     exact(h1.each j hj).kept hst.2 (own_ne (h1.each j hj) h1.row (by decide))
end Go.Proofs.YtbobljddklldjaaGreatDoor
/- Plain mathematics: rows modulo a prime, what they span, and how many columns have a first place in it. -/
namespace Go.Proofs.YtbobljddklldjaaGreatDoor
def primeN (p:Nat):Bool:=decide (2<=p)&&(List.range p).all fun k=>decide (k<2)||decide (p%k≠0)
theorem inv_all:((List.range 98).all fun p=>!primeN p||(List.range p).all fun a=>a==0||(List.range p).any fun b=>a*b%p==1)=true:=by decide +kernel
theorem inv_ex {p a:Nat} (hp:p<98) (h:primeN p=true) (ha:a<p) (h0:a≠0):∃ b,b<p/\a*b%p=1:=by
 have h1:=List.all_eq_true.1 inv_all p (List.mem_range.2 hp)
 rw[h]at h1
 have h2:=List.all_eq_true.1 (by simpa using h1:((List.range p).all fun a=>a==0||(List.range p).any fun b=>a*b%p==1)=true) a (List.mem_range.2 ha)
 rcases Bool.or_eq_true_iff.1 h2 with h3|h3
 · exact absurd (by simpa using h3) h0
 · obtain⟨b,hb,e⟩:=List.any_eq_true.1 h3
   exact⟨b,List.mem_range.1 hb,by simpa using e⟩
structure Sub (p m:Nat) (S:(Nat->Int)->Prop):Prop where
 zero:S (fun _=>0)
 add:∀ u v (k:Int),S u->S v->S (fun j=>u j+k*v j)
 mod:∀ u v,(∀ j,j<m->(p:Int) ∣ u j-v j)->S u->S v
def Sp (p m:Nat) (R:(Nat->Int)->Prop) (v:Nat->Int):Prop:=∀ S,Sub p m S->(∀ r,R r->S r)->S v
theorem Sp.mem {p m:Nat} {R:(Nat->Int)->Prop} {r:Nat->Int} (h:R r):Sp p m R r:=fun _ _ hR=>hR r h
theorem Sp.sub (p m:Nat) (R:(Nat->Int)->Prop):Sub p m (Sp p m R):=
 ⟨fun _ hS _=>hS.zero,fun u v k hu hv S hS hR=>hS.add u v k (hu S hS hR) (hv S hS hR),fun u v h hu S hS hR=>hS.mod u v h (hu S hS hR)⟩
theorem Sp.le {p m:Nat} {R R':(Nat->Int)->Prop} {v:Nat->Int} (h:∀ r,R r->Sp p m R' r) (hv:Sp p m R v):Sp p m R' v:=hv _ (Sp.sub p m R') h
def Vc (p m:Nat) (R0:(Nat->Int)->Prop) (c:Nat) (v:Nat->Int):Prop:=Sp p m R0 v/\∀ j,j<c->(p:Int) ∣ v j
def Inv (p m:Nat) (R0:(Nat->Int)->Prop) (c:Nat) (R:(Nat->Int)->Prop):Prop:=∀ v,Sp p m R v↔Vc p m R0 c v
theorem sp_col {p m c:Nat} {R:(Nat->Int)->Prop} (hc:c<m) (h:∀ r,R r->(p:Int) ∣ r c) {v:Nat->Int} (hv:Sp p m R v):(p:Int) ∣ v c:=
 hv (fun v => (p : Int) ∣ v c) ⟨Int.dvd_zero _, fun u v k hu hv => Int.dvd_add hu (Int.dvd_mul_of_dvd_right hv), fun u v h hu => by
  have h1:=Int.dvd_sub hu (h c hc)
  have e:u c-(u c-v c)=v c:=by omega
  rw[e]at h1
  exact h1⟩ h
theorem Inv.start {p m:Nat} {R0 R:(Nat->Int)->Prop} (h1:∀ r,R r->∃ q,R0 q/\∀ j,j<m->(p:Int) ∣ q j-r j) (h2:∀ r,R0 r->∃ q,R q/\∀ j,j<m->(p:Int) ∣ q j-r j):Inv p m R0 0 R:=fun v=>
 ⟨fun hv => ⟨Sp.le (fun r hr => by obtain ⟨q, hq, e⟩ := h1 r hr; exact (Sp.sub p m R0).mod q r e (Sp.mem hq)) hv, fun j hj => absurd hj (Nat.not_lt_zero _)⟩,
  fun hv=>Sp.le (fun r hr=>by obtain⟨q,hq,e⟩:=h2 r hr;exact(Sp.sub p m R).mod q r e (Sp.mem hq)) hv.1⟩
theorem Inv.none {p m c:Nat} {R0 R:(Nat->Int)->Prop} (h:Inv p m R0 c R) (hc:c<m) (hn:∀ r,R r->(p:Int) ∣ r c):Inv p m R0 (c+1) R:=fun v=>
 ⟨fun hv => ⟨((h v).1 hv).1, fun j hj => by
     by_cases e:j=c
     · rw[e];exact sp_col hc hn hv
     · exact((h v).1 hv).2 j (by omega)⟩,
  fun hv=>(h v).2 ⟨hv.1,fun j hj=>hv.2 j (by omega)⟩⟩
theorem Inv.piv {p m c : Nat} {R0 R R' : (Nat → Int) → Prop} (h : Inv p m R0 c R) (hc : c < m) (a : Nat → Int) (ha : R a) (b : Int) (hb : (p : Int) ∣ a c * b - 1)
    (h1:∀ r',R' r'->(p:Int) ∣ r' c/\∃ r k,R r/\∀ j,j<m->(p:Int) ∣ (r j+k*a j)-r' j)
    (h2:∀ r,R r->r=a∨∃ r' k,R' r'/\∀ j,j<m->(p:Int) ∣ (r' j+k*a j)-r j):Inv p m R0 (c+1) R':=by
 have in1:∀ r',R' r'->Sp p m R r':=fun r' hr'=>by
  obtain⟨-,r,k,hr,e⟩:=h1 r' hr'
  exact(Sp.sub p m R).mod _ r' e ((Sp.sub p m R).add r a k (Sp.mem hr) (Sp.mem ha))
 have col:∀ r',R' r'->(p:Int) ∣ r' c:=fun r' hr'=>(h1 r' hr').1
 intro v
 constructor
 · intro hv
   have hv1:=(h v).1 (Sp.le in1 hv)
   refine⟨hv1.1,fun j hj=>?_⟩
   by_cases e:j=c
   · rw[e];exact sp_col hc col hv
   · exact hv1.2 j (by omega)
 · intro hv
   have hv1:Sp p m R v:=(h v).2 ⟨hv.1,fun j hj=>hv.2 j (by omega)⟩
   have hsub:=Sp.sub p m R'
   -- each is a multiple of the pivot and what the new rows span
   have key:∃ k:Int,Sp p m R' (fun j=>v j+k*a j):=by
    refine hv1 (fun v=>∃ k:Int,Sp p m R' (fun j=>v j+k*a j)) ⟨⟨0,?_⟩,?_,?_⟩ ?_
    · exact hsub.mod _ _ (fun j _=>by simp) hsub.zero
    · rintro u w k ⟨k1,hu⟩ ⟨k2,hw⟩
      refine⟨k1+k*k2,hsub.mod _ _ (fun j _=>?_) (hsub.add _ _ k hu hw)⟩
      have e:(u j+k1*a j+k*(w j+k2*a j))-(u j+k*w j+(k1+k*k2)*a j)=0:=by
       rw[Int.mul_add,Int.add_mul,Int.mul_assoc];omega
      rw[e];exact Int.dvd_zero _
    · rintro u w e ⟨k,hu⟩
      refine⟨k,hsub.mod _ _ (fun j hj=>?_) hu⟩
      have e2:u j+k*a j-(w j+k*a j)=u j-w j:=by omega
      rw[e2];exact e j hj
    · intro r hr
      rcases h2 r hr with rfl|⟨r',k,hr',e⟩
      · exact ⟨-1, hsub.mod _ _ (fun j _ => by have e : (0 : Int) - (r j + -1 * r j) = 0 := by omega
                                               rw[e];exact Int.dvd_zero _) hsub.zero⟩
      · refine⟨-k,hsub.mod r' _ (fun j hj=>?_) (Sp.mem hr')⟩
        have e2:r' j-(r j + -k*a j)=r' j+k*a j-r j:=by rw[Int.neg_mul];omega
        rw[e2];exact e j hj
   obtain⟨k,hk⟩:=key
   have hkc:=sp_col hc col hk
   have hvc:=hv.2 c (by omega)
   have d1:(p:Int) ∣ k*a c:=by
    have:=Int.dvd_sub hkc hvc
    have e:v c+k*a c-v c=k*a c:=by omega
    rw[e]at this;exact this
   have d2:(p:Int) ∣ k:=by
    have e1:(p:Int) ∣ k*(a c*b-1):=Int.dvd_mul_of_dvd_right hb
    have e2:(p:Int) ∣ k*a c*b:=Int.dvd_mul_of_dvd_left d1
    have e3:=Int.dvd_sub e2 e1
    have e4:k*a c*b-k*(a c*b-1)=k:=by rw[Int.mul_sub,Int.mul_assoc];omega
    rw[e4]at e3;exact e3
   refine hsub.mod _ v (fun j _=>?_) hk
   have e:v j+k*a j-v j=k*a j:=by omega
   rw[e];exact Int.dvd_mul_of_dvd_left d2
def pivP (p m:Nat) (R0:(Nat->Int)->Prop) (c:Nat):Prop:=∃ v,Vc p m R0 c v/\¬ (p:Int) ∣ v c
theorem piv_iff {p m c:Nat} {R0 R:(Nat->Int)->Prop} (h:Inv p m R0 c R) (hc:c<m):pivP p m R0 c↔∃ r,R r/\¬ (p:Int) ∣ r c:=by
 constructor
 · rintro⟨v,hv,hn⟩
   refine Classical.byContradiction fun hno=>hn (sp_col hc (fun r hr=>Classical.byContradiction fun hd=>hno ⟨r,hr,hd⟩) ((h v).2 hv))
 · rintro⟨r,hr,hn⟩
   exact⟨r,(h r).1 (Sp.mem hr),hn⟩
open Classical in
noncomputable def rkTo (p m:Nat) (R0:(Nat->Int)->Prop):Nat->Nat
 |0=>0
 |c+1=>rkTo p m R0 c+(if pivP p m R0 c then 1 else 0)
theorem rkTo_yes {p m c:Nat} {R0:(Nat->Int)->Prop} (h:pivP p m R0 c):rkTo p m R0 (c+1)=rkTo p m R0 c+1:=by
 show rkTo p m R0 c+_=_;rw[if_pos h]
theorem rkTo_no {p m c:Nat} {R0:(Nat->Int)->Prop} (h:¬ pivP p m R0 c):rkTo p m R0 (c+1)=rkTo p m R0 c:=by
 show rkTo p m R0 c+_=_;rw[if_neg h];rfl
theorem rkTo_le (p m:Nat) (R0:(Nat->Int)->Prop) (c:Nat):rkTo p m R0 c<=c:=by
 induction c with
 |zero=>exact Nat.le_refl _
 |succ c ih=>
  by_cases h:pivP p m R0 c
  · rw[rkTo_yes h];omega
  · rw[rkTo_no h];omega
theorem tmod_same (x:Int) (p:Nat):(p:Int) ∣ x-x.tmod p:=⟨x.tdiv p,by have:=Int.mul_tdiv_add_tmod x p;omega⟩
theorem tmod_in {x:Int} {p:Nat} (hp:0<p) (hx:0<=x):0<=x.tmod p/\x.tmod p<p:=⟨Int.tmod_nonneg _ hx,Int.tmod_lt_of_pos _ (by omega)⟩
theorem tmod_zero (x:Int) (p:Nat):x.tmod p=0↔(p:Int) ∣ x:=by
 constructor
 · intro h;have:=tmod_same x p;rw[h]at this;simpa using this
 · intro h;exact Int.tmod_eq_zero_of_dvd h
theorem small_dvd {x:Int} {p:Nat} (h0:0<=x) (h1:x<p):(p:Int) ∣ x↔x=0:=by
 constructor
 · rintro⟨k,e⟩
   by_cases hk:k<=0
   · have:(p:Int)*k<=0:=Int.mul_nonpos_of_nonneg_of_nonpos (by omega) hk
     omega
   · have:(p:Int)*1<=p*k:=Int.mul_le_mul_of_nonneg_left (by omega) (by omega)
     omega
 · intro e;rw[e];exact Int.dvd_zero _
theorem inv_int {p:Nat} (hp:p<98) (h:primeN p=true) (x:Int) (hx:¬ (p:Int) ∣ x):∃ b:Int,(p:Int) ∣ x*b-1:=by
 have h2:2<=p:=by
  have:=(Bool.and_eq_true_iff.1 h).1
  simpa using this
 have hr0:0<=x%p:=Int.emod_nonneg _ (by omega)
 have hr1:x%p<p:=Int.emod_lt_of_pos _ (by omega)
 obtain⟨a,ha⟩:∃ a:Nat,x%p=(a:Int):=⟨(x%p).toNat,by omega⟩
 have ha0:a≠0:=fun e=>hx (Int.dvd_of_emod_eq_zero (by rw[ha,e];rfl))
 obtain⟨b,-,e⟩:=inv_ex hp h (by omega) ha0
 refine⟨b,?_⟩
 have e1:(p:Int) ∣ (a:Int)*b-1:=by
  refine⟨((a*b / p:Nat):Int),?_⟩
  have:=Nat.div_add_mod (a*b) p
  rw[e]at this
  have t:((p*(a*b / p)+1:Nat):Int)=((a*b:Nat):Int):=by rw[this]
  push_cast at t
  push_cast
  omega
 have e2:(p:Int) ∣ (x-a)*b:=Int.dvd_mul_of_dvd_left (by rw[<-ha];exact⟨x / p,by have:=Int.mul_ediv_add_emod x p;omega⟩)
 have e3:=Int.dvd_add e1 e2
 have e4:(a:Int)*b-1+(x-a)*b=x*b-1:=by rw[Int.sub_mul];omega
 rw[e4]at e3;exact e3
end Go.Proofs.YtbobljddklldjaaGreatDoor
/- Plain mathematics of the bracket: what a state ties, crossing by crossing; the rings with one arc cut. -/
namespace Go.Proofs.YtbobljddklldjaaGreatDoor
def arN (C:List Cr) (k s:Nat):Nat:=((C.getD k Cr.none).arc s).toNat
def arQ (C:List Cr) (k s:Nat):Nat:=if k=0/\s=0 then 25 else arN C k s
def prS (ar:Nat->Nat->Nat) (s i:Nat):Nat×Nat:=
 if s / 2 ^ (i / 2)%2=1 then(if i%2=0 then(ar (i / 2) 0,ar (i / 2) 1) else(ar (i / 2) 2,ar (i / 2) 3))
 else(if i%2=0 then(ar (i / 2) 1,ar (i / 2) 2) else(ar (i / 2) 3,ar (i / 2) 0))
def in4 (ar:Nat->Nat->Nat) (v k:Nat):Nat:=(if ar k 0=v then 1 else 0)+(if ar k 1=v then 1 else 0)+(if ar k 2=v then 1 else 0)+(if ar k 3=v then 1 else 0)
def oc (ar:Nat->Nat->Nat) (v:Nat):Nat->Nat
 |0=>0
 |k+1=>oc ar v k+in4 ar v k
theorem pr_lo (ar:Nat->Nat->Nat) (s k:Nat):prS ar s (2*k)=if s / 2 ^ k%2=1 then(ar k 0,ar k 1) else(ar k 1,ar k 2):=by
 unfold prS
 rw[show 2*k / 2=k by omega,show 2*k%2=0 by omega];rfl
theorem pr_hi (ar:Nat->Nat->Nat) (s k:Nat):prS ar s (2*k+1)=if s / 2 ^ k%2=1 then(ar k 2,ar k 3) else(ar k 3,ar k 0):=by
 unfold prS
 rw[show(2*k+1) / 2=k by omega,show(2*k+1)%2=1 by omega];rfl
theorem dg_oc (ar:Nat->Nat->Nat) (s v k:Nat):dgP (prS ar s) (2*k) v=oc ar v k:=by
 induction k with
 |zero=>rfl
 |succ k ih=>
  rw[show 2*(k+1)=2*k+1+1 by omega]
  show dgm (dgm (dgP (prS ar s) (2*k)) (prS ar s (2*k)).1 (prS ar s (2*k)).2) (prS ar s (2*k+1)).1 (prS ar s (2*k+1)).2 v=oc ar v k+in4 ar v k
  unfold dgm in4
  rw[ih,pr_lo,pr_hi]
  by_cases h:s / 2 ^ k%2=1
  · simp only[if_pos h];omega
  · simp only[if_neg h];omega
theorem oc_mono (ar:Nat->Nat->Nat) (v:Nat) {k m:Nat} (h:k<=m):oc ar v k<=oc ar v m:=by
 induction h with
 |refl=>exact Nat.le_refl _
 |step _ ih=>exact Nat.le_trans ih (Nat.le_add_right _ _)
theorem in4_sides {C:List Cr} {k v:Nat} (hf:∀ s,s<4->1<=(C.getD k Cr.none).arc s):in4 (arN C) v k=sideIn (C.getD k Cr.none) v 4+sideOut (C.getD k Cr.none) v 4:=by
 have e:∀ s,s<4->(if arN C k s=v then 1 else 0)=(if(C.getD k Cr.none).arc s=(v:Int)/\(C.getD k Cr.none).comes s=true then 1 else 0)+(if(C.getD k Cr.none).arc s=(v:Int)/\(C.getD k Cr.none).comes s=false then 1 else 0):=by
  intro s hs
  have h1:=hf s hs
  unfold arN
  by_cases h:((C.getD k Cr.none).arc s).toNat=v
  · have h2:(C.getD k Cr.none).arc s=(v:Int):=by omega
    rw[if_pos h]
    cases hc:(C.getD k Cr.none).comes s
    · rw[if_neg (fun e=>by simp at e),if_pos ⟨h2,rfl⟩]
    · rw[if_pos ⟨h2,rfl⟩,if_neg (fun e=>by simp at e)]
  · have h2:¬ (C.getD k Cr.none).arc s=(v:Int):=by omega
    rw[if_neg h,if_neg (fun e=>h2 e.1),if_neg (fun e=>h2 e.1)]
 unfold in4
 rw[e 0 (by omega),e 1 (by omega),e 2 (by omega),e 3 (by omega)]
 have i4:sideIn (C.getD k Cr.none) v 4=0+(if(C.getD k Cr.none).arc 0=(v:Int)/\(C.getD k Cr.none).comes 0=true then 1 else 0)+(if(C.getD k Cr.none).arc 1=(v:Int)/\(C.getD k Cr.none).comes 1=true then 1 else 0)+(if(C.getD k Cr.none).arc 2=(v:Int)/\(C.getD k Cr.none).comes 2=true then 1 else 0)+(if(C.getD k Cr.none).arc 3=(v:Int)/\(C.getD k Cr.none).comes 3=true then 1 else 0):=rfl
 have o4:sideOut (C.getD k Cr.none) v 4=0+(if(C.getD k Cr.none).arc 0=(v:Int)/\(C.getD k Cr.none).comes 0=false then 1 else 0)+(if(C.getD k Cr.none).arc 1=(v:Int)/\(C.getD k Cr.none).comes 1=false then 1 else 0)+(if(C.getD k Cr.none).arc 2=(v:Int)/\(C.getD k Cr.none).comes 2=false then 1 else 0)+(if(C.getD k Cr.none).arc 3=(v:Int)/\(C.getD k Cr.none).comes 3=false then 1 else 0):=rfl
 rw[i4,o4]
 omega
theorem oc_in {C:List Cr} {v:Nat}:∀ k,(∀ i,i<k->∀ s,s<4->1<=(C.getD i Cr.none).arc s)->oc (arN C) v k=inTo C v k+outTo C v k
 |0,_=>rfl
 |k+1,h=>by
  show oc (arN C) v k+in4 (arN C) v k=(inTo C v k+sideIn _ v 4)+(outTo C v k+sideOut _ v 4)
  rw[oc_in k (fun i hi=>h i (by omega)),in4_sides (h k (by omega))];omega
theorem ar_range {C:List Cr} {loops:Int} (hm:mayD C loops=true) {k s:Nat} (hk:k<C.length) (hs:s<4):1<=(C.getD k Cr.none).arc s/\(C.getD k Cr.none).arc s<=2*C.length/\1<=arN C k s/\arN C k s<=2*C.length:=by
 have h:=may_fit hm k s hk hs
 have h1:=h.1
 have h2:=h.2.1
 unfold arN
 omega
theorem oc_two {C:List Cr} {loops:Int} (hm:mayD C loops=true) {v:Nat} (h1:1<=v) (h2:v<=2*C.length):oc (arN C) v C.length=2:=by
 rw[oc_in C.length (fun i hi s hs=>(ar_range hm hi hs).1)]
 have h:=hm
 unfold mayD at h
 rw[Bool.and_eq_true,List.all_eq_true]at h
 have h3:=h.2 (v-1) (List.mem_range.2 (by omega))
 rw[show v-1+1=v by omega]at h3
 unfold onceB at h3
 rw[Bool.and_eq_true,decide_eq_true_eq,decide_eq_true_eq]at h3
 omega
theorem oc_none {C:List Cr} {loops:Int} (hm:mayD C loops=true) {v:Nat} (h:v=0∨2*C.length<v):∀ k,k<=C.length->oc (arN C) v k=0
 |0,_=>rfl
 |k+1,hk=>by
  show oc (arN C) v k+in4 (arN C) v k=0
  rw[oc_none hm h k (by omega)]
  have a0:=ar_range hm (k:=k) (by omega) (s:=0) (by omega)
  have a1:=ar_range hm (k:=k) (by omega) (s:=1) (by omega)
  have a2:=ar_range hm (k:=k) (by omega) (s:=2) (by omega)
  have a3:=ar_range hm (k:=k) (by omega) (s:=3) (by omega)
  unfold in4
  rw[if_neg (by omega),if_neg (by omega),if_neg (by omega),if_neg (by omega)]
theorem oc_cut (C:List Cr) (v:Nat):∀ k,oc (arQ C) v (k+1)+(if arN C 0 0=v then 1 else 0)=oc (arN C) v (k+1)+(if 25=v then 1 else 0)
 |0=>by
  show 0+in4 (arQ C) v 0+_=0+in4 (arN C) v 0+_
  unfold in4
  rw[show arQ C 0 0=25 from rfl,show arQ C 0 1=arN C 0 1 from rfl,show arQ C 0 2=arN C 0 2 from rfl,show arQ C 0 3=arN C 0 3 from rfl]
  omega
 |k+1=>by
  have:=oc_cut C v k
  have e:in4 (arQ C) v (k+1)=in4 (arN C) v (k+1):=by
   unfold in4 arQ
   simp only[Nat.succ_ne_zero,false_and,if_false]
  show oc (arQ C) v (k+1)+in4 (arQ C) v (k+1)+_=oc (arN C) v (k+1)+in4 (arN C) v (k+1)+_
  rw[e];omega
theorem pr_cut {C:List Cr} {loops:Int} (hm:mayD C loops=true) (h12:C.length<=12) (s i:Nat) (hi:i<2*C.length):(prS (arN C) s i).1=sg (arN C 0 0) (prS (arQ C) s i).1/\(prS (arN C) s i).2=sg (arN C 0 0) (prS (arQ C) s i).2:=by
 have e:∀ k t,k<C.length->t<4->arN C k t=sg (arN C 0 0) (arQ C k t):=by
  intro k t hk ht
  have a:=ar_range hm hk ht
  unfold arQ sg
  by_cases h:k=0/\t=0
  · rw[if_pos h,if_pos rfl,h.1,h.2]
  · rw[if_neg h,if_neg (by omega)]
 unfold prS
 have hk:i / 2<C.length:=by omega
 split<;>split<;>exact⟨e _ _ hk (by omega),e _ _ hk (by omega)⟩
theorem pr_range {C:List Cr} {loops:Int} (hm:mayD C loops=true) (h12:C.length<=12) (s i:Nat) (hi:i<2*C.length):1<=(prS (arQ C) s i).1/\(prS (arQ C) s i).1<26/\1<=(prS (arQ C) s i).2/\(prS (arQ C) s i).2<26:=by
 have e:∀ k t,k<C.length->t<4->1<=arQ C k t/\arQ C k t<26:=by
  intro k t hk ht
  have a:=ar_range hm hk ht
  unfold arQ
  split<;>omega
 unfold prS
 have hk:i / 2<C.length:=by omega
 split<;>split<;>exact⟨(e _ _ hk (by omega)).1,(e _ _ hk (by omega)).2,(e _ _ hk (by omega)).1,(e _ _ hk (by omega)).2⟩
theorem oc_le {C:List Cr} {loops:Int} (hm:mayD C loops=true) (h12:C.length<=12) (h0:0<C.length) (v:Nat):oc (arQ C) v C.length<=2:=by
 obtain⟨n,hn⟩:∃ n,C.length=n+1:=⟨C.length - 1,by omega⟩
 have h:=oc_cut C v n
 rw[<-hn]at h
 have a:=ar_range hm h0 (s:=0) (by omega)
 by_cases hv:1<=v/\v<=2*C.length
 · rw[oc_two hm hv.1 hv.2,if_neg (by omega:¬ 25=v)]at h;omega
 · rw[oc_none hm (by omega) C.length (Nat.le_refl _)]at h
   split at h<;>split at h<;>omega
theorem tied_state {C:List Cr} {loops:Int} (hm:mayD C loops=true) (h12:C.length<=12) (h0:0<C.length) (s i:Nat) (hi:i<=2*C.length):Tied (tieP (prS (arQ C) s) i) (dgP (prS (arQ C) s) i) (labP (prS (arQ C) s) i)/\closP (prS (arQ C) s) i+joinP (prS (arQ C) s) i=i:=
 tied_all (fun i hi=>pr_range hm h12 s i hi) (fun v=>by rw[dg_oc];exact oc_le hm h12 h0 v) i hi
theorem rings_cut {C:List Cr} {loops:Int} (hm:mayD C loops=true) (h12:C.length<=12) (h0:0<C.length) (s:Nat):closP (prS (arQ C) s) (2*C.length)+1+joinP (prS (arN C) s) (2*C.length)=2*C.length:=by
 obtain⟨h1,h2⟩:=tied_state hm h12 h0 s (2*C.length) (Nat.le_refl _)
 have a:=ar_range hm h0 (s:=0) (by omega)
 obtain⟨-,h3⟩:=cut_join (P:=prS (arN C) s) (Q:=prS (arQ C) s) (m:=2*C.length) (A:=arN C 0 0) (by omega) (fun i hi=>pr_cut hm h12 s i hi) (2*C.length) (Nat.le_refl _)
 obtain⟨n,hn⟩:∃ n,C.length=n+1:=⟨C.length - 1,by omega⟩
 have hd:∀ v,dgP (prS (arQ C) s) (2*C.length) v+(if arN C 0 0=v then 1 else 0)=oc (arN C) v C.length+(if 25=v then 1 else 0):=by
  intro v;rw[dg_oc,hn];exact oc_cut C v n
 have dA:dgP (prS (arQ C) s) (2*C.length) (arN C 0 0)=1:=by
  have:=hd (arN C 0 0)
  rw[if_pos rfl,oc_two hm a.2.2.1 a.2.2.2,if_neg (by omega)]at this;omega
 obtain⟨o1,o2,o3,o4,o5⟩:=h1.one (arN C 0 0) a.2.2.1 (by omega) dA
 have hlt:=h1.lt (arN C 0 0)
 have e25:(tieP (prS (arQ C) s) (2*C.length)).getD (arN C 0 0) 0=25:=by
  generalize (tieP (prS (arQ C) s) (2*C.length)).getD (arN C 0 0) 0=u at*
  have:=hd u
  rw[o3,if_neg (Ne.symm o1)]at this
  by_cases hu:u<=2*C.length
  · rw[oc_two hm o2 hu]at this;omega
  · rw[oc_none hm (Or.inr (by omega)) C.length (Nat.le_refl _)]at this
    by_cases e:25=u
    · exact e.symm
    · rw[if_neg e]at this;omega
 rw[e25]at o5
 rw[if_pos o5]at h3
 omega
theorem bit_lo {k j s:Nat} (h:j<k):(2 ^ k+s) / 2 ^ j%2=s / 2 ^ j%2:=by
 have e:2 ^ k=2 ^ j*(2*2 ^ (k-j-1)):=by
  rw[<-Nat.mul_assoc,Nat.mul_comm (2 ^ j) 2,Nat.mul_assoc,<-Nat.pow_add,show j+(k-j-1)=k-1 by omega,<-Nat.pow_succ']
  congr 1;omega
 rw[e,Nat.mul_add_div (Nat.two_pow_pos j)];omega
theorem bit_hi {k s:Nat} (h:s<2 ^ k):(2 ^ k+s) / 2 ^ k%2=1:=by
 rw[show 2 ^ k+s=2 ^ k*1+s by omega,Nat.mul_add_div (Nat.two_pow_pos k),Nat.div_eq_of_lt h]
theorem bit_off {k s:Nat} (h:s<2 ^ k):s / 2 ^ k%2=0:=by rw[Nat.div_eq_of_lt h]
theorem pr_low (ar:Nat->Nat->Nat) {k s i:Nat} (hi:i<2*k):prS ar (2 ^ k+s) i=prS ar s i:=by
 unfold prS
 rw[bit_lo (by omega:i / 2<k)]
theorem tie_congr {P Q:Nat->Nat×Nat}:∀ i,(∀ j,j<i->P j=Q j)->tieP P i=tieP Q i/\closP P i=closP Q i/\labP P i=labP Q i/\joinP P i=joinP Q i
 |0,_=>⟨rfl,rfl,rfl,rfl⟩
 |i+1,h=>by
  obtain⟨e1,e2,e3,e4⟩:=tie_congr i fun j hj=>h j (by omega)
  have e:=h i (by omega)
  refine⟨?_,?_,?_,?_⟩
  · show tieT (tieP P i) _ _=tieT (tieP Q i) _ _;rw[e1,e]
  · show closP P i+tieN (tieP P i) _ _=closP Q i+tieN (tieP Q i) _ _;rw[e1,e2,e]
  · show lab (labP P i) _ _=lab (labP Q i) _ _;rw[e3,e]
  · show joinP P i+(if labP P i _=labP P i _ then 0 else 1)=joinP Q i+(if labP Q i _=labP Q i _ then 0 else 1);rw[e3,e4,e]
end Go.Proofs.YtbobljddklldjaaGreatDoor
/- Plain mathematics: the walks along a renaming begin each at the lowest of its ring: there are as many as rings. -/
namespace Go.Proofs.YtbobljddklldjaaGreatDoor
def up0 (f:Nat->Nat) (x:Nat):Nat:=if x=0 then 0 else f x
theorem up0_pos (f:Nat->Nat) {x:Nat} (h:1<=x):up0 f x=f x:=by unfold up0;rw[if_neg (by omega)]
theorem bij_up0 {f:Nat->Nat} {n:Nat} (hf:∀ a,1<=a->a<=n->1<=f a/\f a<=n) (hi:∀ a b,1<=a->a<=n->1<=b->b<=n->f a=f b->a=b):Bij (up0 f) (n+1):=by
 refine⟨fun x hx=>?_,fun x y hx hy e=>?_⟩
 · by_cases h:x=0
   · rw[h];exact Nat.succ_pos n
   · rw[up0_pos f (by omega)];have:=hf x (by omega) (by omega);omega
 · by_cases h:x=0
   · by_cases g:y=0
     · omega
     · rw[h,up0_pos f (show 1<=y by omega)]at e
       have:=hf y (by omega) (by omega)
       have e0:up0 f 0=0:=rfl
       omega
   · by_cases g:y=0
     · rw[g,up0_pos f (show 1<=x by omega)]at e
       have:=hf x (by omega) (by omega)
       have e0:up0 f 0=0:=rfl
       omega
     · rw[up0_pos f (show 1<=x by omega),up0_pos f (show 1<=y by omega)]at e
       exact hi x y (by omega) (by omega) (by omega) (by omega) e
theorem walkF_head (f:Nat->Nat):∀ (m:Nat) (seen:List Bool) (x z:Nat) (acc:List Nat),(walkF f m seen x (z::acc)).1.getD 0 0=z/\(walkF f m seen x (z::acc)).1≠[]:=by
 intro m
 induction m with
 |zero=>intro seen x z acc;exact⟨rfl,by simp[walkF]⟩
 |succ m ih=>
  intro seen x z acc
  simp only[walkF]
  split
  · exact⟨rfl,by simp⟩
  · exact ih _ _ z (acc++[x])
theorem walkF_new (f:Nat->Nat) (m:Nat) (seen:List Bool) (x:Nat) (h:un seen x=1):(walkF f (m+1) seen x []).1.getD 0 0=x/\(walkF f (m+1) seen x []).1≠[]:=by
 have h1:¬ seen.getD x true=true:=fun q=>by unfold un at h;rw[if_pos q]at h;omega
 simp only[walkF]
 rw[if_neg h1]
 exact walkF_head f m _ _ x []
theorem un_seen {seen:List Bool} {x:Nat} (h:un seen x=0):seen.getD x true=true:=by
 refine Classical.byContradiction fun q=>?_
 unfold un at h
 rw[if_neg q]at h
 omega
theorem seen_in {f:Nat->Nat} {n a y:Nat} (h1:1<=y) (h2:y<=n):un (walksTo f n a).2 y=0↔∃ l,l∈(walksTo f n a).1/\y∈l:=by
 have h:=walksTo_one f n a y h1 h2
 have hc:1<=(walksTo f n a).1.flatten.count y↔∃ l,l∈(walksTo f n a).1/\y∈l:=by rw[List.one_le_count_iff,List.mem_flatten]
 rw[<-hc]
 omega
theorem zero_apart {f:Nat->Nat} {n:Nat} (hf:∀ a,1<=a->a<=n->1<=f a/\f a<=n) {x:Nat} (hx:1<=x):¬ Con (eds (up0 f) (n+1)) x 0:=fun hc=>by
 have := hc (fun z => 1 ≤ z) (closed_eds.2 fun i hi => by
  by_cases h:i=0
  · subst h;exact Iff.rfl
  · rw[up0_pos f (by omega)]
    have:=(hf i (by omega) (by omega)).1
    exact⟨fun _=>this,fun _=>by omega⟩) hx
 exact absurd this (by decide)
theorem seen_closed {f:Nat->Nat} {n:Nat} (hf:∀ a,1<=a->a<=n->1<=f a/\f a<=n) (hi:∀ a b,1<=a->a<=n->1<=b->b<=n->f a=f b->a=b) (a:Nat) (ha:a<=n):Closed (eds (up0 f) (n+1)) fun z=>1<=z/\un (walksTo f n a).2 z=0:=by
 obtain⟨r1,r2,-⟩:=rings_closed hf hi a ha
 refine closed_eds.2 fun i hin=>?_
 by_cases h:i=0
 · subst h;exact Iff.rfl
 · rw[up0_pos f (by omega)]
   have hfi:=hf i (by omega) (by omega)
   constructor
   · rintro⟨h1,h2⟩
     obtain⟨l,hl,hy⟩:=(seen_in h1 (by omega)).1 h2
     exact⟨hfi.1,(seen_in hfi.1 hfi.2).2 ⟨l,hl,r1 l hl i hy⟩⟩
   · rintro⟨-,h2⟩
     exact⟨by omega,r2 i (by omega) (by omega) h2⟩
theorem ring_con {f:Nat->Nat} {n:Nat} {l:List Nat} (hm:∀ y,y∈l->1<=y/\y<=n) (hc:∀ i,i+1<l.length->l.getD (i+1) 0=f (l.getD i 0)):∀ i,i<l.length->Con (eds (up0 f) (n+1)) (l.getD 0 0) (l.getD i 0):=by
 intro i
 induction i with
 |zero=>intro _;exact Con.refl _ _
 |succ i ih=>
  intro hi
  have hb:=hm _ (at_mem (l:=l) (i:=i) (by omega))
  have h1:=con_f (f:=up0 f) (M:=n+1) (x:=l.getD i 0) (by omega)
  rw[up0_pos f hb.1,<-hc i hi]at h1
  exact(ih (by omega)).trans h1
theorem heads_roots {f : Nat → Nat} {n : Nat} (hf : ∀ a, 1 ≤ a → a ≤ n → 1 ≤ f a ∧ f a ≤ n) (hi : ∀ a b, 1 ≤ a → a ≤ n → 1 ≤ b → b ≤ n → f a = f b → a = b) : ∀ a, a ≤ n →
    (∀ l,l∈(walksTo f n a).1->1<=l.getD 0 0/\l.getD 0 0<=a)/\
    ∀ Q:Nat->Bool,Q 0=false->(walksTo f n a).1.countP (fun l=>Q (l.getD 0 0))=rq (cyW (up0 f) (n+1)) Q (a+1):=by
 have hB:=bij_up0 hf hi
 have hW:=cyW_least hB.lt
 intro a
 induction a with
 |zero=>
  intro _
  refine⟨fun l hl=>absurd hl (by simp[walksTo]),fun Q q0=>?_⟩
  simp[walksTo,rq,q0]
 |succ a ih=>
  intro ha
  obtain⟨i1,i2⟩:=ih (by omega)
  have hcl:=seen_closed hf hi a (by omega)
  have hin:=walksTo_mem hf a (by omega)
  obtain⟨-,-,r3⟩:=rings_closed hf hi a (by omega)
  by_cases hs:un (walksTo f n a).2 (a+1)=0
  · have e : walksTo f n (a + 1) = walksTo f n a := by
      simp only[walksTo]
      rw[walkF_seen (un_seen hs)]
      rfl
    rw[e]
    refine⟨fun l hl=>⟨(i1 l hl).1,by have:=(i1 l hl).2;omega⟩,fun Q q0=>?_⟩
    rw[i2 Q q0]
    have hnr:(cyW (up0 f) (n+1)).getD (a+1) 0≠a+1:=fun q=>by
     obtain⟨l,hl,hy⟩:=(seen_in (by omega) ha).1 hs
     obtain⟨i,hil,ei⟩:=mem_atZ hy
     have hc:=ring_con (f:=f) (n:=n) (hin l hl).2.2 (r3 l hl).1 i hil
     rw[ei]at hc
     have:=(hW.2 (a+1) (by omega)).2 _ hc.symm
     have:=(i1 l hl).2
     omega
    show _=rq (cyW (up0 f) (n+1)) Q (a+1)+(if(cyW (up0 f) (n+1)).getD (a+1) 0=a+1/\Q (a+1)=true then 1 else 0)
    rw[if_neg fun q=>hnr q.1]
    rfl
  · have hs1:un (walksTo f n a).2 (a+1)=1:=by have:=un_le (walksTo f n a).2 (a+1);omega
    obtain⟨hh,hne⟩:=walkF_new f n (walksTo f n a).2 (a+1) hs1
    have e:(walksTo f n (a+1)).1=(walksTo f n a).1++[(walkF f (n+1) (walksTo f n a).2 (a+1) []).1]:=by
     simp only[walksTo]
     rw[if_neg hne]
    rw[e]
    refine⟨fun l hl=>?_,fun Q q0=>?_⟩
    · rcases List.mem_append.1 hl with h|h
      · exact⟨(i1 l h).1,by have:=(i1 l h).2;omega⟩
      · rw[List.mem_singleton.1 h,hh];omega
    · have hr : (cyW (up0 f) (n + 1)).getD (a + 1) 0 = a + 1 := by
        refine Classical.byContradiction fun q=>?_
        have hle:=hW.le (v:=a+1) (by omega)
        have hcn:=(hW.2 (a+1) (by omega)).1
        generalize hu:(cyW (up0 f) (n+1)).getD (a+1) 0=u at q hle hcn
        by_cases h0:u=0
        · rw[h0]at hcn
          exact zero_apart hf (by omega) hcn
        · have:=hcn.symm _ hcl ⟨by omega,walksTo_seen f n a u (by omega) (by omega)⟩
          exact hs this.2
      rw[List.countP_append,i2 Q q0]
      show _=rq (cyW (up0 f) (n+1)) Q (a+1)+(if(cyW (up0 f) (n+1)).getD (a+1) 0=a+1/\Q (a+1)=true then 1 else 0)
      rw[List.countP_singleton,hh]
      by_cases hq:Q (a+1)=true
      · rw[if_pos hq,if_pos ⟨hr,hq⟩]
      · rw[if_neg hq,if_neg fun q=>hq q.2]
theorem walks_cyN {f:Nat->Nat} {n:Nat} (hf:∀ a,1<=a->a<=n->1<=f a/\f a<=n) (hi:∀ a b,1<=a->a<=n->1<=b->b<=n->f a=f b->a=b) (Q:Nat->Bool) (q0:Q 0=false):(walksTo f n n).1.countP (fun l=>Q (l.getD 0 0))=cyN (up0 f) (n+1) Q:=(heads_roots hf hi n (Nat.le_refl _)).2 Q q0
end Go.Proofs.YtbobljddklldjaaGreatDoor
