/- Several texts of the proof, one behind the other. -/
import Derived.Test.YtmnejkaihjpejaaGreatDoorQueP
import Derived.Test.YtmnejkaihjpejaaGreatDoorZ0P
import Derived.Test.YtmnejkaihjpejaaGreatDoorW1P
/- Tables of numbers that a call owns. -/
namespace Go.Proofs.YtmnejkaihjpejaaGreatDoor
open Go.RowKit
def outC0 (m:Nat) (gs:Nat->Nat) (k:Nat):List Value:=(List.range m).map fun i=>if i<k then .slice (some ⟨gs i,0,none⟩) m m else .slice none 0 0
theorem outC0_len (m:Nat) (gs:Nat->Nat) (k:Nat):(outC0 m gs k).length=m:=by simp[outC0]
theorem outC0_get (m:Nat) (gs:Nat->Nat) (k i:Nat) (h:i<m):(outC0 m gs k)[i]?=some (if i<k then .slice (some ⟨gs i,0,none⟩) m m else .slice none 0 0):=by simp[outC0,h]
structure TabAt (B gt m:Nat) (gs:Nat->Nat) (k:Nat) (T:Nat->Nat->Int) (W:World):Prop where
 outer:W.ownsRow B 26 1 (.slice (some ⟨gt,0,none⟩) m m) m (outC0 m gs k)
 rows:∀ i,i<k->W.ownsRow B 3 1 (.slice (some ⟨gs i,0,none⟩) m m) m (intsV (mapI m (T i)))
 inj:∀ i j,i<k->j<k->gs i=gs j->i=j
theorem TabAt.any {B gt m k:Nat} {gs:Nat->Nat} {T:Nat->Nat->Int} {W W':World} (h:TabAt B gt m gs k T W) (hg:W.grownBy W' none):TabAt B gt m gs k T W':=
 ⟨own_any h.outer hg,fun i hi=>own_any (h.rows i hi) hg,h.inj⟩
theorem TabAt.cellO {B gt m k:Nat} {gs:Nat->Nat} {T:Nat->Nat->Int} {W:World} (h:TabAt B gt m gs k T W) (i:Nat) (hi:i<k) (hm:i<m):W.cell? ⟨gt,i,none⟩=some (.slice (some ⟨gs i,0,none⟩) m m):=by
 rw[h.outer.cellAt i (by omega),outC0_get m gs k i hm,if_pos hi]
theorem TabAt.cellR {B gt m k:Nat} {gs:Nat->Nat} {T:Nat->Nat->Int} {W:World} (h:TabAt B gt m gs k T W) (i j:Nat) (hi:i<k) (hj:j<m):W.cell? ⟨gs i,j,none⟩=some (.int .i64 (T i j)):=by
 rw[(h.rows i hi).cellAt j (by omega),intsV_get _ j (by rw[mapI_len];exact hj),mapI_at _ _ _ hj]
theorem TabAt.set {B gt m k:Nat} {gs:Nat->Nat} {T T':Nat->Nat->Int} {W:World} (h:TabAt B gt m gs k T W) (i j:Nat) (x:Int) (hi:i<k) (hT:∀ a b,a<k->b<m->T' a b=if a=i/\b=j then x else T a b):TabAt B gt m gs k T' (W.setCell ⟨gs i,j,none⟩ (.int .i64 x))/\W.grownBy (W.setCell ⟨gs i,j,none⟩ (.int .i64 x)) (some (gs i)):=by
 have hst:=(h.rows i hi).stored j (.int .i64 x)
 rw[intsV_set]at hst
 refine⟨⟨h.outer.kept hst.2 (own_ne h.outer (h.rows i hi) (by decide)),fun a ha=>?_,h.inj⟩,hst.2⟩
 by_cases e:a=i
 · subst e
   rw[mapI_set m (T a) (T' a) j x (fun b hb=>by rw[hT a b ha hb];by_cases e:b=j<;>simp[e])]at hst
   exact hst.1
 · have hr:=(h.rows a ha).kept hst.2 (Or.inr (fun q=>e (h.inj a i ha hi (Option.some.inj q))))
   rw[mapI_congr m (T' a) (T a) (fun b hb=>by rw[hT a b ha hb,if_neg (fun q=>e q.1)])]
   exact hr
theorem TabAt.more {B gt m k g : Nat} {gs : Nat → Nat} {T : Nat → Nat → Int} {W W1 : World} (h : TabAt B gt m gs k T W) (hg : W.grownBy W1 none) (hrow : W1.ownsRow B 3 1 (.slice (some ⟨g, 0, none⟩) m m) m (intsV (mapI m (T k)))) (hnew : W.heap.size ≤ g) :
    TabAt B gt m (fun i=>if i=k then g else gs i) (k+1) T (W1.setCell ⟨gt,k,none⟩ (.slice (some ⟨g,0,none⟩) m m))/\W1.grownBy (W1.setCell ⟨gt,k,none⟩ (.slice (some ⟨g,0,none⟩) m m)) (some gt):=by
 have h1:=h.any hg
 have hst:=h1.outer.stored k (.slice (some ⟨g,0,none⟩) m m)
 have hlt:∀ i,i<k->gs i<g:=fun i hi=>by have:=((h.rows i hi).lt (gs i) rfl).2;omega
 refine⟨⟨?_,fun i hi=>?_,fun i j hi hj e=>?_⟩,hst.2⟩
 · have e : (outC0 m gs k).set k (.slice (some ⟨g, 0, none⟩) m m) = outC0 m (fun i => if i = k then g else gs i) (k + 1) := by
     apply List.ext_getElem?
     intro j
     by_cases hj:j<m
     · rw[outC0_get _ _ _ _ hj,List.getElem?_set,outC0_len]
       by_cases e:k=j
       · subst e;simp[hj]
       · rw[if_neg e,outC0_get _ _ _ _ hj]
         by_cases h2:j<k
         · rw[if_pos h2,if_pos (by omega),if_neg (by omega)]
         · rw[if_neg h2,if_neg (by omega)]
     · rw[List.getElem?_eq_none (by simp[outC0_len];omega),List.getElem?_eq_none (by simp[outC0_len];omega)]
   rw[<-e]
   exact hst.1
 · by_cases e:i=k
   · subst e
     simp only[if_true]
     exact hrow.kept hst.2 (own_ne hrow h1.outer (by decide))
   · simp only[if_neg e]
     have hr:=h1.rows i (by omega)
     exact hr.kept hst.2 (own_ne hr h1.outer (by decide))
 · have e:(if i=k then g else gs i)=(if j=k then g else gs j):=e
   by_cases e1:i=k
   · by_cases e2:j=k
     · omega
     · rw[if_pos e1,if_neg e2]at e
       have:=hlt j (by omega)
       omega
   · by_cases e2:j=k
     · rw[if_neg e1,if_pos e2]at e
       have:=hlt i (by omega)
       omega
     · rw[if_neg e1,if_neg e2]at e
       exact h.inj i j (by omega) (by omega) e
theorem made_nils (n:Nat):(madeCells (Value.slice none 0 0).cells (n*1)).toList=outC0 n (fun _=>0) 0:=by
 have e:(Value.slice none 0 0).cells=#[Value.slice none 0 0]:=rfl
 rw[e,toList_madeCells_one,Nat.mul_one]
 apply List.ext_getElem?
 intro j
 by_cases hj:j<n
 · rw[outC0_get _ _ _ _ hj,if_neg (by omega)];simp[hj]
 · rw[List.getElem?_eq_none (by simp;omega),List.getElem?_eq_none (by simp[outC0_len];omega)]
theorem TabAt.congr {B gt m k:Nat} {gs:Nat->Nat} {T T':Nat->Nat->Int} {W:World} (h:TabAt B gt m gs k T W) (e:∀ x y,x<k->y<m->T' x y=T x y):TabAt B gt m gs k T' W:=
 ⟨h.outer,fun i hi=>by rw[mapI_congr m (T' i) (T i) (fun y hy=>e i y hi hy)];exact h.rows i hi,h.inj⟩
theorem TabAt.low {B B' gt m k:Nat} {gs:Nat->Nat} {T:Nat->Nat->Int} {W:World} (h:TabAt B gt m gs k T W) (hB:B'<=B):TabAt B' gt m gs k T W:=
 ⟨own_low h.outer hB,fun i hi=>own_low (h.rows i hi) hB,h.inj⟩
end Go.Proofs.YtmnejkaihjpejaaGreatDoor
/- Plain mathematics: both searches count the same. -/
namespace Go.Proofs.YtmnejkaihjpejaaGreatDoor
theorem ovM_in {C:List Cr} {loops:Int} (hm:mayD C loops=true) (a:Nat) (h1:1<=a) (h2:a<=2*C.length):ovM C a<ovC C:=by
 have hL:=lowM_least (ovE_lt hm)
 have hp:=hL.pos (fun e he=>⟨(ovE_in hm e he).1.1,(ovE_in hm e he).2.1⟩) (v:=a) (by omega) h1
 have h3:=rootsN_at (lowM C) ((lowM C).getD a 0) hp
 rw[if_pos (hL.root (by omega))]at h3
 have h4:=rootsN_mono (lowM C) ((lowM C).getD a 0+1) (2*C.length+1) (by have:=hL.le (v:=a) (by omega);omega)
 show rootsN (lowM C) ((lowM C).getD a 0)<rootsN (lowM C) (2*C.length+1)
 omega
end Go.Proofs.YtmnejkaihjpejaaGreatDoor
/- Plain mathematics: rows modulo a prime, what they span, and how many columns have a first place in it. -/
namespace Go.Proofs.YtmnejkaihjpejaaGreatDoor
def primeN (p:Nat):Bool:=decide (2<=p)&&(List.range p).all fun k=>decide (k<2)||decide (p%k≠0)
theorem inv_all:((List.range 98).all fun p=>!primeN p||(List.range p).all fun a=>a==0||(List.range p).any fun b=>a*b%p==1)=true:=by decide +kernel
theorem inv_ex {p a:Nat} (hp:p<98) (h:primeN p=true) (ha:a<p) (h0:a≠0):∃ b,b<p/\a*b%p=1:=by
 have h1:=List.all_eq_true.1 inv_all p (List.mem_range.2 hp)
 rw[h]at h1
 have h2:=List.all_eq_true.1 (by simpa using h1:((List.range p).all fun a=>a==0||(List.range p).any fun b=>a*b%p==1)=true) a (List.mem_range.2 ha)
 rcases Bool.or_eq_true_iff.1 h2 with h3|h3
 · exact absurd (by simpa using h3) h0
 · obtain⟨b,hb,e⟩:=List.any_eq_true.1 h3
   exact⟨b,List.mem_range.1 hb,by simpa using e⟩
structure Sub (p m:Nat) (S:(Nat->Int)->Prop):Prop where
 zero:S (fun _=>0)
 add:∀ u v (k:Int),S u->S v->S (fun j=>u j+k*v j)
 mod:∀ u v,(∀ j,j<m->(p:Int) ∣ u j-v j)->S u->S v
def Sp (p m:Nat) (R:(Nat->Int)->Prop) (v:Nat->Int):Prop:=∀ S,Sub p m S->(∀ r,R r->S r)->S v
theorem Sp.mem {p m:Nat} {R:(Nat->Int)->Prop} {r:Nat->Int} (h:R r):Sp p m R r:=fun _ _ hR=>hR r h
theorem Sp.sub (p m:Nat) (R:(Nat->Int)->Prop):Sub p m (Sp p m R):=
 ⟨fun _ hS _=>hS.zero,fun u v k hu hv S hS hR=>hS.add u v k (hu S hS hR) (hv S hS hR),fun u v h hu S hS hR=>hS.mod u v h (hu S hS hR)⟩
theorem Sp.le {p m:Nat} {R R':(Nat->Int)->Prop} {v:Nat->Int} (h:∀ r,R r->Sp p m R' r) (hv:Sp p m R v):Sp p m R' v:=hv _ (Sp.sub p m R') h
def Vc (p m:Nat) (R0:(Nat->Int)->Prop) (c:Nat) (v:Nat->Int):Prop:=Sp p m R0 v/\∀ j,j<c->(p:Int) ∣ v j
def Inv (p m:Nat) (R0:(Nat->Int)->Prop) (c:Nat) (R:(Nat->Int)->Prop):Prop:=∀ v,Sp p m R v↔Vc p m R0 c v
theorem sp_col {p m c:Nat} {R:(Nat->Int)->Prop} (hc:c<m) (h:∀ r,R r->(p:Int) ∣ r c) {v:Nat->Int} (hv:Sp p m R v):(p:Int) ∣ v c:=
 hv (fun v => (p : Int) ∣ v c) ⟨Int.dvd_zero _, fun u v k hu hv => Int.dvd_add hu (Int.dvd_mul_of_dvd_right hv), fun u v h hu => by
  have h1:=Int.dvd_sub hu (h c hc)
  have e:u c-(u c-v c)=v c:=by omega
  rw[e]at h1
  exact h1⟩ h
theorem Inv.start {p m:Nat} {R0 R:(Nat->Int)->Prop} (h1:∀ r,R r->∃ q,R0 q/\∀ j,j<m->(p:Int) ∣ q j-r j) (h2:∀ r,R0 r->∃ q,R q/\∀ j,j<m->(p:Int) ∣ q j-r j):Inv p m R0 0 R:=fun v=>
 ⟨fun hv => ⟨Sp.le (fun r hr => by obtain ⟨q, hq, e⟩ := h1 r hr; exact (Sp.sub p m R0).mod q r e (Sp.mem hq)) hv, fun j hj => absurd hj (Nat.not_lt_zero _)⟩,
  fun hv=>Sp.le (fun r hr=>by obtain⟨q,hq,e⟩:=h2 r hr;exact(Sp.sub p m R).mod q r e (Sp.mem hq)) hv.1⟩
theorem Inv.none {p m c:Nat} {R0 R:(Nat->Int)->Prop} (h:Inv p m R0 c R) (hc:c<m) (hn:∀ r,R r->(p:Int) ∣ r c):Inv p m R0 (c+1) R:=fun v=>
 ⟨fun hv => ⟨((h v).1 hv).1, fun j hj => by
     by_cases e:j=c
     · rw[e];exact sp_col hc hn hv
     · exact((h v).1 hv).2 j (by omega)⟩,
  fun hv=>(h v).2 ⟨hv.1,fun j hj=>hv.2 j (by omega)⟩⟩
theorem Inv.piv {p m c : Nat} {R0 R R' : (Nat → Int) → Prop} (h : Inv p m R0 c R) (hc : c < m) (a : Nat → Int) (ha : R a) (b : Int) (hb : (p : Int) ∣ a c * b - 1)
    (h1:∀ r',R' r'->(p:Int) ∣ r' c/\∃ r k,R r/\∀ j,j<m->(p:Int) ∣ (r j+k*a j)-r' j)
    (h2:∀ r,R r->r=a∨∃ r' k,R' r'/\∀ j,j<m->(p:Int) ∣ (r' j+k*a j)-r j):Inv p m R0 (c+1) R':=by
 have in1:∀ r',R' r'->Sp p m R r':=fun r' hr'=>by
  obtain⟨-,r,k,hr,e⟩:=h1 r' hr'
  exact(Sp.sub p m R).mod _ r' e ((Sp.sub p m R).add r a k (Sp.mem hr) (Sp.mem ha))
 have col:∀ r',R' r'->(p:Int) ∣ r' c:=fun r' hr'=>(h1 r' hr').1
 intro v
 constructor
 · intro hv
   have hv1:=(h v).1 (Sp.le in1 hv)
   refine⟨hv1.1,fun j hj=>?_⟩
   by_cases e:j=c
   · rw[e];exact sp_col hc col hv
   · exact hv1.2 j (by omega)
 · intro hv
   have hv1:Sp p m R v:=(h v).2 ⟨hv.1,fun j hj=>hv.2 j (by omega)⟩
   have hsub:=Sp.sub p m R'
   -- each is a multiple of the pivot and what the new rows span
   have key:∃ k:Int,Sp p m R' (fun j=>v j+k*a j):=by
    refine hv1 (fun v=>∃ k:Int,Sp p m R' (fun j=>v j+k*a j)) ⟨⟨0,?_⟩,?_,?_⟩ ?_
    · exact hsub.mod _ _ (fun j _=>by simp) hsub.zero
    · rintro u w k ⟨k1,hu⟩ ⟨k2,hw⟩
      refine⟨k1+k*k2,hsub.mod _ _ (fun j _=>?_) (hsub.add _ _ k hu hw)⟩
      have e:(u j+k1*a j+k*(w j+k2*a j))-(u j+k*w j+(k1+k*k2)*a j)=0:=by
       rw[Int.mul_add,Int.add_mul,Int.mul_assoc];omega
      rw[e];exact Int.dvd_zero _
    · rintro u w e ⟨k,hu⟩
      refine⟨k,hsub.mod _ _ (fun j hj=>?_) hu⟩
      have e2:u j+k*a j-(w j+k*a j)=u j-w j:=by omega
      rw[e2];exact e j hj
    · intro r hr
      rcases h2 r hr with rfl|⟨r',k,hr',e⟩
      · exact ⟨-1, hsub.mod _ _ (fun j _ => by have e : (0 : Int) - (r j + -1 * r j) = 0 := by omega
                                               rw[e];exact Int.dvd_zero _) hsub.zero⟩
      · refine⟨-k,hsub.mod r' _ (fun j hj=>?_) (Sp.mem hr')⟩
        have e2:r' j-(r j + -k*a j)=r' j+k*a j-r j:=by rw[Int.neg_mul];omega
        rw[e2];exact e j hj
   obtain⟨k,hk⟩:=key
   have hkc:=sp_col hc col hk
   have hvc:=hv.2 c (by omega)
   have d1:(p:Int) ∣ k*a c:=by
    have:=Int.dvd_sub hkc hvc
    have e:v c+k*a c-v c=k*a c:=by omega
    rw[e]at this;exact this
   have d2:(p:Int) ∣ k:=by
    have e1:(p:Int) ∣ k*(a c*b-1):=Int.dvd_mul_of_dvd_right hb
    have e2:(p:Int) ∣ k*a c*b:=Int.dvd_mul_of_dvd_left d1
    have e3:=Int.dvd_sub e2 e1
    have e4:k*a c*b-k*(a c*b-1)=k:=by rw[Int.mul_sub,Int.mul_assoc];omega
    rw[e4]at e3;exact e3
   refine hsub.mod _ v (fun j _=>?_) hk
   have e:v j+k*a j-v j=k*a j:=by omega
   rw[e];exact Int.dvd_mul_of_dvd_left d2
def pivP (p m:Nat) (R0:(Nat->Int)->Prop) (c:Nat):Prop:=∃ v,Vc p m R0 c v/\¬ (p:Int) ∣ v c
theorem piv_iff {p m c:Nat} {R0 R:(Nat->Int)->Prop} (h:Inv p m R0 c R) (hc:c<m):pivP p m R0 c↔∃ r,R r/\¬ (p:Int) ∣ r c:=by
 constructor
 · rintro⟨v,hv,hn⟩
   refine Classical.byContradiction fun hno=>hn (sp_col hc (fun r hr=>Classical.byContradiction fun hd=>hno ⟨r,hr,hd⟩) ((h v).2 hv))
 · rintro⟨r,hr,hn⟩
   exact⟨r,(h r).1 (Sp.mem hr),hn⟩
open Classical in
noncomputable def rkTo (p m:Nat) (R0:(Nat->Int)->Prop):Nat->Nat
 |0=>0
 |c+1=>rkTo p m R0 c+(if pivP p m R0 c then 1 else 0)
theorem rkTo_yes {p m c:Nat} {R0:(Nat->Int)->Prop} (h:pivP p m R0 c):rkTo p m R0 (c+1)=rkTo p m R0 c+1:=by
 show rkTo p m R0 c+_=_;rw[if_pos h]
theorem rkTo_no {p m c:Nat} {R0:(Nat->Int)->Prop} (h:¬ pivP p m R0 c):rkTo p m R0 (c+1)=rkTo p m R0 c:=by
 show rkTo p m R0 c+_=_;rw[if_neg h];rfl
theorem rkTo_le (p m:Nat) (R0:(Nat->Int)->Prop) (c:Nat):rkTo p m R0 c<=c:=by
 induction c with
 |zero=>exact Nat.le_refl _
 |succ c ih=>
  by_cases h:pivP p m R0 c
  · rw[rkTo_yes h];omega
  · rw[rkTo_no h];omega
theorem tmod_same (x:Int) (p:Nat):(p:Int) ∣ x-x.tmod p:=⟨x.tdiv p,by have:=Int.mul_tdiv_add_tmod x p;omega⟩
theorem tmod_in {x:Int} {p:Nat} (hp:0<p) (hx:0<=x):0<=x.tmod p/\x.tmod p<p:=⟨Int.tmod_nonneg _ hx,Int.tmod_lt_of_pos _ (by omega)⟩
theorem tmod_zero (x:Int) (p:Nat):x.tmod p=0↔(p:Int) ∣ x:=by
 constructor
 · intro h;have:=tmod_same x p;rw[h]at this;simpa using this
 · intro h;exact Int.tmod_eq_zero_of_dvd h
theorem small_dvd {x:Int} {p:Nat} (h0:0<=x) (h1:x<p):(p:Int) ∣ x↔x=0:=by
 constructor
 · rintro⟨k,e⟩
   by_cases hk:k<=0
   · have:(p:Int)*k<=0:=Int.mul_nonpos_of_nonneg_of_nonpos (by omega) hk
     omega
   · have:(p:Int)*1<=p*k:=Int.mul_le_mul_of_nonneg_left (by omega) (by omega)
     omega
 · intro e;rw[e];exact Int.dvd_zero _
theorem inv_int {p:Nat} (hp:p<98) (h:primeN p=true) (x:Int) (hx:¬ (p:Int) ∣ x):∃ b:Int,(p:Int) ∣ x*b-1:=by
 have h2:2<=p:=by
  have:=(Bool.and_eq_true_iff.1 h).1
  simpa using this
 have hr0:0<=x%p:=Int.emod_nonneg _ (by omega)
 have hr1:x%p<p:=Int.emod_lt_of_pos _ (by omega)
 obtain⟨a,ha⟩:∃ a:Nat,x%p=(a:Int):=⟨(x%p).toNat,by omega⟩
 have ha0:a≠0:=fun e=>hx (Int.dvd_of_emod_eq_zero (by rw[ha,e];rfl))
 obtain⟨b,-,e⟩:=inv_ex hp h (by omega) ha0
 refine⟨b,?_⟩
 have e1:(p:Int) ∣ (a:Int)*b-1:=by
  refine⟨((a*b / p:Nat):Int),?_⟩
  have:=Nat.div_add_mod (a*b) p
  rw[e]at this
  have t:((p*(a*b / p)+1:Nat):Int)=((a*b:Nat):Int):=by rw[this]
  push_cast at t
  push_cast
  omega
 have e2:(p:Int) ∣ (x-a)*b:=Int.dvd_mul_of_dvd_left (by rw[<-ha];exact⟨x / p,by have:=Int.mul_ediv_add_emod x p;omega⟩)
 have e3:=Int.dvd_add e1 e2
 have e4:(a:Int)*b-1+(x-a)*b=x*b-1:=by rw[Int.sub_mul];omega
 rw[e4]at e3;exact e3
end Go.Proofs.YtmnejkaihjpejaaGreatDoor
/- Determinants of whole numbers, along the first row: rows may be traded and added to one another; modulo a prime a determinant is nought just where a column has no first place. -/
namespace Go.Proofs.YtmnejkaihjpejaaGreatDoor
def rowZ (a:Nat->Int):List Nat->(List Nat->Int)->Int
 |[],_=>0
 |c::cs,h=>a c*h cs-rowZ a cs (fun rest=>h (c::rest))
def detZ:List (Nat->Int)->List Nat->Int
 |[],_=>1
 |r::rs,cs=>rowZ r cs (detZ rs)
theorem rowZ_lin2 (a:Nat->Int) (k:Int) (cs:List Nat) (h h':List Nat->Int):rowZ a cs (fun rest=>h rest+k*h' rest)=rowZ a cs h+k*rowZ a cs h':=by
 induction cs generalizing h h' with
 |nil=>simp[rowZ]
 |cons c cs ih=>
  simp only[rowZ,ih (fun rest=>h (c::rest)) (fun rest=>h' (c::rest))]
  grind
theorem rowZ_mul (a:Nat->Int) (k:Int) (cs:List Nat) (h:List Nat->Int):rowZ a cs (fun rest=>k*h rest)=k*rowZ a cs h:=by
 induction cs generalizing h with
 |nil=>simp[rowZ]
 |cons c cs ih=>
  simp only[rowZ,ih (fun rest=>h (c::rest))]
  grind
theorem rowZ_lin (a b:Nat->Int) (k:Int) (cs:List Nat) (h:List Nat->Int):rowZ (fun c=>a c+k*b c) cs h=rowZ a cs h+k*rowZ b cs h:=by
 induction cs generalizing h with
 |nil=>simp[rowZ]
 |cons c cs ih=>
  simp only[rowZ,ih (fun rest=>h (c::rest))]
  grind
theorem rowZ_twice (a:Nat->Int) (cs:List Nat) (h:List Nat->Int):rowZ a cs (fun rest=>rowZ a rest h)=0:=by
 induction cs generalizing h with
 |nil=>rfl
 |cons c cs ih=>
  have e:rowZ a cs (fun rest=>rowZ a (c::rest) h)=rowZ a cs (fun rest=>a c*h rest+(-1)*rowZ a rest (fun r2=>h (c::r2))):=by
   congr 1
   funext rest
   simp only[rowZ]
   omega
  show a c*rowZ a cs h-rowZ a cs (fun rest=>rowZ a (c::rest) h)=0
  rw[e,rowZ_lin2,rowZ_mul,ih]
  omega
theorem rowZ_swap (a b:Nat->Int) (cs:List Nat) (h:List Nat->Int):rowZ a cs (fun rest=>rowZ b rest h) = -rowZ b cs (fun rest=>rowZ a rest h):=by
 have t:=rowZ_twice (fun c=>a c+1*b c) cs h
 have e:(fun rest=>rowZ (fun c=>a c+1*b c) rest h)=fun rest=>rowZ a rest h+1*rowZ b rest h:=funext fun rest=>rowZ_lin a b 1 rest h
 rw[e,rowZ_lin2,rowZ_lin,rowZ_lin,rowZ_twice,rowZ_twice]at t
 omega
theorem detZ_lin (X Y:List (Nat->Int)) (r a:Nat->Int) (k:Int) (cs:List Nat):detZ (X++(fun c=>r c+k*a c)::Y) cs=detZ (X++r::Y) cs+k*detZ (X++a::Y) cs:=by
 induction X generalizing cs with
 |nil=>exact rowZ_lin r a k cs (detZ Y)
 |cons x X ih=>
  show rowZ x cs (detZ (X++_::Y))=rowZ x cs (detZ (X++r::Y))+k*rowZ x cs (detZ (X++a::Y))
  rw[<-rowZ_lin2]
  congr 1
  funext rest
  exact ih rest
def sgZ:Nat->Int
 |0=>1
 |n+1 => -sgZ n
theorem sgZ_two (n:Nat):sgZ n=1∨sgZ n = -1:=by
 induction n with
 |zero=>exact Or.inl rfl
 |succ n ih=>simp only[sgZ];omega
theorem detZ_front (X Y:List (Nat->Int)) (a:Nat->Int) (cs:List Nat):detZ (X++a::Y) cs=sgZ X.length*detZ (a::(X++Y)) cs:=by
 induction X generalizing cs with
 |nil=>show _=1*_;rw[Int.one_mul];rfl
 |cons x X ih=>
  have e:detZ (X++a::Y)=fun rest=>sgZ X.length*rowZ a rest (detZ (X++Y)):=funext fun rest=>ih rest
  show rowZ x cs (detZ (X++a::Y)) = -sgZ X.length*rowZ a cs (fun rest=>rowZ x rest (detZ (X++Y)))
  rw[e,rowZ_mul,rowZ_swap,Int.mul_neg,Int.neg_mul]
theorem detZ_same (X Y:List (Nat->Int)) (a:Nat->Int) (cs:List Nat):detZ (a::(X++a::Y)) cs=0:=by
 have e:detZ (X++a::Y)=fun rest=>sgZ X.length*rowZ a rest (detZ (X++Y)):=funext fun rest=>detZ_front X Y a rest
 show rowZ a cs (detZ (X++a::Y))=0
 rw[e,rowZ_mul,rowZ_twice,Int.mul_zero]
theorem detZ_clear (a:Nat->Int) (q:(Nat->Int)->Int) (cs:List Nat):∀ (l X:List (Nat->Int)),detZ (a::(X++l.map fun r c=>r c+q r*a c)) cs=detZ (a::(X++l)) cs
 |[],X=>by simp
 |r::l,X=>by
  have h1:=detZ_lin (a::X) (l.map fun r c=>r c+q r*a c) r a (q r) cs
  have h2:=detZ_same X (l.map fun r c=>r c+q r*a c) a cs
  have h3:=detZ_clear a q cs l (X++[r])
  simp only[List.append_assoc,List.cons_append,List.nil_append]at h3
  show detZ (a::X++(fun c=>r c+q r*a c)::(l.map fun r c=>r c+q r*a c)) cs=_
  rw[h1]
  show detZ (a::(X++r::(l.map fun r c=>r c+q r*a c))) cs+q r*detZ (a::(X++a::(l.map fun r c=>r c+q r*a c))) cs=_
  rw[h2,h3,Int.mul_zero,Int.add_zero]
theorem rowZ_dvd {d:Int} (a:Nat->Int):∀ (cs:List Nat) (h:List Nat->Int),(∀ x c y,cs=x++c::y->d ∣ a c*h (x++y))->d ∣ rowZ a cs h
 |[],_,_=>Int.dvd_zero _
 |c::cs,h,hd=>by
  refine Int.dvd_sub (hd [] c cs rfl) (rowZ_dvd a cs _ fun x c' y e=>?_)
  exact hd (c::x) c' y (by rw[e];rfl)
theorem detZ_col {d:Int} {c:Nat}:∀ (R:List (Nat->Int)) (cs:List Nat),R.length=cs.length->c∈cs->(∀ r∈R,d ∣ r c)->d ∣ detZ R cs
 |[],cs,hl,hc,_=>by
  cases cs with
  |nil=>cases hc
  |cons x y=>simp at hl
 |r::R,cs,hl,hc,h=>by
  refine rowZ_dvd r cs (detZ R) fun x c' y e=>?_
  by_cases q:c'=c
  · rw[q]
    exact Int.dvd_mul_of_dvd_left (h r (.head _))
  · refine Int.dvd_mul_of_dvd_right (detZ_col R (x++y) ?_ ?_ fun r' hr'=>h r' (.tail _ hr'))
    · rw[e]at hl;simp at hl ⊢;omega
    · rw[e]at hc
      rcases List.mem_append.1 hc with g|g
      · exact List.mem_append_left _ g
      · cases g with
        |head=>exact absurd rfl q
        |tail _ g=>exact List.mem_append_right _ g
theorem piv_det {p m N : Nat} (hp2 : 2 ≤ p) (hp : p < 98) (hpr : primeN p = true) (hNm : N ≤ m) (R0 : (Nat → Int) → Prop) : ∀ (q c : Nat) (R : List (Nat → Int)), c + q = N → R.length = q → Inv p m R0 c (fun r => r ∈ R) →
    ((p:Int) ∣ detZ R ((List.range q).map fun i=>c+i)↔∃ c',c<=c'/\c'<N/\¬ pivP p m R0 c')
 |0,c,R,hc,hl,_=>by
  obtain rfl:R=[]:=List.length_eq_zero_iff.1 hl
  constructor
  · intro h
    have h1:(p:Int) ∣ 1:=h
    have:=Int.le_of_dvd (by omega) h1
    omega
  · rintro⟨c',h1,h2,-⟩
    omega
 |q+1,c,R,hc,hl,hI=>by
  have ecs:(List.range (q+1)).map (fun i=>c+i)=c::(List.range q).map fun i=>c+1+i:=by
   rw[List.range_succ_eq_map,List.map_cons,List.map_map,Nat.add_zero]
   congr 1
   refine List.map_congr_left fun i _=>?_
   show c+(i+1)=c+1+i
   omega
  have hpi:=piv_iff hI (show c<m by omega)
  by_cases hv:pivP p m R0 c
  · obtain⟨a,ha,hac⟩:=hpi.1 hv
    obtain⟨b,hb⟩:=inv_int hp hpr (a c) hac
    obtain⟨X,Y,rfl⟩:=List.append_of_mem ha
    have hlen:(X++Y).length=q:=by simp at hl ⊢;omega
    let k:(Nat->Int)->Int:=fun r => -(r c*b)
    have hcol:∀ r'∈(X++Y).map (fun r j=>r j+k r*a j),(p:Int) ∣ r' c:=fun r' hr'=>by
     obtain⟨r,-,rfl⟩:=List.mem_map.1 hr'
     have e:r c + -(r c*b)*a c = -(r c*(a c*b-1)):=by grind
     show(p:Int) ∣ r c + -(r c*b)*a c
     rw[e]
     exact Int.dvd_neg.2 (Int.dvd_mul_of_dvd_right hb)
    have hI2:Inv p m R0 (c+1) (fun r=>r∈(X++Y).map fun r j=>r j+k r*a j):=by
     refine hI.piv (by omega) a ha b hb (fun r' hr'=>⟨hcol r' hr',?_⟩) (fun r hr=>?_)
     · obtain⟨r,hr,rfl⟩:=List.mem_map.1 hr'
       refine⟨r,k r,?_,fun j _=>?_⟩
       · rcases List.mem_append.1 hr with g|g
         · exact List.mem_append_left _ g
         · exact List.mem_append_right _ (.tail _ g)
       · rw[Int.sub_self];exact Int.dvd_zero _
     · rcases List.mem_append.1 hr with g|g
       · refine Or.inr ⟨_,-k r,List.mem_map.2 ⟨r,List.mem_append_left _ g,rfl⟩,fun j _=>?_⟩
         have e:r j+k r*a j + -k r*a j-r j=0:=by grind
         rw[e];exact Int.dvd_zero _
       · cases g with
         |head=>exact Or.inl rfl
         |tail _ g=>
          refine Or.inr ⟨_,-k r,List.mem_map.2 ⟨r,List.mem_append_right _ g,rfl⟩,fun j _=>?_⟩
          have e:r j+k r*a j + -k r*a j-r j=0:=by grind
          rw[e];exact Int.dvd_zero _
    have ih:=piv_det hp2 hp hpr hNm R0 q (c+1) _ (by omega) (by rw[List.length_map];exact hlen) hI2
    have e1:detZ (X++a::Y) (c::(List.range q).map fun i=>c+1+i)=sgZ X.length*detZ (a::(X++Y).map fun r j=>r j+k r*a j) (c::(List.range q).map fun i=>c+1+i):=by
     rw[detZ_front]
     have:=detZ_clear a k (c::(List.range q).map fun i=>c+1+i) (X++Y) []
     simp only[List.nil_append]at this
     rw[this]
    have e2:(p:Int) ∣ rowZ a ((List.range q).map fun i=>c+1+i) (fun rest=>detZ ((X++Y).map fun r j=>r j+k r*a j) (c::rest)):=by
     refine rowZ_dvd a _ _ fun x c' y e=>Int.dvd_mul_of_dvd_right ?_
     refine detZ_col _ _ ?_ (.head _) hcol
     have:=congrArg List.length e
     simp at this
     simp at hlen
     simp
     omega
    have e3:detZ (a::(X++Y).map fun r j=>r j+k r*a j) (c::(List.range q).map fun i=>c+1+i)=a c*detZ ((X++Y).map fun r j=>r j+k r*a j) ((List.range q).map fun i=>c+1+i)-rowZ a ((List.range q).map fun i=>c+1+i) (fun rest=>detZ ((X++Y).map fun r j=>r j+k r*a j) (c::rest)):=rfl
    rw[ecs,e1]
    generalize detZ ((X++Y).map fun r j=>r j+k r*a j) ((List.range q).map fun i=>c+1+i)=D at*
    generalize rowZ a ((List.range q).map fun i=>c+1+i) (fun rest=>detZ ((X++Y).map fun r j=>r j+k r*a j) (c::rest))=E at*
    rw[e3]
    have back:(∃ c',c+1<=c'/\c'<N/\¬ pivP p m R0 c')↔∃ c',c<=c'/\c'<N/\¬ pivP p m R0 c':=by
     constructor
     · rintro⟨c',h1,h2,h3⟩
       exact⟨c',by omega,h2,h3⟩
     · rintro⟨c',h1,h2,h3⟩
       refine⟨c',?_,h2,h3⟩
       by_cases e:c'=c
       · exact absurd hv (by rw[<-e];exact h3)
       · omega
    rw[<-back,<-ih]
    constructor
    · intro h
      have h1:(p:Int) ∣ a c*D-E:=by
       rcases sgZ_two X.length with s|s
       · rw[s,Int.one_mul]at h;exact h
       · rw[s]at h
         have:=Int.dvd_neg.2 h
         rw[show -(-1*(a c*D-E))=a c*D-E by omega]at this
         exact this
      have h2:(p:Int) ∣ a c*D:=by
       have:=Int.dvd_add h1 e2
       rw[show a c*D-E+E=a c*D by omega]at this
       exact this
      have h3:(p:Int) ∣ b*(a c*D)-(a c*b-1)*D:=Int.dvd_sub (Int.dvd_mul_of_dvd_right h2) (Int.dvd_mul_of_dvd_left hb)
      rw[show b*(a c*D)-(a c*b-1)*D=D by grind]at h3
      exact h3
    · intro h
      exact Int.dvd_mul_of_dvd_right (Int.dvd_sub (Int.dvd_mul_of_dvd_right h) e2)
  · have hz:∀ r∈R,(p:Int) ∣ r c:=fun r hr=>Classical.byContradiction fun hd=>hv (hpi.2 ⟨r,hr,hd⟩)
    refine⟨fun _=>⟨c,Nat.le_refl _,by omega,hv⟩,fun _=>?_⟩
    rw[ecs]
    exact detZ_col R _ (by simp;omega) (.head _) hz
end Go.Proofs.YtmnejkaihjpejaaGreatDoor
