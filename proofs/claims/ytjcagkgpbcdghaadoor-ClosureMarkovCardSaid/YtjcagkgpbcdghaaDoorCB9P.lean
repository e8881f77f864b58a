/- Several texts of the proof, one behind the other. -/
import Derived.Test.YtjcagkgpbcdghaaDoorCB6P
import Derived.Test.YtjcagkgpbcdghaaDoorAS3P
/- Braids closed: the table over places and levels, merged, is Alexander's one over arcs; a place without letters leaves nothing. -/
namespace Go.Proofs.YtjcagkgpbcdghaaDoor
theorem Qy3 {l:List Int} {n:Nat} (t:Int) {k x:Nat} (hx:1<=(l.getD k 0).natAbs/\(l.getD k 0).natAbs<n) (_h1:1<=x) (_h2:x<=n):∃ a b d:Int,(∀ Y,inB l t k x Y=a*Y x+b*Y (x+1)+d*Y (x-1))/\(b=0∨x+1<=n)/\(d=0∨1<=x-1):=by
 unfold inB
 by_cases e1:x=(l.getD k 0).natAbs
 · simp only[if_pos e1]
   by_cases q:0<l.getD k 0
   · simp only[if_pos q]
     exact⟨t-1,-t,0,fun Y=>by grind,Or.inr (by omega),Or.inl rfl⟩
   · simp only[if_neg q]
     exact⟨0,1,0,fun Y=>by grind,Or.inr (by omega),Or.inl rfl⟩
 · simp only[if_neg e1]
   by_cases e2:x=(l.getD k 0).natAbs+1
   · simp only[if_pos e2]
     by_cases q:0<l.getD k 0
     · simp only[if_pos q]
       exact⟨0,0,-1,fun Y=>by grind,Or.inl rfl,Or.inr (by omega)⟩
     · simp only[if_neg q]
       exact⟨t-1,0,1,fun Y=>by grind,Or.inl rfl,Or.inr (by omega)⟩
   · simp only[if_neg e2]
     exact⟨-1,0,0,fun Y=>by grind,Or.inl rfl,Or.inl rfl⟩
theorem Zh6 (M:Nat) (W:List Nat) (u a b d:Int) (f1 f2 f3 f4:Nat->Int) (c:Nat):QJ9 M W (fun z=>u*f1 z+(a*f2 z+b*f3 z+d*f4 z)) c=u*QJ9 M W f1 c+(a*QJ9 M W f2 c+b*QJ9 M W f3 c+d*QJ9 M W f4 c):=by
 unfold QJ9
 rw[<-QJ5,<-QJ5,<-QJ5,<-QJ5,<-QX1,<-QX1,<-QX1]
 refine QQ2 fun i _=>?_
 split
 · rfl
 · omega
theorem Kg4 {M:Nat} (W:List Nat) {p:Nat} (h1:1<=p) (h2:p<=M) (c:Nat):QJ9 M W (fun z=>dlP p z) c=if W.getD p 0=c then 1 else 0:=by
 have e:=QY3 M p h1 h2 (fun a=>if W.getD a 0=c then(1:Int) else 0)
 unfold QJ9
 rw[<-e]
 refine QQ2 fun i _=>?_
 unfold dlP
 by_cases q:W.getD (i+1) 0=c
 · rw[if_pos q,if_pos q,Qk2]
 · rw[if_neg q,if_neg q];split<;>rfl
def rwG (l:List Int) (t:Int) (e:Nat×Nat) (α:Nat->Nat->Int):Int:=uR l t e.1 e.2*α e.2 (e.1+1)+inB l t e.1 e.2 fun y=>α y e.1
theorem Zh4 {l:List Int} {n:Nat} (t:Int) {e:Nat×Nat} (hx:1<=(l.getD e.1 0).natAbs/\(l.getD e.1 0).natAbs<n) (h1:1<=e.2) (h2:e.2<=n) {α β:Nat->Nat->Int} (h:∀ x,1<=x->x<=n->α x e.1=β x e.1/\α x (e.1+1)=β x (e.1+1)):rwG l t e α=rwG l t e β:=by
 obtain⟨a,b,d,q1,q2,q3⟩:=Qy3 t hx h1 h2
 unfold rwG
 rw[q1,q1,(h e.2 h1 h2).2,(h e.2 h1 h2).1]
 congr 1
 have e1:b*α (e.2+1) e.1=b*β (e.2+1) e.1:=by
  rcases q2 with q|q
  · rw[q];omega
  · rw[(h _ (by omega) q).1]
 have e2:d*α (e.2-1) e.1=d*β (e.2-1) e.1:=by
  rcases q3 with q|q
  · rw[q];omega
  · rw[(h _ q (by omega)).1]
 rw[e1,e2]
section
variable {n:Nat} {l:List Int} (hw:∀ j,j<l.length->1<=(l.getD j 0).natAbs/\(l.getD j 0).natAbs<n)
include hw
theorem JF3 (t:Int) (W:List Nat) {e:Nat×Nat} (he:e∈ixP n l.length) (c:Nat):QJ9 (n*l.length) W (rwP l n t e) c=rwG l t e fun x k=>if W.getD (ptN n l.length x k) 0=c then 1 else 0:=by
 obtain⟨h1,h2,h3⟩:=ixP_mem.1 he
 obtain⟨a,b,d,q1,q2,q3⟩:=Qy3 t (hw e.1 h1) h2 h3
 have r:∀ x k,1<=x->x<=n->QJ9 (n*l.length) W (fun z=>dlP (ptN n l.length x k) z) c=if W.getD (ptN n l.length x k) 0=c then 1 else 0:=fun x k g1 g2=>by
  have:=XU5 (l:=l) (k:=k) (by omega) g1 g2
  exact Kg4 W this.1 this.2 c
 have ef:rwP l n t e=fun z=>uR l t e.1 e.2*dlP (ptN n l.length e.2 (e.1+1)) z+(a*dlP (ptN n l.length e.2 e.1) z+b*dlP (ptN n l.length (e.2+1) e.1) z+d*dlP (ptN n l.length (e.2-1) e.1) z):=funext fun z=>by
  unfold rwP
  rw[q1]
 rw[ef,Zh6,r _ _ h2 h3,r _ _ h2 h3]
 unfold rwG
 rw[q1]
 congr 1
 have e1:b*QJ9 (n*l.length) W (fun z=>dlP (ptN n l.length (e.2+1) e.1) z) c=b*if W.getD (ptN n l.length (e.2+1) e.1) 0=c then 1 else 0:=by
  rcases q2 with q|q
  · rw[q];omega
  · rw[r _ _ (by omega) q]
 have e2:d*QJ9 (n*l.length) W (fun z=>dlP (ptN n l.length (e.2-1) e.1) z) c=d*if W.getD (ptN n l.length (e.2-1) e.1) 0=c then 1 else 0:=by
  rcases q3 with q|q
  · rw[q];omega
  · rw[r _ _ q (by omega)]
 rw[e1,e2]
end
theorem ZV1 {l:List Int} {n:Nat} (t:Int) {k x:Nat} (h:¬ Tch l x k) (c:Nat):rwP l n t (k,x) c=dlP (ptN n l.length x (k+1)) c-dlP (ptN n l.length x k) c:=by
 have h1:¬ x=(l.getD k 0).natAbs:=fun e=>h (Or.inl e)
 have h2:¬ x=(l.getD k 0).natAbs+1:=fun e=>h (Or.inr e)
 unfold rwP uR inB
 simp only[if_neg h1,if_neg h2]
 split<;>omega
theorem Zf9 {l:List Int} {n:Nat} (t:Int) {x:Nat} (h0:0<l.length) (h1:1<=x) (h2:x<=n) (hv:∀ k,k<l.length->¬ Tch l x k) {a:Nat×Nat} (hx:a.2≠x) (cs:List Nat):dZ (((ixP n l.length).erase a).map (rwP l n t)) cs=0:=by
 have nd:=Qw9 n l.length
 have hin:((0,x):Nat×Nat)∈(ixP n l.length).erase a:=(nd.mem_erase_iff).2 ⟨fun z=>hx (by rw[<-z]),ixP_mem.2 ⟨h0,h1,h2⟩⟩
 have p1:((ixP n l.length).erase a).Perm ((0,x)::((ixP n l.length).erase a).erase (0,x)):=List.perm_cons_erase hin
 have:=QD8 (p1.map (rwP l n t)) cs
 rw[List.map_cons,JK3 (rwP l n t) (fun e=>if e.2=x then 1 else 0) (0,x) _ cs (if_pos rfl) fun c=>?_]at this
 · omega
 · have e1 : (((ixP n l.length).erase a).map fun e => (if e.2 = x then (1 : Int) else 0) * rwP l n t e c).sum = ((ixP n l.length).map fun e => (if e.2 = x then (1 : Int) else 0) * rwP l n t e c).sum := by
     by_cases ha:a∈ixP n l.length
     · rw[XZ6 _ (List.perm_cons_erase ha),List.map_cons,List.sum_cons,if_neg hx];omega
     · rw[List.erase_of_not_mem ha]
   rw[XZ6 _ p1,List.map_cons,List.sum_cons]at e1
   rw[e1]
   unfold ixP
   rw[XA8]
   have e2:∀ k,k<l.length->(((List.range' 1 n).map fun x=>(k,x)).map fun e=>(if e.2=x then(1:Int) else 0)*rwP l n t e c).sum=(fun k=>dlP (ptN n l.length x k) c) (k+1)-(fun k=>dlP (ptN n l.length x k) c) k:=fun k hk=>by
    rw[List.map_map,QB8]
    show QX4 n (fun i=>(if i+1=x then(1:Int) else 0)*rwP l n t (k,i+1) c)=_
    have e3:=QY3 n x h1 h2 (fun y=>rwP l n t (k,y) c)
    rw[QQ2 (g:=fun i=>if i+1=x then rwP l n t (k,i+1) c else 0) (fun i _=>by split<;>omega),e3,ZV1 t (hv k hk)]
   rw[QQ2 e2,XX5 fun k=>dlP (ptN n l.length x k) c]
   have e4:ptN n l.length x l.length=ptN n l.length x 0:=by
    unfold ptN
    rw[Nat.mod_self,Nat.zero_mod]
   simp only[e4]
   omega
def xE (l:List Int) (k:Nat):Nat:=if 0<l.getD k 0 then(l.getD k 0).natAbs+1 else(l.getD k 0).natAbs
def xR (l:List Int) (k:Nat):Nat:=if 0<l.getD k 0 then(l.getD k 0).natAbs else(l.getD k 0).natAbs+1
def unB (l:List Int) (k x:Nat):Bool:=decide (x≠(l.getD k 0).natAbs)&&decide (x≠(l.getD k 0).natAbs+1)
theorem unB_iff {l:List Int} {k x:Nat}:unB l k x=true↔¬ Tch l x k:=by
 unfold unB Tch
 rw[Bool.and_eq_true,decide_eq_true_eq,decide_eq_true_eq]
 omega
theorem Qk1 (l:List Int) (k x:Nat):Tch l x k↔x=xE l k∨x=xR l k:=by
 unfold Tch xE xR
 by_cases q:0<l.getD k 0
 · rw[if_pos q,if_pos q];omega
 · rw[if_neg q,if_neg q]
theorem Ky8 (l:List Int) (k:Nat):xE l k≠xR l k:=by
 unfold xE xR
 by_cases q:0<l.getD k 0
 · rw[if_pos q,if_pos q];omega
 · rw[if_neg q,if_neg q];omega
def ixU (l:List Int) (n:Nat):List (Nat×Nat):=(List.range l.length).flatMap fun k=>((List.range' 1 n).filter (unB l k)).map fun x=>(k,x)
def ixO (l:List Int):List (Nat×Nat):=(List.range l.length).map fun k=>(k,xE l k)
def ixR (l:List Int):List (Nat×Nat):=(List.range (l.length-1)).map fun k=>(k,xR l k)
theorem ixU_mem {l:List Int} {n:Nat} {e:Nat×Nat}:e∈ixU l n↔e.1<l.length/\1<=e.2/\e.2<=n/\¬ Tch l e.2 e.1:=by
 unfold ixU
 rw[List.mem_flatMap]
 constructor
 · rintro⟨k,hk,h⟩
   obtain⟨x,hx,rfl⟩:=List.mem_map.1 h
   obtain⟨hx,hu⟩:=List.mem_filter.1 hx
   have:=List.mem_range'_1.1 hx
   exact⟨List.mem_range.1 hk,by simp only;omega,by simp only;omega,unB_iff.1 hu⟩
 · rintro⟨h1,h2,h3,h4⟩
   exact⟨e.1,List.mem_range.2 h1,List.mem_map.2 ⟨e.2,List.mem_filter.2 ⟨List.mem_range'_1.2 (by omega),unB_iff.2 h4⟩,rfl⟩⟩
theorem XV3 (m:Nat) (g:Nat->Nat):((List.range m).map fun k=>(k,g k)).Nodup:=by
 unfold List.Nodup
 rw[List.pairwise_map]
 exact List.Pairwise.imp (fun h e=>h (Prod.mk.inj e).1) (List.nodup_range (n:=m))
section
variable {n:Nat} {l:List Int} (hw:∀ j,j<l.length->1<=(l.getD j 0).natAbs/\(l.getD j 0).natAbs<n)
include hw
theorem Zx3 {k:Nat} (hk:k<l.length):(1<=xE l k/\xE l k<=n)/\1<=xR l k/\xR l k<=n:=by
 have:=hw k hk
 unfold xE xR
 split<;>omega
theorem Zy3 (h0:0<l.length):((ixP n l.length).erase (l.length-1,xR l (l.length-1))).Perm (ixU l n++(ixO l++ixR l)):=by
 have nd:=Qw9 n l.length
 have nU:(ixU l n).Nodup:=by
  unfold ixU List.Nodup
  rw[List.pairwise_flatMap]
  refine⟨fun k _=>?_,List.Pairwise.imp_of_mem ?_ (List.nodup_range (n:=l.length))⟩
  · rw[List.pairwise_map]
    exact List.Pairwise.imp (fun h e=>h (Prod.mk.inj e).2) ((List.nodup_range' (s:=1) (n:=n)).filter _)
  · intro a b _ _ hne x hx y hy e
    obtain⟨x1,-,rfl⟩:=List.mem_map.1 hx
    obtain⟨y1,-,rfl⟩:=List.mem_map.1 hy
    exact hne (Prod.mk.inj e).1
 have mE:∀ e,e∈ixO l↔e.1<l.length/\e.2=xE l e.1:=fun e=>by
  unfold ixO
  rw[List.mem_map]
  constructor
  · rintro⟨k,hk,rfl⟩;exact⟨List.mem_range.1 hk,rfl⟩
  · rintro⟨h1,h2⟩;exact⟨e.1,List.mem_range.2 h1,by rw[<-h2]⟩
 have mR:∀ e,e∈ixR l↔e.1<l.length-1/\e.2=xR l e.1:=fun e=>by
  unfold ixR
  rw[List.mem_map]
  constructor
  · rintro⟨k,hk,rfl⟩;exact⟨List.mem_range.1 hk,rfl⟩
  · rintro⟨h1,h2⟩;exact⟨e.1,List.mem_range.2 h1,by rw[<-h2]⟩
 have nE:(ixO l).Nodup:=XV3 _ _
 have nR:(ixR l).Nodup:=XV3 _ _
 rw [List.perm_ext_iff_of_nodup (nd.erase _) (List.nodup_append.2 ⟨nU, List.nodup_append.2 ⟨nE, nR, fun a ha b hb e => by
  have h1:=(mE a).1 ha
  have h2:=(mR b).1 hb
  subst e
  exact Ky8 l a.1 (by rw[<-h1.2,<-h2.2])⟩,fun a ha b hb e=>by
  have h1:=ixU_mem.1 ha
  subst e
  apply h1.2.2.2
  rw[Qk1]
  rcases List.mem_append.1 hb with hb|hb
  · exact Or.inl ((mE a).1 hb).2
  · exact Or.inr ((mR a).1 hb).2⟩)]
 intro e
 rw[nd.mem_erase_iff,List.mem_append,List.mem_append,ixU_mem,mE,mR,ixP_mem]
 constructor
 · rintro⟨h1,h2,h3,h4⟩
   by_cases ht:Tch l e.2 e.1
   · rcases(Qk1 l e.1 e.2).1 ht with q|q
     · exact Or.inr (Or.inl ⟨h2,q⟩)
     · refine Or.inr (Or.inr ⟨?_,q⟩)
       by_cases z:e.1=l.length-1
       · exact absurd (Prod.ext z (by rw[q,z])) h1
       · omega
   · exact Or.inl ⟨h2,h3,h4,ht⟩
 · rintro(⟨h1,h2,h3,h4⟩|⟨h1,h2⟩|⟨h1,h2⟩)
   · refine⟨fun z=>h4 ?_,h1,h2,h3⟩
     rw[z]
     exact(Qk1 l _ _).2 (Or.inr rfl)
   · have:=Zx3 hw h1
     refine⟨fun z=>Ky8 l e.1 ?_,h1,by omega,by omega⟩
     rw[<-h2,z]
   · have:=Zx3 hw (show e.1<l.length by omega)
     refine⟨fun z=>?_,by omega,by omega,by omega⟩
     rw[z]at h1
     exact Nat.lt_irrefl _ h1
theorem JX9:(ixU l n).length+2*l.length=n*l.length:=by
 have one:∀ k,k<l.length->((List.range' 1 n).filter (unB l k)).length+2=n:=fun k hk=>by
  have hx:=Zx3 hw hk
  have p:(List.range' 1 n).Perm (xE l k::xR l k::(List.range' 1 n).filter (unB l k)):=by
   rw[List.perm_ext_iff_of_nodup List.nodup_range' (List.nodup_cons.2 ⟨fun q=>?_,List.nodup_cons.2 ⟨fun q=>?_,(List.nodup_range' (s:=1) (n:=n)).filter _⟩⟩)]
   · intro x
     rw[List.mem_cons,List.mem_cons,List.mem_filter,unB_iff,Qk1,List.mem_range'_1]
     omega
   · rcases List.mem_cons.1 q with q|q
     · exact Ky8 l k q
     · exact unB_iff.1 (List.mem_filter.1 q).2 ((Qk1 l k _).2 (Or.inl rfl))
   · exact unB_iff.1 (List.mem_filter.1 q).2 ((Qk1 l k _).2 (Or.inr rfl))
  have:=p.length_eq
  rw[List.length_range']at this
  simp only[List.length_cons]at this
  omega
 have all:∀ j,j<=l.length->((List.range j).flatMap fun k=>((List.range' 1 n).filter (unB l k)).map fun x=>(k,x)).length+2*j=n*j:=fun j=>by
  induction j with
  |zero=>intro _;rfl
  |succ j ih=>
   intro hj
   have e:=ih (by omega)
   have o:=one j (by omega)
   rw[List.range_succ,List.flatMap_append,List.length_append,show n*(j+1)=n*j+n from Nat.mul_succ n j]
   simp only[List.flatMap_cons,List.flatMap_nil,List.append_nil,List.length_map]
   omega
 exact all l.length (Nat.le_refl _)
end
end Go.Proofs.YtjcagkgpbcdghaaDoor
/- Braids closed: Alexander's minor over arcs is that of the table over places and levels. -/
namespace Go.Proofs.YtjcagkgpbcdghaaDoor
theorem QA1 {n m x k:Nat} (h1:1<=x) (h2:x<=n):(ptN n m x k-1)%n=x-1/\(ptN n m x k-1) / n=k%m:=by
 have e:ptN n m x k-1=n*(k%m)+(x-1):=by
  unfold ptN
  rw[Nat.mul_comm n];omega
 rw[e,Nat.mul_add_mod,Nat.mul_add_div (by omega),Nat.mod_eq_of_lt (by omega),Nat.div_eq_of_lt (by omega)]
 exact⟨rfl,rfl⟩
theorem ZB1 {n m c:Nat} (hn:0<n) (h1:1<=c) (h2:c<=n*m):(c-1) / n<m/\1<=(c-1)%n+1/\(c-1)%n+1<=n/\ptN n m ((c-1)%n+1) ((c-1) / n)=c:=by
 have h3:(c-1) / n<m:=(Nat.div_lt_iff_lt_mul hn).2 (by rw[Nat.mul_comm];omega)
 have h4:=Nat.mod_lt (c-1) hn
 refine⟨h3,by omega,by omega,?_⟩
 unfold ptN
 rw[Nat.mod_eq_of_lt h3]
 have:=Nat.div_add_mod (c-1) n
 rw[Nat.mul_comm]at this
 omega
theorem KF6 (n m x:Nat):ptN n m x m=ptN n m x 0:=by
 unfold ptN
 rw[Nat.mod_self,Nat.zero_mod]
def acP (n:Nat) (A:Nat->Nat->Nat) (c:Nat):Nat:=A ((c-1)%n+1) ((c-1) / n)
theorem Kj0 {C : List Cr} {A : Nat → Nat → Nat} {l : List Int} {n : Nat} (h : Clo l n C A) (t : Int) {k : Nat} (hk : k < l.length) (a : Nat) :
    (rwG l t (k,xE l k) fun x j=>if A x j=a then 1 else 0)=eA C k a/\(rwG l t (k,xR l k) fun x j=>if A x j=a then 1 else 0)=rA C t k a+(if 0<l.getD k 0 then -(t-1) else 0)*eA C k a:=by
 have hx:=h.lets k hk
 have hc:=h.at_ k hk
 unfold eA rA sdR aAt
 rw[hc,show qE 0=0 from rfl,show qE 1=1 from rfl,show qE 2=0 from rfl,show qE 3 = -1 from rfl]
 by_cases q:0<l.getD k 0
 · rw[if_pos q,if_pos q]
   have r0:(rwG l t (k,xE l k) fun x j=>if A x j=a then 1 else 0)=1*(if A ((l.getD k 0).natAbs+1) (k+1)=a then 1 else 0) + -(if A (l.getD k 0).natAbs k=a then 1 else 0):=by
    unfold rwG uR inB xE
    simp only[if_pos q]
    rw[if_neg (show ¬ ((l.getD k 0).natAbs+1=(l.getD k 0).natAbs) by omega)]
    simp only[if_true,Nat.add_sub_cancel]
   have r1:(rwG l t (k,xR l k) fun x j=>if A x j=a then 1 else 0)=1*(if A (l.getD k 0).natAbs (k+1)=a then 1 else 0)+((t-1)*(if A (l.getD k 0).natAbs k=a then 1 else 0)-t*(if A ((l.getD k 0).natAbs+1) k=a then 1 else 0)):=by
    unfold rwG uR inB xR
    simp only[if_pos q,if_true]
   rw[r0,r1]
   show _=0*(if(A ((l.getD k 0).natAbs+1) k:Int).toNat=a then 1 else 0)+1*(if(A ((l.getD k 0).natAbs+1) (k+1):Int).toNat=a then 1 else 0)+0*(if(A (l.getD k 0).natAbs (k+1):Int).toNat=a then 1 else 0) + -1*(if(A (l.getD k 0).natAbs k:Int).toNat=a then 1 else 0)/\
    _ = -t*(if(A ((l.getD k 0).natAbs+1) k:Int).toNat=a then 1 else 0)+(t-1)*(if(A ((l.getD k 0).natAbs+1) (k+1):Int).toNat=a then 1 else 0)+1*(if(A (l.getD k 0).natAbs (k+1):Int).toNat=a then 1 else 0)+0*(if(A (l.getD k 0).natAbs k:Int).toNat=a then 1 else 0) + -(t-1)*(0*(if(A ((l.getD k 0).natAbs+1) k:Int).toNat=a then 1 else 0)+1*(if(A ((l.getD k 0).natAbs+1) (k+1):Int).toNat=a then 1 else 0)+0*(if(A (l.getD k 0).natAbs (k+1):Int).toNat=a then 1 else 0) + -1*(if(A (l.getD k 0).natAbs k:Int).toNat=a then 1 else 0))
   rw[Int.toNat_natCast,Int.toNat_natCast,Int.toNat_natCast,Int.toNat_natCast]
   generalize (if A ((l.getD k 0).natAbs+1) k=a then(1:Int) else 0)=x1
   generalize (if A ((l.getD k 0).natAbs+1) (k+1)=a then(1:Int) else 0)=x2
   generalize (if A (l.getD k 0).natAbs (k+1)=a then(1:Int) else 0)=x3
   generalize (if A (l.getD k 0).natAbs k=a then(1:Int) else 0)=x4
   exact⟨by omega,by grind⟩
 · rw[if_neg q,if_neg q]
   have r0:(rwG l t (k,xE l k) fun x j=>if A x j=a then 1 else 0) = -1*(if A (l.getD k 0).natAbs (k+1)=a then 1 else 0)+(if A ((l.getD k 0).natAbs+1) k=a then 1 else 0):=by
    unfold rwG uR inB xE
    simp only[if_neg q,if_true]
   have r1:(rwG l t (k,xR l k) fun x j=>if A x j=a then 1 else 0) = -t*(if A ((l.getD k 0).natAbs+1) (k+1)=a then 1 else 0)+((if A (l.getD k 0).natAbs k=a then 1 else 0)+(t-1)*(if A ((l.getD k 0).natAbs+1) k=a then 1 else 0)):=by
    unfold rwG uR inB xR
    simp only[if_neg q]
    rw[if_neg (show ¬ ((l.getD k 0).natAbs+1=(l.getD k 0).natAbs) by omega),if_neg (show ¬ ((l.getD k 0).natAbs+1=(l.getD k 0).natAbs) by omega),if_true,if_true,Nat.add_sub_cancel]
   rw[r0,r1]
   show _=0*(if(A (l.getD k 0).natAbs k:Int).toNat=a then 1 else 0)+1*(if(A ((l.getD k 0).natAbs+1) k:Int).toNat=a then 1 else 0)+0*(if(A ((l.getD k 0).natAbs+1) (k+1):Int).toNat=a then 1 else 0) + -1*(if(A (l.getD k 0).natAbs (k+1):Int).toNat=a then 1 else 0)/\
    _=1*(if(A (l.getD k 0).natAbs k:Int).toNat=a then 1 else 0)+(t-1)*(if(A ((l.getD k 0).natAbs+1) k:Int).toNat=a then 1 else 0) + -t*(if(A ((l.getD k 0).natAbs+1) (k+1):Int).toNat=a then 1 else 0)+0*(if(A (l.getD k 0).natAbs (k+1):Int).toNat=a then 1 else 0)+0*(0*(if(A (l.getD k 0).natAbs k:Int).toNat=a then 1 else 0)+1*(if(A ((l.getD k 0).natAbs+1) k:Int).toNat=a then 1 else 0)+0*(if(A ((l.getD k 0).natAbs+1) (k+1):Int).toNat=a then 1 else 0) + -1*(if(A (l.getD k 0).natAbs (k+1):Int).toNat=a then 1 else 0))
   rw[Int.toNat_natCast,Int.toNat_natCast,Int.toNat_natCast,Int.toNat_natCast]
   generalize (if A ((l.getD k 0).natAbs+1) k=a then(1:Int) else 0)=x1
   generalize (if A ((l.getD k 0).natAbs+1) (k+1)=a then(1:Int) else 0)=x2
   generalize (if A (l.getD k 0).natAbs (k+1)=a then(1:Int) else 0)=x3
   generalize (if A (l.getD k 0).natAbs k=a then(1:Int) else 0)=x4
   exact⟨by omega,by grind⟩
section
variable {C:List Cr} {A:Nat->Nat->Nat} {l:List Int} {n:Nat} (h:Clo l n C A)
include h
theorem Xb0 {x k:Nat} (h1:1<=x) (h2:x<=n) (hk:k<=l.length):acP n A (ptN n l.length x k)=A x k:=by
 obtain⟨e1,e2⟩:=QA1 (n:=n) (m:=l.length) (k:=k) h1 h2
 unfold acP
 rw[e1,e2,Nat.sub_add_cancel h1]
 by_cases q:k=l.length
 · rw[q,Nat.mod_self,h.ring x h1 h2]
 · rw[Nat.mod_eq_of_lt (by omega)]
theorem ZH8 {loops : Int} (hm : QX3 C loops = true) (h0 : 0 < l.length) (hu : ∀ x, 1 ≤ x → x ≤ n → ∃ k, k < l.length ∧ Tch l x k) (t : Int) :
    (dZ (((ixP n l.length).erase (l.length-1,xR l (l.length-1))).map (rwP l n t)) (QV4 (n*l.length) 1)).natAbs=(dZ (XW6 C t) (QV4 (2*C.length) 1)).natAbs:=by
 have hw:=h.lets
 have hl:=h.len
 have hn:=hw 0 h0
 have hM:1<=n*l.length:=Nat.mul_pos (by omega) h0
 have pr:∀ x k,1<=x->x<=n->1<=ptN n l.length x k/\ptN n l.length x k<=n*l.length:=fun x k a b=>XU5 h0 a b
 generalize hMe:n*l.length=M at*
 generalize hE:(ixU l n).map (fun e=>(ptN n l.length e.2 (e.1+1),ptN n l.length e.2 e.1))=E
 have inE:∀ e∈E,∃ k x,k<l.length/\1<=x/\x<=n/\¬ Tch l x k/\e=(ptN n l.length x (k+1),ptN n l.length x k):=fun e he=>by
  rw[<-hE]at he
  obtain⟨⟨k,x⟩,hkx,rfl⟩:=List.mem_map.1 he
  obtain⟨a,b,c,d⟩:=ixU_mem.1 hkx
  exact⟨k,x,a,b,c,d,rfl⟩
 have hEr:∀ e∈[]++E,1<=e.1/\e.1<=M/\1<=e.2/\e.2<=M:=fun e he=>by
  obtain⟨k,x,a,b,c,d,rfl⟩:=inE e (by simpa using he)
  have p1:=pr x (k+1) b c
  have p2:=pr x k b c
  exact⟨p1.1,p1.2,p2.1,p2.2⟩
 obtain⟨-,m2,-⟩:=Qw5 (M:=M) ((ixO l++ixR l).map (rwP l n t)) E [] (List.range (M+1)) (QC8 _) hEr
 have hL:Least E (M+1) (QF5 (List.range (M+1)) E):=by
  have:=Qb4 (M+1) E [] (List.range (M+1)) (fun e he=>by have:=hEr e he;omega) (QC8 _)
  simpa using this
 have hg:∀ c,c<M+1->(List.range (M+1)).getD c 0=c:=fun c hc=>by
  rw[List.getD_eq_getElem?_getD,List.getElem?_range hc];rfl
 have r0:rtL M (List.range (M+1))=List.range' 2 (M-1):=by
  unfold rtL
  rw[List.filter_eq_self]
  intro c hc
  rw[List.mem_range'_1]at hc
  rw[hg c (by omega)]
  exact decide_eq_true rfl
 have hstart:dZ ((E.map dfR++(ixO l++ixR l).map (rwP l n t)).map (QJ9 M (List.range (M+1)))) (List.range' 2 (M-1))=dZ ((ixU l n++(ixO l++ixR l)).map (rwP l n t)) (List.range' 2 (M-1)):=by
  have e1:dZ ((E.map dfR++(ixO l++ixR l).map (rwP l n t)).map (QJ9 M (List.range (M+1)))) (List.range' 2 (M-1))=dZ ((E.map dfR++(ixO l++ixR l).map (rwP l n t)).map id) (List.range' 2 (M-1)):=QW2 _ _ _ _ fun r _ c hc=>by
   rw[List.mem_range'_1]at hc
   show QX4 M (fun i=>if(List.range (M+1)).getD (i+1) 0=c then r (i+1) else 0)=r c
   rw[<-QY3 M c (by omega) (by omega) r]
   exact QQ2 fun i hi=>by rw[hg (i+1) (by omega)]
  rw[e1,List.map_id,List.map_append (l₁:=ixU l n)]
  congr 2
  rw[<-hE,List.map_map]
  refine List.map_congr_left fun e he=>?_
  obtain⟨-,-,-,d⟩:=ixU_mem.1 he
  funext c
  rw[show e=(e.1,e.2) from rfl,ZV1 t d]
  unfold dlP
  show(if c=ptN n l.length e.2 (e.1+1) then(1:Int) else 0)-(if c=ptN n l.length e.2 e.1 then 1 else 0)=_
  rw[Qk2,Qk2 c]
 -- classes are arcs
 have conA : ∀ u v, Con E u v → acP n A u = acP n A v := fun u v hc => hc (fun z => acP n A u = acP n A z) (fun e he => by
  obtain⟨k,x,a,b,c,d,rfl⟩:=inE e he
  show(acP n A u=acP n A (ptN n l.length x (k+1)))↔(acP n A u=acP n A (ptN n l.length x k))
  rw[Xb0 h b c (by omega),Xb0 h b c (by omega),h.still k a x b c (fun e=>d (Or.inl e)) (fun e=>d (Or.inr e))]) rfl
 have toIn:∀ c,1<=c->c<=M->∃ x j,1<=x/\x<=n/\j<l.length/\Tch l x j/\Con E c (ptN n l.length x j):=fun c h1 h2=>by
  obtain⟨g1,g2,g3,g4⟩:=ZB1 (n:=n) (m:=l.length) (by omega) h1 (by rw[hMe];exact h2)
  obtain⟨j,hj,hT,hF⟩:=reach (hu _ g2 g3) (k:=(c - 1) / n) (by omega)
  have := hF (fun k => Con E c (ptN n l.length ((c - 1) % n + 1) k)) ⟨fun i hi ht => by
   have he:(ptN n l.length ((c-1)%n+1) (i+1),ptN n l.length ((c-1)%n+1) i)∈E:=by
    rw[<-hE]
    exact List.mem_map.2 ⟨(i,(c-1)%n+1),ixU_mem.2 ⟨hi,g2,g3,ht⟩,rfl⟩
   exact propext ⟨fun q=>q.trans (Con.edge he),fun q=>q.trans (Con.edge he).symm⟩,by simp only;rw[KF6]⟩
  rw[g4]at this
  exact⟨_,j,g2,g3,hj,hT,this▸Con.refl E c⟩
 have inj:∀ u v,1<=u->u<=M->1<=v->v<=M->acP n A u=acP n A v->Con E u v:=fun u v a b c d e=>by
  obtain⟨x,j,p1,p2,p3,p4,p5⟩:=toIn u a b
  obtain⟨y,i,q1,q2,q3,q4,q5⟩:=toIn v c d
  rw[conA _ _ p5,conA _ _ q5,Xb0 h p1 p2 (by omega),Xb0 h q1 q2 (by omega)]at e
  obtain⟨s,hs,rfl⟩:∃ s,s<2/\x=(l.getD j 0).natAbs+s:=by
   rcases p4 with q|q
   · exact⟨0,by decide,q⟩
   · exact⟨1,by decide,q⟩
  obtain⟨r,hr,rfl⟩:∃ s,s<2/\y=(l.getD i 0).natAbs+s:=by
   rcases q4 with q|q
   · exact⟨0,by decide,q⟩
   · exact⟨1,by decide,q⟩
  obtain⟨rfl,rfl⟩:=h.inj j s i r p3 hs q3 hr e
  exact p5.trans q5.symm
 have acr:∀ c,1<=c->c<=M->1<=acP n A c/\acP n A c<=2*l.length:=fun c a b=>by
  obtain⟨x,j,p1,p2,p3,p4,p5⟩:=toIn c a b
  rw[conA _ _ p5,Xb0 h p1 p2 (by omega)]
  rcases p4 with rfl|rfl
  · exact h.rng j p3 0 (by decide)
  · exact h.rng j p3 1 (by decide)
 have onto:∀ a,1<=a->a<=2*l.length->∃ c,1<=c/\c<=M/\acP n A c=a:=fun a h1 h2=>by
  obtain⟨-,e2,e3,e4,e5⟩:=QJ3 hm a true h1 (by rw[hl];exact h2)
  obtain⟨f1,z,hz,f2,f3⟩:=Qj7 h (k:=enC C a true) (s:=enS C a true) (by omega) e3
  have hx:=hw (enC C a true) (by omega)
  have p:=pr ((l.getD (enC C a true) 0).natAbs+z) (sdP l (enC C a true) (enS C a true)).2 (by omega) (by omega)
  refine⟨_,p.1,p.2,?_⟩
  rw[Xb0 h (by omega) (by omega) (by omega),<-f2]
  omega
 generalize hW:QF5 (List.range (M+1)) E=W at*
 have pos:∀ c,1<=c->c<=M->1<=W.getD c 0/\W.getD c 0<=M:=fun c a b=>by
  have p:=hL.pos (fun e he=>by have:=hEr e (by simpa using he);exact⟨this.1,this.2.2.1⟩) (v:=c) (by omega) a
  have q:=hL.le (v:=c) (by omega)
  omega
 have perm:((rtL M W).map (acP n A)).Perm (QV4 (2*l.length) (acP n A 1)):=by
  rw [List.perm_ext_iff_of_nodup (by
   unfold List.Nodup
   rw[List.pairwise_map]
   refine List.Pairwise.imp_of_mem ?_ (Qw1 M W)
   intro a b ha hb hne e
   obtain⟨a1,a2,a3⟩:=rtL_mem.1 ha
   obtain⟨b1,b2,b3⟩:=rtL_mem.1 hb
   have:=(hL.same (u:=a) (v:=b) (by omega) (by omega)).2 (inj a b (by omega) a2 (by omega) b2 e)
   omega) (QU0 _ _)]
  intro a
  rw[List.mem_map,arcsL_mem]
  constructor
  · rintro⟨c,hc,rfl⟩
    obtain⟨c1,c2,c3⟩:=rtL_mem.1 hc
    have:=acr c (by omega) c2
    refine⟨this.1,this.2,fun e=>?_⟩
    have h2:=(hL.same (u:=c) (v:=1) (by omega) (by omega)).2 (inj c 1 (by omega) c2 (Nat.le_refl _) hM e)
    have h3:=hL.le (v:=1) (by omega)
    omega
  · rintro⟨a1,a2,a3⟩
    obtain⟨c,c1,c2,rfl⟩:=onto a a1 a2
    have p:=pos c c1 c2
    have hcon:=(hL.2 c (by omega)).1
    refine⟨W.getD c 0,rtL_mem.2 ⟨?_,p.2,hL.root (by omega)⟩,(conA _ _ hcon).symm⟩
    by_cases q:W.getD c 0=1
    · exact absurd (conA _ _ (q▸hcon)) a3
    · omega
 have ac1:=acr 1 (Nat.le_refl _) hM
 have lenA:(QV4 (2*l.length) (acP n A 1)).length+1=2*l.length:=by
  have:=(Xw7 ac1.1 ac1.2).length_eq
  rw[List.length_range',List.length_cons]at this
  omega
 have lenR:(rtL M W).length=(QV4 (2*l.length) (acP n A 1)).length:=by rw[<-perm.length_eq,List.length_map]
 have lenE:E.length+2*l.length=M:=by
  rw[<-hE,List.length_map,JX9 hw,hMe]
 rw[r0,List.length_range']at m2
 have m3:=m2 (by omega)
 rw[hstart]at m3
 rw[QD8 ((Zy3 hw h0).map _),Xw8 _ hM,m3]
 have hclass:dZ (((ixO l++ixR l).map (rwP l n t)).map (QJ9 M W)) (rtL M W)=dZ ((ixO l++ixR l).map fun e a=>rwG l t e fun x k=>if A x k=a then 1 else 0) ((rtL M W).map (acP n A)):=by
  rw[XY2,List.map_map,List.map_map]
  refine QW2 _ _ _ _ fun e he c hc=>?_
  obtain⟨c1,c2,c3⟩:=rtL_mem.1 hc
  have hin:e∈ixP n l.length:=by
   have hx:=(Zy3 hw h0).mem_iff.2 (List.mem_append_right _ he)
   exact List.mem_of_mem_erase hx
  obtain⟨i1,i2,i3⟩:=ixP_mem.1 hin
  show QJ9 M W (rwP l n t e) c=rwG l t e fun x k=>if A x k=acP n A c then 1 else 0
  rw[<-hMe,JF3 hw t W hin c]
  have one:∀ x k,1<=x->x<=n->k<=l.length->(if W.getD (ptN n l.length x k) 0=c then(1:Int) else 0)=if A x k=acP n A c then 1 else 0:=fun x k g1 g2 gk=>by
   have p:=pr x k g1 g2
   rw[<-Xb0 h g1 g2 gk]
   by_cases q:W.getD (ptN n l.length x k) 0=c
   · rw[if_pos q,if_pos]
     have:=(hL.2 (ptN n l.length x k) (by omega)).1
     rw[q]at this
     exact conA _ _ this
   · rw[if_neg q,if_neg]
     intro z
     have:=(hL.same (u:=ptN n l.length x k) (v:=c) (by omega) (by omega)).2 (inj _ c p.1 p.2 (by omega) c2 z)
     omega
  exact Zh4 t (hw e.1 i1) i2 i3 fun x g1 g2=>⟨one x e.1 g1 g2 (by omega),one x (e.1+1) g1 g2 (by omega)⟩
 rw[hclass,QW8 _ perm]
 have hrows:((ixO l++ixR l).map fun e a=>rwG l t e fun x k=>if A x k=a then 1 else 0)=(List.range C.length).map (eA C)++([]++(List.range (C.length-1)).map fun k a=>rA C t k a+(if 0<l.getD k 0 then -(t-1) else 0)*eA C k a):=by
  rw[List.map_append,List.nil_append,hl]
  unfold ixO ixR
  rw[List.map_map,List.map_map]
  congr 1
  · refine List.map_congr_left fun k hk=>?_
    funext a
    exact(Kj0 h t (List.mem_range.1 hk) a).1
  · refine List.map_congr_left fun k hk=>?_
    funext a
    have:=List.mem_range.1 hk
    exact(Kj0 h t (by omega) a).2
 rw[hrows,Zb6 (rA C t) (eA C) (fun k=>if 0<l.getD k 0 then -(t-1) else 0) _ _ (List.range (C.length-1)) [] fun k hk=>List.mem_map.2 ⟨k,List.mem_range.2 (by have:=List.mem_range.1 hk;omega),rfl⟩,List.nil_append]
 show(dZ (XW6 C t) _).natAbs=_
 rw[<-hl]
 exact Qd0 (Zh5 hm t) (by omega) (by omega) (Nat.le_refl _) (by omega)
end
end Go.Proofs.YtjcagkgpbcdghaaDoor
/- Braids closed: the strands' values from below to above; the table over places and levels comes to theirs. -/
namespace Go.Proofs.YtjcagkgpbcdghaaDoor
def zV (l:List Int) (t:Int) (a:Nat):Nat->Nat->Int
 |0,x=>if x=a then 1 else 0
 |k+1,x=>if 0<l.getD k 0 then(if x=(l.getD k 0).natAbs then t*zV l t a k (x+1)-(t-1)*zV l t a k x else if x=(l.getD k 0).natAbs+1 then zV l t a k (x-1) else zV l t a k x)
  else(if x=(l.getD k 0).natAbs then t*zV l t a k (x+1) else if x=(l.getD k 0).natAbs+1 then zV l t a k (x-1)+(t-1)*zV l t a k x else t*zV l t a k x)
def nN (l:List Int):Nat->Nat
 |0=>0
 |k+1=>nN l k+if 0<l.getD k 0 then 0 else 1
theorem JQ3 (l:List Int) {j k:Nat} (h:j<=k):nN l j<=nN l k:=by
 induction k with
 |zero=>rw[show j=0 by omega];exact Nat.le_refl _
 |succ k ih=>
  by_cases q:j=k+1
  · rw[q];exact Nat.le_refl _
  · have:=ih (by omega)
    show _<=nN l k+_
    omega
def yV (l:List Int) (t:Int) (a k x:Nat):Int:=t ^ (nN l l.length-nN l k)*zV l t a k x
theorem JB5 (l:List Int) (t:Int) (a:Nat) {k:Nat} (hk:k<l.length) (x:Nat):uR l t k x*yV l t a (k+1) x+inB l t k x (yV l t a k)=0:=by
 have h1:=JQ3 l (show k+1<=l.length from hk)
 have hz:zV l t a (k+1) x=if 0<l.getD k 0 then(if x=(l.getD k 0).natAbs then t*zV l t a k (x+1)-(t-1)*zV l t a k x else if x=(l.getD k 0).natAbs+1 then zV l t a k (x-1) else zV l t a k x)
  else(if x=(l.getD k 0).natAbs then t*zV l t a k (x+1) else if x=(l.getD k 0).natAbs+1 then zV l t a k (x-1)+(t-1)*zV l t a k x else t*zV l t a k x):=rfl
 have hn:nN l (k+1)=nN l k+if 0<l.getD k 0 then 0 else 1:=rfl
 unfold yV
 rw[hz]
 unfold uR inB
 by_cases q:0<l.getD k 0
 · rw[if_pos q,Nat.add_zero]at hn
   simp only[if_pos q]
   rw[hn]
   by_cases e1:x=(l.getD k 0).natAbs
   · simp only[if_pos e1];grind
   · simp only[if_neg e1]
     by_cases e2:x=(l.getD k 0).natAbs+1
     · simp only[if_pos e2];grind
     · simp only[if_neg e2];grind
 · rw[if_neg q]at hn
   simp only[if_neg q]
   obtain⟨e,he⟩:∃ e,nN l l.length - nN l (k+1)=e:=⟨_,rfl⟩
   rw[he,show nN l l.length-nN l k=e+1 by omega,Int.pow_succ]
   by_cases e1:x=(l.getD k 0).natAbs
   · simp only[if_pos e1];grind
   · simp only[if_neg e1]
     by_cases e2:x=(l.getD k 0).natAbs+1
     · simp only[if_pos e2];grind
     · simp only[if_neg e2];grind
theorem Kg2 {n : Nat} {l : List Int} (hw : ∀ j, j < l.length → 1 ≤ (l.getD j 0).natAbs ∧ (l.getD j 0).natAbs < n) (t : Int) {e : Nat × Nat} (he : e ∈ ixP n l.length) (Y : Nat → Nat → Int) :
    QX4 (n*l.length) (fun i=>Y (i / n) (i%n+1)*rwP l n t e (i+1))=rwG l t e fun x k=>Y (k%l.length) x:=by
 obtain⟨h1,h2,h3⟩:=ixP_mem.1 he
 obtain⟨a,b,d,q1,q2,q3⟩:=Qy3 t (hw e.1 h1) h2 h3
 have one:∀ x,1<=x->x<=n->∀ k,∀ u:Int,QX4 (n*l.length) (fun i=>Y (i / n) (i%n+1)*(u*dlP (ptN n l.length x k) (i+1)))=u*Y (k%l.length) x:=fun x g1 g2 k u=>by
  have r:=XU5 (l:=l) (k:=k) (by omega) g1 g2
  obtain⟨p1,p2⟩:=QA1 (n:=n) (m:=l.length) (k:=k) g1 g2
  have e1:=QY3 (n*l.length) (ptN n l.length x k) r.1 r.2 (fun c=>u*Y ((c-1) / n) ((c-1)%n+1))
  rw[p1,p2,Nat.sub_add_cancel g1]at e1
  rw[<-e1]
  refine QQ2 fun i _=>?_
  unfold dlP
  by_cases q:i+1=ptN n l.length x k
  · rw[if_pos q,if_pos q.symm,Nat.add_sub_cancel,Int.mul_one,Int.mul_comm]
  · rw[if_neg q,if_neg (fun z=>q z.symm)];omega
 have ef:∀ i,Y (i / n) (i%n+1)*rwP l n t e (i+1)=Y (i / n) (i%n+1)*(uR l t e.1 e.2*dlP (ptN n l.length e.2 (e.1+1)) (i+1))+(Y (i / n) (i%n+1)*(a*dlP (ptN n l.length e.2 e.1) (i+1))+Y (i / n) (i%n+1)*(b*dlP (ptN n l.length (e.2+1) e.1) (i+1))+Y (i / n) (i%n+1)*(d*dlP (ptN n l.length (e.2-1) e.1) (i+1))):=fun i=>by
  unfold rwP
  rw[q1,Int.mul_add,Int.mul_add,Int.mul_add]
 rw[QQ2 fun i _=>ef i,QX1,QX1,QX1,one _ h2 h3,one _ h2 h3]
 unfold rwG
 rw[q1]
 have z0:∀ g:Nat->Int,QX4 (n*l.length) (fun i=>g i*0)=0:=fun g=>by
  rw[QQ2 (g:=fun _=>0) fun i _=>Int.mul_zero _,QJ4]
 have e1:QX4 (n*l.length) (fun i=>Y (i / n) (i%n+1)*(b*dlP (ptN n l.length (e.2+1) e.1) (i+1)))=b*Y (e.1%l.length) (e.2+1):=by
  rcases q2 with q|q
  · rw[q];simp only[Int.zero_mul];exact z0 _
  · exact one _ (by omega) q _ _
 have e2:QX4 (n*l.length) (fun i=>Y (i / n) (i%n+1)*(d*dlP (ptN n l.length (e.2-1) e.1) (i+1)))=d*Y (e.1%l.length) (e.2-1):=by
  rcases q3 with q|q
  · rw[q];simp only[Int.zero_mul];exact z0 _
  · exact one _ q (by omega) _ _
 rw[e1,e2]
def dT (l:List Int) (t:Int) (x a:Nat):Int:=zV l t a l.length x-if x=a then t ^ nN l l.length else 0
section
variable {n:Nat} {l:List Int}
theorem row_in (t:Int) {e:Nat×Nat} (he:e∈ixP n l.length) (a:Nat):(rwG l t e fun x k=>yV l t a (k%l.length) x)=if e.1+1<l.length then 0 else -uR l t e.1 e.2*dT l t e.2 a:=by
 obtain⟨h1,h2,h3⟩:=ixP_mem.1 he
 show uR l t e.1 e.2*yV l t a ((e.1+1)%l.length) e.2+inB l t e.1 e.2 (fun y=>yV l t a (e.1%l.length) y)=_
 rw[Nat.mod_eq_of_lt h1]
 have hr:=JB5 l t a h1 e.2
 by_cases q:e.1+1<l.length
 · rw[if_pos q,Nat.mod_eq_of_lt q]
   exact hr
 · rw[if_neg q,show e.1+1=l.length by omega,Nat.mod_self]
   rw[show e.1+1=l.length by omega]at hr
   have e1:yV l t a 0 e.2=if e.2=a then t ^ nN l l.length else 0:=by
    show t ^ (nN l l.length-0)*(if e.2=a then(1:Int) else 0)=_
    rw[Nat.sub_zero]
    split<;>omega
   have e2:yV l t a l.length e.2=zV l t a l.length e.2:=by
    unfold yV
    rw[Nat.sub_self,Int.pow_zero,Int.one_mul]
   rw[e2]at hr
   rw[e1]
   unfold dT
   change uR l t e.1 e.2*zV l t a l.length e.2+inB l t e.1 e.2 (fun y=>yV l t a e.1 y)=0 at hr
   generalize uR l t e.1 e.2=u at*
   generalize zV l t a l.length e.2=z at*
   generalize (if e.2=a then t ^ nN l l.length else 0)=i
   generalize inB l t e.1 e.2 (fun y=>yV l t a e.1 y)=g at*
   grind
end
theorem Xk2 (f:Nat->Int) (a:Nat):∀ b,QX4 (a+b) f=QX4 a f+((List.range' (a+1) b).map fun c=>f (c-1)).sum
 |0=>by simp
 |b+1=>by
  show QX4 (a+b) f+f (a+b)=_
  rw[Xk2 f a b,List.range'_concat,List.map_append,List.sum_append]
  simp
  omega
def fE (l:List Int) (n:Nat) (t:Int) (j:Nat) (e:Nat×Nat) (c:Nat):Int:=
 if 1<=c/\c<=j then t ^ nN l l.length*rwP l n t e c+((List.range' (n+1) (n*l.length-n)).map fun z=>yV l t c ((z-1) / n) ((z-1)%n+1)*rwP l n t e z).sum else rwP l n t e c
section
variable {n:Nat} {l:List Int} (hw:∀ j,j<l.length->1<=(l.getD j 0).natAbs/\(l.getD j 0).natAbs<n)
include hw
theorem JY7 (t:Int) {e:Nat×Nat} (he:e∈ixP n l.length) {j c:Nat} (h1:1<=c) (h2:c<=j) (hj:j<=n):fE l n t j e c=if e.1+1<l.length then 0 else -uR l t e.1 e.2*dT l t e.2 c:=by
 have hm:=ixP_mem.1 he
 have hM:n*l.length=n+(n*l.length-n):=by
  have:n*1<=n*l.length:=Nat.mul_le_mul_left n (show 1<=l.length by omega)
  omega
 unfold fE
 have hs:=Xk2 (fun i=>yV l t c (i / n) (i%n+1)*rwP l n t e (i+1)) n (n*l.length-n)
 rw[<-hM]at hs
 rw[if_pos ⟨h1,h2⟩,<-row_in t he c,<-Kg2 hw t he (yV l t c),hs]
 congr 1
 · have e0 : ∀ i, i < n → yV l t c (i / n) (i % n + 1) * rwP l n t e (i + 1) = if i + 1 = c then t ^ nN l l.length * rwP l n t e (i + 1) else 0 := fun i hi => by
     rw[Nat.div_eq_of_lt hi,Nat.mod_eq_of_lt hi]
     show t ^ (nN l l.length-0)*(if i+1=c then(1:Int) else 0)*_=_
     rw[Nat.sub_zero]
     split
     · rw[Int.mul_one]
     · rw[Int.mul_zero,Int.zero_mul]
   rw[QQ2 e0,QY3 n c h1 (by omega) (fun c=>t ^ nN l l.length*rwP l n t e c)]
 · refine congrArg List.sum (List.map_congr_left fun z hz=>?_)
   have:=List.mem_range'_1.1 hz
   rw[show z-1+1=z by omega]
omit hw in
theorem Zb0 (t:Int) (I:List (Nat×Nat)) (hI:I≠[]):∀ j,j+1<=n->(dZ (I.map (fE l n t j)) (List.range' 1 (n-1)++List.range' (n+1) (n*l.length-n))).natAbs=(t.natAbs ^ nN l l.length) ^ j*(dZ (I.map (rwP l n t)) (List.range' 1 (n-1)++List.range' (n+1) (n*l.length-n))).natAbs
 |0,_=>by
  rw[Nat.pow_zero,Nat.one_mul]
  congr 1
  refine QW2 _ _ _ _ fun e _ c _=>?_
  unfold fE
  rw[if_neg (by omega)]
 |j+1,hj=>by
  rw[Nat.pow_succ,Nat.mul_right_comm,<-Zb0 t I hI j (by omega)]
  generalize hcs:List.range' 1 (n-1)++List.range' (n+1) (n*l.length-n)=cs
  have hin:j+1∈cs:=by
   rw[<-hcs]
   exact List.mem_append_left _ (List.mem_range'_1.2 (by omega))
  have nd:cs.Nodup:=by
   rw[<-hcs]
   refine List.nodup_append.2 ⟨List.nodup_range',List.nodup_range',fun a ha b hb e=>?_⟩
   have:=List.mem_range'_1.1 ha
   have:=List.mem_range'_1.1 hb
   omega
  have p:cs.Perm ((j+1)::cs.erase (j+1)):=List.perm_cons_erase hin
  have pos:∀ c∈cs.erase (j+1),c≠0:=fun c hc=>by
   have:=List.mem_of_mem_erase hc
   rw[<-hcs]at this
   rcases List.mem_append.1 this with q|q<;>(have:=List.mem_range'_1.1 q;omega)
  have ne:∀ c∈cs.erase (j+1),c≠j+1:=fun c hc=>((nd.mem_erase_iff).1 hc).1
  rw[QW8 _ p,QW8 (I.map (fE l n t j)) p]
  have e1:dZ (I.map (fE l n t (j+1))) ((j+1)::cs.erase (j+1))=cz I (fE l n t j) (fun e=>t ^ nN l l.length*fE l n t j e (j+1)+((List.range' (n+1) (n*l.length-n)).map fun z=>yV l t (j+1) ((z-1) / n) ((z-1)%n+1)*fE l n t j e z).sum) (cs.erase (j+1)):=by
   rw[<-KY2 I (fE l n t (j+1)) (j+1) pos]
   refine QW2 _ _ I _ fun e _ c hc=>?_
   show(if c=0 then fE l n t (j+1) e (j+1) else fE l n t (j+1) e c)=(if c=0 then _ else fE l n t j e c)
   cases hc with
   |head=>
    rw[if_pos rfl,if_pos rfl]
    show fE l n t (j+1) e (j+1)=t ^ nN l l.length*fE l n t j e (j+1)+((List.range' (n+1) (n*l.length-n)).map fun z=>yV l t (j+1) ((z-1) / n) ((z-1)%n+1)*fE l n t j e z).sum
    have f1:fE l n t j e (j+1)=rwP l n t e (j+1):=by unfold fE;rw[if_neg (by omega)]
    rw[f1]
    unfold fE
    rw[if_pos ⟨by omega,Nat.le_refl _⟩]
    congr 1
    refine congrArg List.sum (List.map_congr_left fun z hz=>?_)
    have:=List.mem_range'_1.1 hz
    rw[if_neg (by omega)]
   |tail _ hc=>
    have h0:=pos c hc
    have h1:=ne c hc
    rw[if_neg h0,if_neg h0]
    unfold fE
    by_cases q:1<=c/\c<=j
    · rw[if_pos q,if_pos ⟨q.1,by omega⟩]
    · rw[if_neg q,if_neg (by omega)]
  rw[e1,Ku8 I (fE l n t j) (j+1) (t ^ nN l l.length) (fun z=>yV l t (j+1) ((z-1) / n) ((z-1)%n+1)) hI pos (List.range' (n+1) (n*l.length-n)) fun c hc=>?_]
  · rw[Int.natAbs_mul,Int.natAbs_pow,Nat.mul_comm]
  · refine(nd.mem_erase_iff).2 ⟨?_,by rw[<-hcs];exact List.mem_append_right _ hc⟩
    have:=List.mem_range'_1.1 hc
    omega
end
end Go.Proofs.YtjcagkgpbcdghaaDoor
/- Alexander's polynomial of a sum is the product. -/
namespace Go.Proofs.YtjcagkgpbcdghaaDoor
open Poly
structure UnL (l:List (Int×Int)):Prop where
 up:l.Pairwise fun a b=>a.1<b.1
 nz:∀ u∈l,u.2≠0
 first:l=[]∨∃ c m,l=(0,c)::m/\0<c
theorem Qq7 {x:Int}:∀ {l:List (Int×Int)},(∀ u∈l,u.1≠x)->coefL l x=0
 |[],_=>rfl
 |u::l,h=>by
  show(if u.1=x then u.2 else 0)+coefL l x=0
  rw[if_neg (h u (.head _)),Qq7 fun v hv=>h v (.tail _ hv)];rfl
theorem XJ3:∀ {l:List (Int×Int)},l.Pairwise (fun a b=>a.1<b.1)->(∀ u∈l,u.2≠0)->Canon l (coefL l)
 |[],_,_=>⟨List.Pairwise.nil,fun x c=>⟨(fun h=>by cases h),fun h=>absurd h.1.symm h.2⟩⟩
 |u::l,hp,hn=>by
  obtain⟨h1,h2⟩:=List.pairwise_cons.1 hp
  obtain⟨i1,i2⟩:=XJ3 h2 fun v hv=>hn v (.tail _ hv)
  refine⟨hp,fun x c=>?_⟩
  show(x,c)∈u::l↔(if u.1=x then u.2 else 0)+coefL l x=c/\c≠0
  by_cases e:u.1=x
  · rw[if_pos e,Qq7 (x:=x) (fun v hv=>by have:=h1 v hv;omega),Int.add_zero]
    constructor
    · intro q
      rcases List.mem_cons.1 q with g|g
      · have:=hn u (.head _)
        rw[<-g]at this ⊢
        exact⟨rfl,this⟩
      · have:=h1 _ g
        simp only at this
        omega
    · rintro⟨q,-⟩
      rw[<-q,<-e]
      exact .head _
  · rw[if_neg e,Int.zero_add,<-i2]
    constructor
    · intro q
      rcases List.mem_cons.1 q with g|g
      · exact absurd (by rw[<-g]) e
      · exact g
    · exact fun q=>.tail _ q
theorem UnL.nn {l:List (Int×Int)} (h:UnL l):NnL l:=fun u hu=>by
 rcases h.first with e|⟨c,m,e,-⟩
 · rw[e]at hu;cases hu
 · have hp:=h.up
   rw[e]at hu hp
   rcases List.mem_cons.1 hu with g|g
   · rw[g];exact Int.le_refl _
   · have:=(List.pairwise_cons.1 hp).1 u g
     simp only at this
     omega
theorem Qh1 {l:List (Int×Int)} (h:NnL l) {y:Int} (hy:y<0):coefL l y=0:=Qq7 fun u hu=>by have:=h u hu;omega
theorem UnL.zero {l:List (Int×Int)} (h:UnL l) (hl:l≠[]):0<coefL l 0:=by
 rcases h.first with e|⟨c,m,e,hc⟩
 · exact absurd e hl
 · have hp:=h.up
   rw[e]at hp ⊢
   show 0<(if(0:Int)=0 then c else 0)+coefL m 0
   rw[if_pos rfl,Qq7 fun u hu=>by have:=(List.pairwise_cons.1 hp).1 u hu;simp only at this;omega]
   omega
theorem ZK8 {r u:List (Int×Int)} (hr:UnL r) (hu:UnL u) {a b:Nat} (h:∀ t:Nat,1<=t->t ^ a*(vlT t r).natAbs=t ^ b*(vlT t u).natAbs):r=u:=by
 obtain⟨K1,k1⟩:=KU9 hr.nn
 obtain⟨K2,k2⟩:=KU9 hu.nn
 have sh:∀ (l:List (Int×Int)) (c K:Nat),NnL l->(∀ v∈l,0<=v.1/\v.1<=K)->∀ M,K+c<=M->∀ t:Nat,QX4 (M+1) (fun i=>(t:Int) ^ i*coefL l ((i:Int)-c))=(t:Int) ^ c*vlT t l:=fun l c K hn hk M hM t=>by
  have e1:=XG0 (t:Int) (c:Int) 1 (by omega) hn
  have e2 := XF9 (t : Int) M (l.map fun v => (v.1 + (c : Int), 1 * v.2)) (fun v hv => by
   obtain⟨w,hw,rfl⟩:=List.mem_map.1 hv
   have:=hk w hw
   show 0<=w.1+(c:Int)/\w.1+(c:Int)<=M
   omega)
  rw[e1,Int.toNat_natCast,Int.mul_one]at e2
  rw[e2]
  exact QQ2 fun i _=>by rw[XJ0,Int.one_mul]
 have hs := Zh2 (K := K1 + K2 + a + b + 1) (f := fun i => coefL r ((i : Int) - a)) (g := fun i => coefL u ((i : Int) - b)) (fun t ht => by
  rw[sh r a K1 hr.nn k1 (K1+K2+a+b) (by omega) t,sh u b K2 hu.nn k2 (K1+K2+a+b) (by omega) t,Int.natAbs_mul,Int.natAbs_mul,Int.natAbs_pow,Int.natAbs_pow,Int.natAbs_natCast]
  exact h t ht)
 obtain⟨s,hs1,hs2⟩:∃ s:Int,(s=1∨s = -1)/\∀ y:Int,coefL r (y - a)=s*coefL u (y - b):=by
  have ext:∀ s:Int,(∀ i:Nat,i<K1+K2+a+b+1->coefL r ((i:Int)-a)=s*coefL u ((i:Int)-b))->∀ y:Int,coefL r (y-a)=s*coefL u (y-b):=fun s h y=>by
   by_cases h1:y<0
   · rw[Qh1 hr.nn (by omega),Qh1 hu.nn (by omega),Int.mul_zero]
   · by_cases h2:y<((K1+K2+a+b+1:Nat):Int)
     · obtain⟨i,rfl⟩:∃ i:Nat,y=(i:Int):=⟨y.toNat,by omega⟩
       exact h i (by omega)
     · rw[Qq7 fun v hv=>by have:=k1 v hv;omega,Qq7 fun v hv=>by have:=k2 v hv;omega,Int.mul_zero]
  rcases hs with q|q
  · exact⟨1,Or.inl rfl,ext 1 fun i hi=>by rw[Int.one_mul];exact q i hi⟩
  · exact⟨-1,Or.inr rfl,ext (-1) fun i hi=>by have:coefL r ((i:Int)-a) = -coefL u ((i:Int)-b):=q i hi;omega⟩
 by_cases r0:r=[]
 · by_cases u0:u=[]
   · rw[r0,u0]
   · have:=hs2 b
     have hz:=hu.zero u0
     rw[r0,show(b:Int)-b=0 by omega]at this
     have e:coefL [] ((b:Int)-a)=0:=rfl
     rw[e]at this
     rcases hs1 with q|q<;>rw[q]at this<;>omega
 · by_cases u0:u=[]
   · have:=hs2 a
     have hz:=hr.zero r0
     rw[u0,show(a:Int)-a=0 by omega]at this
     have e:coefL [] ((a:Int)-b)=0:=rfl
     rw[e,Int.mul_zero]at this
     omega
   · have zr:=hr.zero r0
     have zu:=hu.zero u0
     have e1:=hs2 a
     have e2:=hs2 b
     rw[show(a:Int)-a=0 by omega]at e1
     rw[show(b:Int)-b=0 by omega]at e2
     have hab:a=b:=by
      rcases Nat.lt_trichotomy a b with q|q|q
      · rw[Qh1 hu.nn (show(a:Int)-b<0 by omega),Int.mul_zero]at e1;omega
      · exact q
      · rw[Qh1 hr.nn (show(b:Int)-a<0 by omega)]at e2
        rcases hs1 with g|g<;>rw[g]at e2<;>omega
     subst hab
     rw[show(a:Int)-a=0 by omega]at e1
     have hs3:s=1:=by
      rcases hs1 with g|g
      · exact g
      · rw[g]at e1;omega
     subst hs3
     have hf:coefL r=coefL u:=funext fun z=>by
      have:=hs2 (z+a)
      rw[show z+a-a=z by omega,Int.one_mul]at this
      exact this
     have c1:=XJ3 hr.up hr.nz
     have c2:=XJ3 hu.up hu.nz
     rw[hf]at c1
     exact canon_unique c1 c2
theorem KY8 {l:List (Int×Int)} {f:Int->Int} (h:Canon l f) (hn:NnL l):UnL (unitL l)/\∃ i:Nat,∀ t:Nat,(vlT t l).natAbs=t ^ i*(vlT t (unitL l)).natAbs:=by
 have nz:∀ u∈l,u.2≠0:=fun u hu=>((h.2 u.1 u.2).1 hu).2
 cases l with
 |nil=>exact⟨⟨List.Pairwise.nil,(fun u hu=>by cases hu),Or.inl rfl⟩,0,fun t=>by show(0:Int).natAbs=t ^ 0*(0:Int).natAbs;simp⟩
 |cons v m=>
  have e0:∃ s:Int,(s=1∨s = -1)/\0<s*v.2/\unitL (v::m)=(v::m).map fun u=>(u.1-v.1,s*u.2):=by
   have hv:=nz v (.head _)
   by_cases q:v.2<0
   · refine⟨-1,Or.inr rfl,by omega,?_⟩
     unfold unitL
     refine List.map_congr_left fun u _=>?_
     show(u.1-v.1,if v.2<0 then -u.2 else u.2)=_
     rw[if_pos q]
     congr 1
     omega
   · refine⟨1,Or.inl rfl,by omega,?_⟩
     unfold unitL
     refine List.map_congr_left fun u _=>?_
     show(u.1-v.1,if v.2<0 then -u.2 else u.2)=_
     rw[if_neg q]
     congr 1
     omega
  obtain⟨s,hs,hs0,es⟩:=e0
  have hv0:=hn v (.head _)
  have low:∀ u∈v::m,v.1<=u.1:=fun u hu=>by
   rcases List.mem_cons.1 hu with g|g
   · rw[g];exact Int.le_refl _
   · have:=(List.pairwise_cons.1 h.1).1 u g;omega
  refine⟨⟨?_,?_,Or.inr ⟨s*v.2,m.map fun u=>(u.1-v.1,s*u.2),?_,hs0⟩⟩,v.1.toNat,fun t=>?_⟩
  · rw[es,List.pairwise_map]
    exact h.1.imp fun q=>by show _-v.1<_-v.1;omega
  · rw[es]
    intro u hu
    obtain⟨w,hw,rfl⟩:=List.mem_map.1 hu
    have:=nz w hw
    show s*w.2≠0
    rcases hs with q|q<;>rw[q]<;>omega
  · rw[es,List.map_cons,Int.sub_self]
  · have back : v :: m = (unitL (v :: m)).map fun u => (u.1 + v.1, s * u.2) := by
      rw[es,List.map_map]
      refine Eq.symm ((List.map_congr_left (g:=id) fun u _=>?_).trans (List.map_id _))
      show(u.1-v.1+v.1,s*(s*u.2))=u
      rcases hs with q|q<;>rw[q]<;>(refine Prod.ext ?_ ?_<;>(simp only;omega))
    have e := XG0 (t : Int) v.1 s hv0 (L := unitL (v :: m)) (fun u hu => by
     rw[es]at hu
     obtain⟨w,hw,rfl⟩:=List.mem_map.1 hu
     have:=low w hw
     show 0<=w.1-v.1
     omega)
    rw[<-back]at e
    rw[e,Int.natAbs_mul,Int.natAbs_mul,Int.natAbs_pow,Int.natAbs_natCast]
    rcases hs with q|q<;>rw[q]<;>simp
section
variable {C:List Cr} {loops:Int} (hm:QX3 C loops=true)
include hm
theorem JW0 (hp:QZ1 C=true) (h0:0<C.length) {t:Int} (ht:t≠0) (cs:List Nat):dZ ((List.range C.length).map (alV C t)) cs=0:=by
 obtain⟨L,hL⟩:=Kx4 hm hp
 obtain⟨n,hn⟩:∃ n,C.length=n+1:=⟨C.length - 1,by omega⟩
 have rel:∀ j,QX4 C.length (fun k=>lmK C L t k*alV C t k j)=0:=fun j=>by
  have e:∀ k,k<C.length->lmK C L t k*alV C t k j=ioC (fun a=>t ^ L a*(if j=ovM C a then 1 else 0)) (C.getD k Cr.none) false-ioC (fun a=>t ^ L a*(if j=ovM C a then 1 else 0)) (C.getD k Cr.none) true:=fun k hk=>by
   have e1:alV C t k j=(qR t (C.getD k Cr.none) 0+qE 0)*(if j=ovM C (aAt C k 0) then 1 else 0)+(qR t (C.getD k Cr.none) 1+qE 1)*(if j=ovM C (aAt C k 1) then 1 else 0)+(qR t (C.getD k Cr.none) 2+qE 2)*(if j=ovM C (aAt C k 2) then 1 else 0)+(qR t (C.getD k Cr.none) 3+qE 3)*(if j=ovM C (aAt C k 3) then 1 else 0):=by
    have eb:ovM C (aAt C k 1)=ovM C (aAt C k 3):=Jx1 hm hk
    rw[Zk6,eb,show qE 0=0 from rfl,show qE 1=1 from rfl,show qE 2=0 from rfl,show qE 3 = -1 from rfl,show qR t (C.getD k Cr.none) 3=0 from rfl]
    grind
   have sd:=fun s hs=>JQ9 (t:=t) (hL k hk) s hs
   have one:∀ s,s<4->lmK C L t k*((qR t (C.getD k Cr.none) s+qE s)*(if j=ovM C (aAt C k s) then 1 else 0))=(if(C.getD k Cr.none).comes s=false then t ^ L (aAt C k s)*(if j=ovM C (aAt C k s) then 1 else 0) else 0)-(if(C.getD k Cr.none).comes s=true then t ^ L (aAt C k s)*(if j=ovM C (aAt C k s) then 1 else 0) else 0):=fun s hs=>by
    rw[<-Int.mul_assoc,sd s hs]
    cases hc:(C.getD k Cr.none).comes s
    · rw[if_neg (show ¬ (false=true) by decide),if_pos (show false=false from rfl),if_neg (show ¬ (false=true) by decide)]
      generalize t ^ L (aAt C k s)=z
      by_cases h:j=ovM C (aAt C k s)
      · rw[if_pos h];omega
      · rw[if_neg h];omega
    · rw[if_pos (show true=true from rfl),if_neg (show ¬ (true=false) by decide),if_pos (show true=true from rfl)]
      generalize t ^ L (aAt C k s)=z
      by_cases h:j=ovM C (aAt C k s)
      · rw[if_pos h];omega
      · rw[if_neg h];omega
   rw[e1,Int.mul_add,Int.mul_add,Int.mul_add,one 0 (by omega),one 1 (by omega),one 2 (by omega),one 3 (by omega)]
   show _=(if(C.getD k Cr.none).comes 0=false then t ^ L (aAt C k 0)*(if j=ovM C (aAt C k 0) then 1 else 0) else 0)+(if(C.getD k Cr.none).comes 1=false then t ^ L (aAt C k 1)*(if j=ovM C (aAt C k 1) then 1 else 0) else 0)+(if(C.getD k Cr.none).comes 2=false then t ^ L (aAt C k 2)*(if j=ovM C (aAt C k 2) then 1 else 0) else 0)+(if(C.getD k Cr.none).comes 3=false then t ^ L (aAt C k 3)*(if j=ovM C (aAt C k 3) then 1 else 0) else 0)-((if(C.getD k Cr.none).comes 0=true then t ^ L (aAt C k 0)*(if j=ovM C (aAt C k 0) then 1 else 0) else 0)+(if(C.getD k Cr.none).comes 1=true then t ^ L (aAt C k 1)*(if j=ovM C (aAt C k 1) then 1 else 0) else 0)+(if(C.getD k Cr.none).comes 2=true then t ^ L (aAt C k 2)*(if j=ovM C (aAt C k 2) then 1 else 0) else 0)+(if(C.getD k Cr.none).comes 3=true then t ^ L (aAt C k 3)*(if j=ovM C (aAt C k 3) then 1 else 0) else 0))
   omega
  rw[QQ2 e,<-QB1,JZ1 hm]
  omega
 have hl:lmK C L t n≠0:=fun q=>by
  have:=JG6 C L t n
  rw[q]at this
  have h2:0<t.natAbs ^ leK C L n:=Nat.pow_pos (by omega)
  simp at this
  omega
 rw[hn,List.range_succ,List.map_append,List.map_cons,List.map_nil,Qh0,List.append_nil]
 have e1:=Qd4 [] ((List.range n).map (alV C t)) (fun _=>0) (alV C t n) (lmK C L t n) cs
 simp only[List.nil_append]at e1
 rw[show dZ ((fun _=>(0:Int))::(List.range n).map (alV C t)) cs=0 from QK3 _ _ _ fun _ _=>rfl,Int.zero_add]at e1
 have e2:=Qv4 (alV C t) (lmK C L t) cs (List.range n) (List.range n) [] (fun c=>0+lmK C L t n*alV C t n c) rfl
 have e3:dZ ((fun c=>0+lmK C L t n*alV C t n c+((List.range n).map fun i=>lmK C L t i*alV C t i c).sum)::(List.range n).map (alV C t)) cs=0:=QK3 _ _ _ fun c _=>by
  have:=rel c
  rw[hn]at this
  have h3:QX4 n (fun k=>lmK C L t k*alV C t k c)+lmK C L t n*alV C t n c=0:=this
  rw[ZG0]
  omega
 rw[e3]at e2
 rw[<-e2]at e1
 rcases Int.mul_eq_zero.1 e1.symm with q|q
 · exact absurd q hl
 · rw[q,Int.mul_zero]
theorem Kx5 (hp:QZ1 C=true) (h0:0<C.length) (hl0:loops=0) {l:List (Int×Int)} (hA:IsAlex C loops l):UnL l/\∃ i:Nat,∀ t:Nat,1<=t->(dZ (XW6 C t) (QV4 (2*C.length) 1)).natAbs=t ^ i*(vlT t l).natAbs:=by
 subst hl0
 have hge:=ZZ7 C
 have void:UnL []:=⟨List.Pairwise.nil,(fun u hu=>by cases hu),Or.inl rfl⟩
 unfold IsAlex at hA
 rw[if_neg (by omega)]at hA
 by_cases hs:C.length<ovC C-1
 · rw[if_pos (Or.inr (Or.inr hs))]at hA
   subst hA
   refine⟨void,0,fun t _=>?_⟩
   rw[Xg8 hm h0,if_neg (by omega)]
   show 0=t ^ 0*(0:Int).natAbs
   simp
 · rw[if_neg (by omega)]at hA
   obtain⟨l0,c0,rfl⟩:=hA
   have hn:NnL l0:=fun u hu=>by
    obtain⟨e,hc⟩:=(c0.2 u.1 u.2).1 hu
    exact(Xg0 _ _ (XX1 C (ovC C-1)) u.1 (by rw[e];exact hc)).1
   obtain⟨u1,i,u2⟩:=KY8 c0 hn
   by_cases hmn:ovC C=C.length
   · refine⟨u1,i,fun t _=>?_⟩
     rw[Xg8 hm h0,if_pos hmn,<-u2 t,Zf4 c0 hn t,hmn]
   · have hz : ∀ t : Nat, 1 ≤ t → vlT t l0 = 0 := fun t ht => by
       rw[Zf4 c0 hn t,show ovC C-1=C.length by omega]
       exact JW0 hm hp h0 (by omega) _
     have hnil:unitL l0=[]:=ZK8 (a:=0) (b:=0) u1 void fun t ht=>by
      have hh:=u2 t
      rw[hz t ht]at hh
      have h2:0<t ^ i:=Nat.pow_pos (by omega)
      have h3:(vlT t (unitL l0)).natAbs=0:=by
       rcases Nat.eq_zero_or_pos (vlT t (unitL l0)).natAbs with q|q
       · exact q
       · have h4:=Nat.mul_pos h2 q
         rw[<-hh]at h4
         exact absurd h4 (by decide)
      rw[h3]
      rfl
     rw[hnil]
     refine⟨void,0,fun t _=>?_⟩
     rw[Xg8 hm h0,if_neg hmn]
     show 0=t ^ 0*(0:Int).natAbs
     simp
end
end Go.Proofs.YtjcagkgpbcdghaaDoor
/- Braids closed: Alexander's minor is, but for powers of t, that of the strands' values. -/
namespace Go.Proofs.YtjcagkgpbcdghaaDoor
theorem XA6 (n j:Nat):ixP n (j+1)=ixP n j++(List.range' 1 n).map fun x=>(j,x):=by
 unfold ixP
 rw[List.range_succ,List.flatMap_append]
 simp
theorem Xf1 (n:Nat):∀ m,(ixP n m).length=n*m
 |0=>rfl
 |m+1=>by rw[XA6,List.length_append,Xf1 n m,List.length_map,List.length_range',Nat.mul_succ]
def uE (l:List Int) (k x:Nat):Nat:=if 0<l.getD k 0 then 0 else if x=(l.getD k 0).natAbs then 0 else if x=(l.getD k 0).natAbs+1 then 1 else 0
theorem Kk1 (l:List Int) (t k x:Nat):(uR l t k x).natAbs=t ^ uE l k x:=by
 unfold uR uE
 split
 · rfl
 · split
   · rfl
   · split
     · rw[Int.natAbs_neg,Int.natAbs_natCast,Nat.pow_one]
     · rfl
section
variable {n:Nat} {l:List Int} (hw:∀ j,j<l.length->1<=(l.getD j 0).natAbs/\(l.getD j 0).natAbs<n)
include hw
theorem ZW6:∀ j,j+1<=l.length->∃ E:Nat,∀ t:Nat,(dZ ((ixP n j).map (rwP l n (t:Nat))) (List.range' (n+1) (n*j))).natAbs=t ^ E
 |0,_=>⟨0,fun t=>rfl⟩
 |j+1,hj=>by
  obtain⟨E,hE⟩:=ZW6 j (by omega)
  refine⟨E+((List.range' 1 n).map (uE l j)).sum,fun t=>?_⟩
  have far:∀ x y k i,1<=x->x<=n->1<=y->y<=n->i<l.length->k%l.length≠i->dlP (ptN n l.length x k) (i*n+y)=0:=fun x y k i a b c d hi e=>by
   unfold dlP
   refine if_neg fun z=>e ?_
   obtain⟨-,p2⟩:=QA1 (n:=n) (m:=l.length) (k:=k) a b
   obtain⟨-,q2⟩:=QA1 (n:=n) (m:=l.length) (k:=i) c d
   rw[z]at p2
   have e2:ptN n l.length y i=i*n+y:=by unfold ptN;rw[Nat.mod_eq_of_lt hi]
   rw[e2,Nat.mod_eq_of_lt hi]at q2
   omega
  have hc:List.range' (n+1) (n*(j+1))=List.range' (n+1) (n*j)++(List.range' 1 n).map fun x=>(j+1)*n+x:=by
   rw[show n*(j+1)=n*j+n from Nat.mul_succ n j,<-List.range'_append_1]
   congr 1
   rw[List.map_add_range']
   congr 1
   rw[Nat.succ_mul,Nat.mul_comm]
   omega
  rw [XA6, List.map_append, hc, Qv5 _ _ _ _ (by rw [List.length_map, Xf1, List.length_range']) (fun r hr c hcc => by
   obtain⟨e,he,rfl⟩:=List.mem_map.1 hr
   obtain⟨e1,e2,e3⟩:=ixP_mem.1 he
   obtain⟨y,hy,rfl⟩:=List.mem_map.1 hcc
   have hy:=List.mem_range'_1.1 hy
   have z:∀ x k,1<=x->x<=n->k<=j->dlP (ptN n l.length x k) ((j+1)*n+y)=0:=fun x k a b hk=>far x y k (j+1) a b (by omega) (by omega) (by omega) (by rw[Nat.mod_eq_of_lt (by omega)];omega)
   obtain⟨a,b,d,q1,q2,q3⟩:=Qy3 (n:=n) (t:Int) (hw e.1 (by omega)) e2 e3
   unfold rwP
   rw[q1,z _ _ e2 e3 (by omega),z _ _ e2 e3 (by omega)]
   have z1:b*dlP (ptN n l.length (e.2+1) e.1) ((j+1)*n+y)=0:=by
    rcases q2 with q|q
    · rw[q];omega
    · rw[z _ _ (by omega) q (by omega)];omega
   have z2:d*dlP (ptN n l.length (e.2-1) e.1) ((j+1)*n+y)=0:=by
    rcases q3 with q|q
    · rw[q];omega
    · rw[z _ _ q (by omega) (by omega)];omega
   rw[z1,z2];omega),Int.natAbs_mul,hE,List.map_map]
  have at_:∀ x y,1<=x->x<=n->1<=y->y<=n->rwP l n (t:Nat) (j,x) ((j+1)*n+y)=if x=y then uR l (t:Nat) j x else 0:=fun x y a1 a2 b1 b2=>by
   obtain⟨a,b,d,q1,q2,q3⟩:=Qy3 (n:=n) (t:Int) (hw j (by omega)) a1 a2
   have z:∀ x,1<=x->x<=n->dlP (ptN n l.length x j) ((j+1)*n+y)=0:=fun x a b=>far x y j (j+1) a b b1 b2 (by omega) (by rw[Nat.mod_eq_of_lt (by omega)];omega)
   have z1:b*dlP (ptN n l.length (x+1) j) ((j+1)*n+y)=0:=by
    rcases q2 with q|q
    · rw[q];omega
    · rw[z _ (by omega) q];omega
   have z2:d*dlP (ptN n l.length (x-1) j) ((j+1)*n+y)=0:=by
    rcases q3 with q|q
    · rw[q];omega
    · rw[z _ q (by omega)];omega
   have e2:ptN n l.length x (j+1)=(j+1)*n+x:=by unfold ptN;rw[Nat.mod_eq_of_lt (by omega)]
   show uR l (t:Nat) j x*dlP (ptN n l.length x (j+1)) ((j+1)*n+y)+inB l (t:Nat) j x (fun z=>dlP (ptN n l.length z j) ((j+1)*n+y))=_
   rw[q1,z _ a1 a2,z1,z2,e2]
   unfold dlP
   by_cases q:x=y
   · rw[if_pos q,if_pos (by rw[q])];omega
   · rw[if_neg q,if_neg (by omega)];omega
  have hd := Zb7 (fun x => rwP l n (t : Nat) (j, x)) (fun x => (j + 1) * n + x) (fun x => uR l (t : Nat) j x) (List.range' 1 n) (fun x hx => by
   have:=List.mem_range'_1.1 hx
   rw [at_ x x (by omega) (by omega) (by omega) (by omega), if_pos rfl]) (List.Pairwise.imp_of_mem (fun {x y} hx hy hne => by
   have:=List.mem_range'_1.1 hx
   have:=List.mem_range'_1.1 hy
   rw[at_ x y (by omega) (by omega) (by omega) (by omega),if_neg hne]) (List.nodup_range' (s:=1) (n:=n)))
  rw[show((rwP l n (t:Nat)) ∘ fun x=>(j,x))=fun x=>rwP l n (t:Nat) (j,x) from rfl,hd,Qv1 t _ (uE l j) _ fun x _=>Kk1 l t j x,Nat.pow_add]
theorem Qw8 (h0:0<l.length) (hn:2<=n):Pq (fun t=>(dZ (((ixP n l.length).erase (l.length-1,n)).map (rwP l n (t:Nat))) (QV4 (n*l.length) n)).natAbs) (fun t=>(dZ ((List.range' 1 (n-1)).map (dT l (t:Nat))) (List.range' 1 (n-1))).natAbs):=by
 obtain⟨m,hm⟩:∃ m,l.length=m+1:=⟨l.length - 1,by omega⟩
 obtain⟨E,hE⟩:=ZW6 hw (n:=n) (l:=l) m (by omega)
 have hM:n*l.length=n+n*m:=by rw[hm,Nat.mul_succ,Nat.add_comm]
 refine Pq.pow (nN l l.length*(n-1)) (E+((List.range' 1 (n-1)).map (uE l m)).sum) fun t ht=>?_
 have pr:((ixP n l.length).erase (l.length-1,n)).Perm (ixP n m++(List.range' 1 (n-1)).map fun x=>(m,x)):=by
  rw[hm,XA6,show m+1-1=m from rfl]
  have e:List.range' 1 n=List.range' 1 (n-1)++[n]:=by
   obtain⟨p,rfl⟩:∃ p,n=p+1:=⟨n - 1,by omega⟩
   rw[List.range'_concat,Nat.add_sub_cancel]
   congr 2
   omega
  rw[e,List.map_append,<-List.append_assoc]
  have p1:(ixP n m++(List.range' 1 (n-1)).map (fun x=>(m,x))++[n].map fun x=>(m,x)).Perm ((m,n)::(ixP n m++(List.range' 1 (n-1)).map fun x=>(m,x))):=List.perm_append_comm
  have:=p1.erase (m,n)
  rwa [List.erase_cons_head]at this
 have pc:(QV4 (n*l.length) n).Perm (List.range' 1 (n-1)++List.range' (n+1) (n*l.length-n)):=by
  rw [List.perm_ext_iff_of_nodup (QU0 _ _) (List.nodup_append.2 ⟨List.nodup_range', List.nodup_range', fun a ha b hb e => by
   have:=List.mem_range'_1.1 ha
   have:=List.mem_range'_1.1 hb
   omega⟩)]
  intro c
  rw[arcsL_mem,List.mem_append,List.mem_range'_1,List.mem_range'_1]
  omega
 have hI:(ixP n m++(List.range' 1 (n-1)).map fun x=>(m,x))≠[]:=fun q=>by
  have:=congrArg List.length q
  rw[List.length_append,List.length_map,List.length_range']at this
  simp at this
  omega
 rw[QD8 (pr.map _),QW8 _ pc]
 have st:=Zb0 (n:=n) (l:=l) (t:Nat) _ hI (n-1) (by omega)
 rw[Int.natAbs_natCast,<-Nat.pow_mul]at st
 rw[<-st,QW8 _ List.perm_append_comm,hM,Nat.add_sub_cancel_left,List.map_append,List.map_map]
 rw [Qv5 _ _ _ _ (by rw [List.length_map, Xf1, List.length_range']) (fun r hr c hc => by
  obtain⟨e,he,rfl⟩:=List.mem_map.1 hr
  obtain⟨e1,e2,e3⟩:=ixP_mem.1 he
  have hc:=List.mem_range'_1.1 hc
  rw[JY7 hw (t:Nat) (ixP_mem.2 ⟨by omega,e2,e3⟩) (by omega) (by omega) (by omega),if_pos (by omega)]),Int.natAbs_mul]
 have f1:dZ ((ixP n m).map (fE l n (t:Nat) (n-1))) (List.range' (n+1) (n*m))=dZ ((ixP n m).map (rwP l n (t:Nat))) (List.range' (n+1) (n*m)):=QW2 _ _ _ _ fun e _ c hc=>by
  have hc:=List.mem_range'_1.1 hc
  unfold fE
  rw[if_neg (by omega)]
 have f2:dZ ((List.range' 1 (n-1)).map ((fE l n (t:Nat) (n-1)) ∘ fun x=>(m,x))) (List.range' 1 (n-1))=dZ ((List.range' 1 (n-1)).map fun x c => -uR l (t:Nat) m x*dT l (t:Nat) x c) (List.range' 1 (n-1)):=QW2 _ _ _ _ fun x hx c hc=>by
  have hx:=List.mem_range'_1.1 hx
  have hc:=List.mem_range'_1.1 hc
  show fE l n (t:Nat) (n-1) (m,x) c=_
  rw[JY7 hw (t:Nat) (ixP_mem.2 ⟨by simp only;omega,by simp only;omega,by simp only;omega⟩) (by omega) (by omega) (by omega),if_neg (by simp only;omega)]
 rw[f1,f2,hE,Qg9 (dT l (t:Nat)) (fun x => -uR l (t:Nat) m x),Qv1 t _ (uE l m) _ fun x _=>by rw[Int.natAbs_neg];exact Kk1 l t m x,Nat.pow_add,Nat.mul_assoc]
end
theorem JK5 {n:Nat} {l:List Int} (hw:∀ j,j<l.length->1<=(l.getD j 0).natAbs/\(l.getD j 0).natAbs<n) (h0:0<l.length) (hn:2<=n) {x:Nat} (h1:1<=x) (h2:x<=n) (hv:∀ k,k<l.length->¬ Tch l x k) {t:Nat} (ht:1<=t):dZ ((List.range' 1 (n-1)).map (dT l (t:Nat))) (List.range' 1 (n-1))=0:=by
 have hx:=Zx3 hw (show l.length-1<l.length by omega)
 obtain⟨e,f,hp⟩:=(XX9 hw (a:=(l.length - 1,n)) (b:=(l.length - 1,xR l (l.length - 1))) (ixP_mem.2 ⟨by simp only;omega,by simp only;omega,Nat.le_refl _⟩) (ixP_mem.2 ⟨by simp only;omega,hx.2.1,hx.2.2⟩) (QV4 (n*l.length) n)).symm.trans (Qw8 hw h0 hn)
 have this:t ^ e*(dZ (((ixP n l.length).erase (l.length-1,xR l (l.length-1))).map (rwP l n (t:Nat))) (QV4 (n*l.length) n)).natAbs=t ^ f*(dZ ((List.range' 1 (n-1)).map (dT l (t:Nat))) (List.range' 1 (n-1))).natAbs:=hp t ht
 rw[Zf9 (n:=n) (t:Nat) h0 h1 h2 hv (a:=(l.length-1,xR l (l.length-1))) (fun z=>hv (l.length-1) (by omega) ((Qk1 l _ _).2 (Or.inr z.symm)))]at this
 have hz:t ^ f*(dZ ((List.range' 1 (n-1)).map (dT l (t:Nat))) (List.range' 1 (n-1))).natAbs=0:=by rw[<-this];rfl
 have hp2:0<t ^ f:=Nat.pow_pos (by omega)
 rcases Nat.mul_eq_zero.1 hz with q|q
 · omega
 · exact Int.natAbs_eq_zero.1 q
theorem Zx0 {C:List Cr} {A:Nat->Nat->Nat} {n:Nat} {l:List Int} (h:Clo l n C A) {loops:Int} (hm:QX3 C loops=true) (h0:0<l.length) (hn:2<=n) (hu:∀ x,1<=x->x<=n->∃ k,k<l.length/\Tch l x k):Pq (fun t=>(dZ (XW6 C (t:Nat)) (QV4 (2*C.length) 1)).natAbs) (fun t=>(dZ ((List.range' 1 (n-1)).map (dT l (t:Nat))) (List.range' 1 (n-1))).natAbs):=by
 have hw:=h.lets
 have hx:=Zx3 hw (show l.length-1<l.length by omega)
 have hM:n<=n*l.length:=Nat.le_mul_of_pos_right n h0
 refine(Pq.rfl' fun t _=>?_).trans ((XX9 hw (a:=(l.length-1,xR l (l.length-1))) (b:=(l.length-1,n)) (ixP_mem.2 ⟨by simp only;omega,hx.2.1,hx.2.2⟩) (ixP_mem.2 ⟨by simp only;omega,by simp only;omega,Nat.le_refl _⟩) (QV4 (n*l.length) n)).trans (Qw8 hw h0 hn))
 rw[<-ZH8 h hm h0 hu (t:Nat)]
 refine Qd0 (fun r hr=>?_) (Nat.le_refl _) (by omega) (by omega) hM
 obtain⟨e,he,rfl⟩:=List.mem_map.1 hr
 exact Zw2 hw (t:Nat) (List.mem_of_mem_erase he)
end Go.Proofs.YtjcagkgpbcdghaaDoor
