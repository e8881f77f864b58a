/- Braids closed: the arc at each place and level. -/
import Derived.Test.YtjcagkgpbcdghaaDoorCB0P
import Derived.Test.YtjcagkgpbcdghaaDoorBT0P
namespace Go.Proofs.YtjcagkgpbcdghaaDoor
def aNo (l:List Int) (L:List (List Nat)) (p k:Nat):Nat:=
 (cF l (L.take (rgJ L p))).2.1+((wk l ((L.getD (rgJ L p) []).take (rgI L p))).length+(cl l p k).length)%(wk l (L.getD (rgJ L p) [])).length+1
def bgP (n:Nat) (l:List Int) (x k:Nat):Nat:=((Qj2 n l k).getD (x-1) 0).toNat
def aL (n:Nat) (l:List Int) (x k:Nat):Nat:=aNo l (rgs (fun p=>pl l p l.length) n).2 (bgP n l x k) k
section
variable {n:Nat} {l:List Int} (hw:∀ j,j<l.length->1<=(l.getD j 0).natAbs/\(l.getD j 0).natAbs<n)
include hw
theorem Xz3 {x k:Nat} (hk:k<=l.length) (h1:1<=x) (h2:x<=n):1<=bgP n l x k/\bgP n l x k<=n/\pl l (bgP n l x k) k=x:=by
 have hok:=(Qy8 n l (fun j hj=>(hw j hj).2) k hk).rng (x-1) (by omega)
 have h3:=Ky2 n l hw k hk (x-1) (bgP n l x k) (by omega) (by unfold bgP;omega)
 unfold bgP at h3 ⊢
 omega
theorem ZB5 {p k:Nat} (hk:k<=l.length) (h1:1<=p) (h2:p<=n):bgP n l (pl l p k) k=p:=by
 unfold bgP
 rw[Kj8 n l hw p h1 h2 k hk]
 omega
theorem Kj7 {p q k:Nat} (hk:k<=l.length) (hp1:1<=p) (hp2:p<=n) (hq1:1<=q) (hq2:q<=n) (e:pl l p k=pl l q k):p=q:=by
 rw[<-ZB5 hw hk hp1 hp2,e,ZB5 hw hk hq1 hq2]
theorem QH4 (h2:2<=n) (h5:n<=5):RgOk (fun p=>pl l p l.length) n (rgs (fun p=>pl l p l.length) n).2:=
 Jq6 h2 h5 (fun _ a b=>XU6 hw a b l.length (Nat.le_refl _)) (fun _ _ a b c d e=>Kj7 hw (Nat.le_refl _) a b c d e)
end
theorem Zj2 (l:List Int):∀ L:List (List Nat),wall l L=wk l L.flatten
 |[]=>rfl
 |r::L=>by
  have:=Zj2 l L
  unfold wall wk at this ⊢
  rw[List.flatMap_cons,List.flatten_cons,List.flatMap_append,this]
structure Clo (l:List Int) (n:Nat) (C:List Cr) (A:Nat->Nat->Nat):Prop where
 len:C.length=l.length
 lets:∀ j,j<l.length->1<=(l.getD j 0).natAbs/\(l.getD j 0).natAbs<n
 at_:∀ k,k<l.length->C.getD k Cr.none=if 0<l.getD k 0 then⟨A ((l.getD k 0).natAbs+1) k,A ((l.getD k 0).natAbs+1) (k+1),A (l.getD k 0).natAbs (k+1),A (l.getD k 0).natAbs k,true⟩ else⟨A (l.getD k 0).natAbs k,A ((l.getD k 0).natAbs+1) k,A ((l.getD k 0).natAbs+1) (k+1),A (l.getD k 0).natAbs (k+1),false⟩
 still:∀ k,k<l.length->∀ x,1<=x->x<=n->x≠(l.getD k 0).natAbs->x≠(l.getD k 0).natAbs+1->A x (k+1)=A x k
 ring:∀ x,1<=x->x<=n->A x l.length=A x 0
 rng:∀ k,k<l.length->∀ s,s<2->1<=A ((l.getD k 0).natAbs+s) k/\A ((l.getD k 0).natAbs+s) k<=2*l.length
 rngO:∀ k,k<l.length->∀ s,s<2->1<=A ((l.getD k 0).natAbs+s) (k+1)/\A ((l.getD k 0).natAbs+s) (k+1)<=2*l.length
 inj:∀ k s j t,k<l.length->s<2->j<l.length->t<2->A ((l.getD k 0).natAbs+s) k=A ((l.getD j 0).natAbs+t) j->k=j/\s=t
 injO:∀ k s j t,k<l.length->s<2->j<l.length->t<2->A ((l.getD k 0).natAbs+s) (k+1)=A ((l.getD j 0).natAbs+t) (j+1)->k=j/\s=t
section
variable {n:Nat} {l:List Int} (hw:∀ j,j<l.length->1<=(l.getD j 0).natAbs/\(l.getD j 0).natAbs<n) (h2:2<=n) (h5:n<=5)
include hw h2 h5
theorem Qy9:(wall l (rgs (fun p=>pl l p l.length) n).2).Pairwise fun a b=>a≠b:=by
 obtain⟨-,-,r3,r4⟩:=QH4 hw h2 h5
 rw[Zj2]
 unfold wk
 rw[List.pairwise_flatMap]
 refine⟨fun p _=>JB0 l p _,List.Pairwise.imp_of_mem ?_ r3⟩
 intro p q hp hq hne a ha b hb e
 subst e
 have h1:=KY3 l p _ a ha
 have h2:=KY3 l q _ a hb
 have rp:=r4 p hp
 have rq:=r4 q hq
 exact hne (Kj7 hw (k:=a.1) (by omega) rp.1 rp.2 rq.1 rq.2 (by rw[h1.2.2,h2.2.2]))
theorem ZB9:(wall l (rgs (fun p=>pl l p l.length) n).2).length<=2*l.length:=by
 have hn:=Qy9 hw h2 h5
 have := Poly.few_natsB (2 * l.length) ((wall l (rgs (fun p => pl l p l.length) n).2).map fun q => 2 * q.1 + q.2) (by
  rw[List.pairwise_map]
  refine List.Pairwise.imp_of_mem ?_ hn
  intro a b ha hb hne e
  obtain⟨r,-,ha⟩:=List.mem_flatMap.1 ha
  obtain⟨r',-,hb⟩:=List.mem_flatMap.1 hb
  have h1:=Xx5 l r a ha
  have h2:=Xx5 l r' b hb
  exact hne (Prod.ext (by omega) (by omega))) (fun x hx=>by
  obtain⟨q,hq,rfl⟩:=List.mem_map.1 hx
  obtain⟨r,-,hq⟩:=List.mem_flatMap.1 hq
  have h1:=Xx5 l r q hq
  omega)
 simpa using this
theorem Qf6 {p k s : Nat} (hp1 : 1 ≤ p) (hp2 : p ≤ n) (hk : k < l.length) (hs : s < 2) (e : pl l p k = (l.getD k 0).natAbs + s) :
    let L:=(rgs (fun p=>pl l p l.length) n).2
    let q:=(wk l ((L.getD (rgJ L p) []).take (rgI L p))).length+(cl l p k).length
    q<(wk l (L.getD (rgJ L p) [])).length/\(wk l (L.getD (rgJ L p) [])).getD q (0,0)=(k,s):=by
 intro L q
 obtain⟨r1,-,-,-⟩:=QH4 hw h2 h5
 obtain⟨a1,a2,a3,-⟩:=r1 (p - 1) (by omega)
 rw[show p-1+1=p by omega]at a1 a2 a3
 change rgI L p<(L.getD (rgJ L p) []).length at a2
 change (L.getD (rgJ L p) []).getD (rgI L p) 0=p at a3
 generalize hr:L.getD (rgJ L p) []=r at*
 have er:r=r.take (rgI L p)++(p::r.drop (rgI L p+1)):=by
  conv=>lhs;rw[<-List.take_append_drop (rgI L p) r,List.drop_eq_getElem_cons a2]
  rw[XW9 _ _ a2]at a3
  rw[a3]
 obtain⟨t,ht⟩:=Zk2 l p (k+1) l.length hk
 rw[Qy7 l p k hs e]at ht
 have ew:wk l r=wk l (r.take (rgI L p))++(cl l p k++((k,s)::(t++wk l (r.drop (rgI L p+1))))):=by
  conv=>lhs;rw[er]
  unfold wk
  rw[List.flatMap_append,List.flatMap_cons,ht]
  simp
 have hq:q=(wk l (r.take (rgI L p))).length+(cl l p k).length:=by show _+_=_;rw[hr]
 rw[hq,ew]
 refine⟨by simp,?_⟩
 rw[List.getD_eq_getElem?_getD,List.getElem?_append_right (by omega),Nat.add_sub_cancel_left,List.getElem?_append_right (Nat.le_refl _),Nat.sub_self]
 rfl
theorem KB3 {p k s : Nat} (hp1 : 1 ≤ p) (hp2 : p ≤ n) (hk : k < l.length) (hs : s < 2) (e : pl l p k = (l.getD k 0).natAbs + s) :
    (cF l (rgs (fun p=>pl l p l.length) n).2).1 (4*k+s)=(aNo l (rgs (fun p=>pl l p l.length) n).2 p k:Int)/\(cF l (rgs (fun p=>pl l p l.length) n).2).1 (4*k+2+s)=(aNo l (rgs (fun p=>pl l p l.length) n).2 p (k+1):Int):=by
 have hn:=Qy9 hw h2 h5
 obtain⟨b1,b2⟩:=Qf6 hw h2 h5 hp1 hp2 hk hs e
 obtain⟨r1,-,-,-⟩:=QH4 hw h2 h5
 obtain⟨a1,-⟩:=r1 (p - 1) (by omega)
 rw[show p-1+1=p by omega]at a1
 unfold aNo
 generalize (rgs (fun p=>pl l p l.length) n).2=L at*
 have key:=JB2 l L hn (fun r _ q hq=>(Xx5 l r q hq).2) L.length (Nat.le_refl _) (rgJ L p) a1 _ b1
 rw[b2,List.take_length]at key
 rw[key.1,key.2,Qy7 l p k hs e,List.length_append,List.length_singleton,Nat.mod_eq_of_lt b1,Nat.add_assoc (wk l _).length]
 exact⟨rfl,rfl⟩
theorem Kz0 {p:Nat} (hp1:1<=p) (hp2:p<=n):aNo l (rgs (fun p=>pl l p l.length) n).2 p l.length=aNo l (rgs (fun p=>pl l p l.length) n).2 (pl l p l.length) 0:=by
 obtain⟨r1,-,-,-⟩:=QH4 hw h2 h5
 obtain⟨a1,a2,a3,a4,a5⟩:=r1 (p - 1) (by omega)
 rw[show p-1+1=p by omega]at a1 a2 a3 a4 a5
 simp only at a4 a5
 unfold aNo
 generalize (rgs (fun p=>pl l p l.length) n).2=L at*
 rw[a4,a5]
 generalize L.getD (rgJ L p) []=r at*
 have e1:wk l (r.take (rgI L p+1))=wk l (r.take (rgI L p))++cl l p l.length:=by
  rw[List.take_succ_eq_append_getElem a2,Kz8]
  rw[XW9 _ _ a2]at a3
  rw[a3]
 show _+((wk l (r.take (rgI L p))).length+(cl l p l.length).length)%(wk l r).length+1=_+((wk l (r.take ((rgI L p+1)%r.length))).length+0)%(wk l r).length+1
 rw[<-List.length_append,<-e1,Nat.add_zero]
 by_cases h:rgI L p+1<r.length
 · rw[Nat.mod_eq_of_lt h];rfl
 · rw[show rgI L p+1=r.length by omega,Nat.mod_self,List.take_length,Nat.mod_self]
   show _+0+1=_+(wk l []).length%_+1
   rw[show(wk l []).length=0 from rfl,Nat.zero_mod]
theorem Zf5 {p k s:Nat} (hp1:1<=p) (hp2:p<=n) (hk:k<l.length) (hs:s<2) (e:pl l p k=(l.getD k 0).natAbs+s) (j:Nat):1<=aNo l (rgs (fun p=>pl l p l.length) n).2 p j/\aNo l (rgs (fun p=>pl l p l.length) n).2 p j<=2*l.length:=by
 obtain⟨b1,-⟩:=Qf6 hw h2 h5 hp1 hp2 hk hs e
 have ht:=ZB9 hw h2 h5
 obtain⟨r1,-,-,-⟩:=QH4 hw h2 h5
 obtain⟨a1,-⟩:=r1 (p - 1) (by omega)
 rw[show p-1+1=p by omega]at a1
 unfold aNo
 generalize (rgs (fun p=>pl l p l.length) n).2=L at*
 have h3:=Qv7 l L a1 (Nat.le_refl _)
 rw[XH5 l L.length L (Nat.le_refl _),List.take_length]at h3
 have h4:=Nat.mod_lt ((wk l ((L.getD (rgJ L p) []).take (rgI L p))).length+(cl l p j).length) (show 0<(wk l (L.getD (rgJ L p) [])).length by omega)
 omega
end
end Go.Proofs.YtjcagkgpbcdghaaDoor
