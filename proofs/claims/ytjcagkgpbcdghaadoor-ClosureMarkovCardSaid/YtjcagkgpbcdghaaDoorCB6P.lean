/- Several texts of the proof, one behind the other. -/
import Derived.Test.YtjcagkgpbcdghaaDoorCB3P
import Derived.Test.YtjcagkgpbcdghaaDoorF7P
import Derived.Test.YtjcagkgpbcdghaaDoorAS3P
import Derived.Test.YtjcagkgpbcdghaaDoorBT0P
/- Braids closed: loops are places that no letter touches. -/
namespace Go.Proofs.YtjcagkgpbcdghaaDoor
theorem Qh4 (l:List Int) (L:List (List Nat)):∀ t,t<=L.length->((cF l (L.take t)).2.2=0↔∀ j,j<t->(wk l (L.getD j [])).length≠0)/\(cF l (L.take t)).2.2<=t
 |0,_=>⟨⟨fun _ j hj=>by omega,fun _=>rfl⟩,Nat.le_refl _⟩
 |t+1,ht=>by
  obtain⟨i1,i2⟩:=Qh4 l L t (by omega)
  have e:(cF l (L.take (t+1))).2.2=(cF l (L.take t)).2.2+if(wk l (L.getD t [])).length=0 then 1 else 0:=by
   rw[List.take_succ_eq_append_getElem (by omega),XQ4,XW9 L [] (show t<L.length by omega)]
   rfl
  rw[e]
  constructor
  · constructor
    · intro h j hj
      by_cases q:j=t
      · subst q
        intro z
        rw[if_pos z]at h
        omega
      · exact i1.1 (by omega) j (by omega)
    · intro h
      rw[i1.2 fun j hj=>h j (by omega),if_neg (h t (by omega))]
  · split<;>omega
theorem Xg2 {l:List Int} {p:Nat} (h:∀ k,k<l.length->¬ Tch l p k):∀ k,k<=l.length->pl l p k=p/\cl l p k=[]
 |0,_=>⟨rfl,rfl⟩
 |k+1,hk=>by
  obtain⟨i1,i2⟩:=Xg2 h k (by omega)
  have ht:=h k (by omega)
  have h1:p≠(l.getD k 0).natAbs:=fun e=>ht (Or.inl e)
  have h2:p≠(l.getD k 0).natAbs+1:=fun e=>ht (Or.inr e)
  constructor
  · show plc (pl l p k) _=p
    rw[i1]
    unfold plc
    rw[if_neg h1,if_neg h2]
  · rw[ZY3 l p k (by rw[i1];exact h1) (by rw[i1];exact h2),i2]
theorem Xb1 {l:List Int} {p:Nat} (h:cl l p l.length=[]):∀ k,k<=l.length->pl l p k=p/\∀ j,j<k->¬ Tch l p j
 |0,_=>⟨rfl,fun j hj=>by omega⟩
 |k+1,hk=>by
  obtain⟨i1,i2⟩:=Xb1 h k (by omega)
  obtain⟨t,ht⟩:=Zk2 l p (k+1) l.length hk
  rw[h]at ht
  have h0:cl l p (k+1)=[]:=(List.append_eq_nil_iff.1 ht.symm).1
  have n1:pl l p k≠(l.getD k 0).natAbs:=fun e=>by
   rw[Qy7 l p k (s:=0) (by decide) e]at h0
   simp at h0
  have n2:pl l p k≠(l.getD k 0).natAbs+1:=fun e=>by
   rw[Qy7 l p k (s:=1) (by decide) e]at h0
   simp at h0
  rw[i1]at n1 n2
  refine⟨?_,fun j hj=>?_⟩
  · show plc (pl l p k) _=p
    rw[i1]
    unfold plc
    rw[if_neg n1,if_neg n2]
  · by_cases e:j=k
    · rw[e]
      rintro(q|q)
      · exact n1 q
      · exact n2 q
    · exact i2 j (by omega)
section
variable {n:Nat} {l:List Int} (hw:∀ j,j<l.length->1<=(l.getD j 0).natAbs/\(l.getD j 0).natAbs<n) (h2:2<=n) (h5:n<=5)
theorem Xy1:QV5 l n<=n:=by
 have h1:=(Qh4 l (rgs (fun p=>pl l p l.length) n).2 _ (Nat.le_refl _)).2
 rw[List.take_length]at h1
 have h3:=Xd1 (fun p=>pl l p l.length) n
 unfold QV5
 omega
include hw h2 h5
theorem XD1 (h0:QV5 l n=0) {x:Nat} (h1:1<=x) (h3:x<=n):∃ k,k<l.length/\Tch l x k:=by
 refine Classical.byContradiction fun hn=>?_
 have hv:=Xg2 (p:=x) fun k hk ht=>hn ⟨k,hk,ht⟩
 obtain⟨r1,-,-,-⟩:=QH4 hw h2 h5
 obtain⟨a1,a2,a3,-,a5⟩:=r1 (x - 1) (by omega)
 rw[show x-1+1=x by omega]at a1 a2 a3 a5
 simp only at a5
 rw[(hv l.length (Nat.le_refl _)).1]at a5
 unfold QV5 at h0
 have hc:=(Qh4 l (rgs (fun p=>pl l p l.length) n).2 _ (Nat.le_refl _)).1
 rw[List.take_length]at hc
 have hc:=hc.1 h0
 generalize (rgs (fun p=>pl l p l.length) n).2=L at*
 have hc:=hc (rgJ L x) a1
 generalize L.getD (rgJ L x) []=r at*
 have h6:r.length=1:=by
  by_cases q:rgI L x+1<r.length
  · rw[Nat.mod_eq_of_lt q]at a5;omega
  · rw[show rgI L x+1=r.length by omega,Nat.mod_self]at a5;omega
 obtain⟨y,rfl⟩:=List.length_eq_one_iff.1 h6
 have h7:rgI L x=0:=by simp at a2;exact a2
 rw[h7]at a3
 obtain rfl:y=x:=a3
 apply hc
 unfold wk
 simp[(hv l.length (Nat.le_refl _)).2]
theorem ZA2 (h0:QV5 l n≠0):∃ x,1<=x/\x<=n/\∀ k,k<l.length->¬ Tch l x k:=by
 obtain⟨-,r2,-,r4⟩:=QH4 hw h2 h5
 unfold QV5 at h0
 have hc:=(Qh4 l (rgs (fun p=>pl l p l.length) n).2 _ (Nat.le_refl _)).1
 rw[List.take_length]at hc
 generalize (rgs (fun p=>pl l p l.length) n).2=L at*
 refine Classical.byContradiction fun hn=>h0 (hc.2 fun j hj hz=>hn ?_)
 have hr:=r2 j hj
 have hm:(L.getD j []).getD 0 0∈L.flatten:=List.mem_flatten.2 ⟨_,Qj8 L [] hj,Qj8 _ 0 hr⟩
 have hrg:=r4 _ hm
 refine⟨_,hrg.1,hrg.2,?_⟩
 have hz2:cl l ((L.getD j []).getD 0 0) l.length=[]:=by
  have hz:=List.length_eq_zero_iff.1 hz
  unfold wk at hz
  exact List.flatMap_eq_nil_iff.1 hz _ (Qj8 _ 0 hr)
 exact(Xb1 hz2 l.length (Nat.le_refl _)).2
theorem Qy6 (h16:l.length<=16):noN (QV6 l n) (QV5 l n)=0:=by
 have h:=XH2 hw h2 h5
 have hl:=h.len
 have hle:=Xy1 (n:=n) (l:=l)
 have hs:QF7 (QV6 l n) (QV5 l n)=true:=by
  unfold QF7
  rw[hl]
  have e1:decide (l.length<=16)=true:=decide_eq_true h16
  have e2:decide ((0:Int)<=(QV5 l n:Nat))=true:=decide_eq_true (by omega)
  have e3:decide (((QV5 l n:Nat):Int)<=16)=true:=decide_eq_true (by omega)
  rw[e1,e2,e3]
  by_cases q:l.length=0
  · have : QV5 l n ≠ 0 := fun z => by
      obtain⟨k,hk,-⟩:=XD1 hw h2 h5 z (x:=1) (by omega) (by omega)
      omega
    rw[decide_eq_false (show ¬ ((QV5 l n:Nat):Int)=0 by omega)]
    simp
  · rw[decide_eq_false q];rfl
 have hm:=JJ8 h hs
 unfold noN
 rw[if_pos hm,if_pos (XF1 h hm)]
end
end Go.Proofs.YtjcagkgpbcdghaaDoor
/- Braids closed: a table over places and levels; its rows' relation. -/
namespace Go.Proofs.YtjcagkgpbcdghaaDoor
def ptN (n m x k:Nat):Nat:=(k%m)*n+x
def dlP (p c:Nat):Int:=if p=c then 1 else 0
def uR (l:List Int) (t:Int) (k x:Nat):Int:=if 0<l.getD k 0 then 1 else if x=(l.getD k 0).natAbs then -1 else if x=(l.getD k 0).natAbs+1 then -t else 1
def inB (l:List Int) (t:Int) (k x:Nat) (Y:Nat->Int):Int:=
 if x=(l.getD k 0).natAbs then(if 0<l.getD k 0 then(t-1)*Y x-t*Y (x+1) else Y (x+1))
 else if x=(l.getD k 0).natAbs+1 then(if 0<l.getD k 0 then -Y (x-1) else Y (x-1)+(t-1)*Y x)
 else -Y x
def rwP (l:List Int) (n:Nat) (t:Int) (e:Nat×Nat) (c:Nat):Int:=uR l t e.1 e.2*dlP (ptN n l.length e.2 (e.1+1)) c+inB l t e.1 e.2 fun y=>dlP (ptN n l.length y e.1) c
def ixP (n m:Nat):List (Nat×Nat):=(List.range m).flatMap fun k=>(List.range' 1 n).map fun x=>(k,x)
theorem ixP_mem {n m:Nat} {e:Nat×Nat}:e∈ixP n m↔e.1<m/\1<=e.2/\e.2<=n:=by
 unfold ixP
 rw[List.mem_flatMap]
 constructor
 · rintro⟨k,hk,h⟩
   obtain⟨x,hx,rfl⟩:=List.mem_map.1 h
   have:=List.mem_range'_1.1 hx
   exact⟨List.mem_range.1 hk,by simp only;omega⟩
 · rintro⟨h1,h2,h3⟩
   exact⟨e.1,List.mem_range.2 h1,List.mem_map.2 ⟨e.2,List.mem_range'_1.2 (by omega),rfl⟩⟩
theorem Qw9 (n m:Nat):(ixP n m).Nodup:=by
 unfold ixP List.Nodup
 rw[List.pairwise_flatMap]
 refine⟨fun k _=>?_,List.Pairwise.imp_of_mem ?_ (List.nodup_range (n:=m))⟩
 · rw[List.pairwise_map]
   exact List.Pairwise.imp (fun h e=>h (Prod.mk.inj e).2) (List.nodup_range' (s:=1) (n:=n))
 · intro a b _ _ hne x hx y hy e
   obtain⟨x1,-,rfl⟩:=List.mem_map.1 hx
   obtain⟨y1,-,rfl⟩:=List.mem_map.1 hy
   exact hne (Prod.mk.inj e).1
theorem Xb4 {n a:Nat} {f:Nat->Int} (ha:a+1<n) (h:∀ i,i<n->i≠a->i≠a+1->f i=0) (h2:f a+f (a+1)=0):QX4 n f=0:=by
 have low:∀ j,j<=a->QX4 j f=0:=fun j=>by
  induction j with
  |zero=>intro _;rfl
  |succ j ih=>intro hj;show QX4 j f+f j=0;rw[ih (by omega),h j (by omega) (by omega) (by omega)];rfl
 have high:∀ j,a+2+j<=n->QX4 (a+2+j) f=0:=fun j=>by
  induction j with
  |zero=>intro _;show QX4 a f+f a+f (a+1)=0;rw[low a (Nat.le_refl _)];omega
  |succ j ih=>intro hj;show QX4 (a+2+j) f+f (a+2+j)=0;rw[ih (by omega),h _ (by omega) (by omega) (by omega)];rfl
 have:=high (n-(a+2)) (by omega)
 rw[show a+2+(n-(a+2))=n by omega]at this
 exact this
def wR (l:List Int) (t:Int) (k x:Nat):Int:=if 0<l.getD k 0 then t ^ x else if x=(l.getD k 0).natAbs∨x=(l.getD k 0).natAbs+1 then -(t ^ (l.getD k 0).natAbs) else t ^ x
def wE (l:List Int) (k x:Nat):Nat:=if 0<l.getD k 0 then x else if x=(l.getD k 0).natAbs∨x=(l.getD k 0).natAbs+1 then(l.getD k 0).natAbs else x
theorem Kk0 (l:List Int) (t:Nat) (k x:Nat):(wR l t k x).natAbs=t ^ wE l k x:=by
 unfold wR wE
 split
 · rw[Int.natAbs_pow,Int.natAbs_natCast]
 · split
   · rw[Int.natAbs_neg,Int.natAbs_pow,Int.natAbs_natCast]
   · rw[Int.natAbs_pow,Int.natAbs_natCast]
theorem Kg9 (l : List Int) (t : Int) {n k : Nat} (h1 : 1 ≤ (l.getD k 0).natAbs) (h2 : (l.getD k 0).natAbs < n) (D B : Nat → Int) :
    QX4 n (fun j=>wR l t k (j+1)*(uR l t k (j+1)*D (j+1)+inB l t k (j+1) B))=QX4 n (fun j=>t ^ (j+1)*D (j+1))-QX4 n (fun j=>t ^ (j+1)*B (j+1)):=by
 have key:QX4 n (fun j=>wR l t k (j+1)*(uR l t k (j+1)*D (j+1)+inB l t k (j+1) B)-(t ^ (j+1)*D (j+1)-t ^ (j+1)*B (j+1)))=0:=by
  obtain⟨a,ha⟩:∃ a,(l.getD k 0).natAbs=a+1:=⟨(l.getD k 0).natAbs - 1,by omega⟩
  rw[ha]at h2
  refine Xb4 (a:=a) h2 (fun j hj e1 e2=>?_) ?_
  · unfold wR uR inB
    rw[ha,if_neg (show ¬ (j+1=a+1) by omega),if_neg (show ¬ (j+1=a+1) by omega),if_neg (show ¬ (j+1=a+1+1) by omega),if_neg (show ¬ (j+1=a+1+1) by omega),if_neg (show ¬ (j+1=a+1∨j+1=a+1+1) by omega)]
    by_cases q:0<l.getD k 0
    · rw[if_pos q,if_pos q];grind
    · rw[if_neg q,if_neg q];grind
  · unfold wR uR inB
    rw[ha]
    simp only[if_true,Nat.add_sub_cancel,or_true,true_or,if_neg (show ¬ (a+1+1=a+1) by omega)]
    by_cases q:0<l.getD k 0
    · simp only[if_pos q]
      rw[Int.pow_succ,Int.pow_succ]
      grind
    · simp only[if_neg q]
      rw[Int.pow_succ,Int.pow_succ]
      grind
 rw[<-QB1,<-QB1]at key
 omega
theorem XZ6 {β:Type} (r:β->Int) {l l':List β} (h:l.Perm l'):(l.map r).sum=(l'.map r).sum:=by
 induction h with
 |nil=>rfl
 |cons c _ ih=>simp only[List.map_cons,List.sum_cons,ih]
 |swap c d l=>simp only[List.map_cons,List.sum_cons];omega
 |trans _ _ i1 i2=>rw[i1,i2]
theorem XA8 {β:Type} (g:β->Int) (h:Nat->List β):∀ m,(((List.range m).flatMap h).map g).sum=QX4 m fun k=>((h k).map g).sum
 |0=>rfl
 |m+1=>by
  rw[List.range_succ,List.flatMap_append,List.map_append,List.sum_append,XA8 g h m]
  simp[QX4]
theorem XX5 (F:Nat->Int):∀ m,QX4 m (fun k=>F (k+1)-F k)=F m-F 0
 |0=>by show(0:Int)=_;omega
 |m+1=>by show QX4 m _+(F (m+1)-F m)=_;rw[XX5 F m];omega
section
variable {n:Nat} {l:List Int} (hw:∀ j,j<l.length->1<=(l.getD j 0).natAbs/\(l.getD j 0).natAbs<n)
include hw
theorem Kh0 (t:Int) (c:Nat):((ixP n l.length).map fun e=>wR l t e.1 e.2*rwP l n t e c).sum=0:=by
 unfold ixP
 rw[XA8]
 have e:∀ k,k<l.length->(((List.range' 1 n).map fun x=>(k,x)).map fun e=>wR l t e.1 e.2*rwP l n t e c).sum=(fun k=>QX4 n fun j=>t ^ (j+1)*dlP (ptN n l.length (j+1) k) c) (k+1)-(fun k=>QX4 n fun j=>t ^ (j+1)*dlP (ptN n l.length (j+1) k) c) k:=fun k hk=>by
  rw[List.map_map,QB8]
  have hx:=hw k hk
  exact Kg9 l t hx.1 hx.2 (fun x=>dlP (ptN n l.length x (k+1)) c) (fun y=>dlP (ptN n l.length y k) c)
 rw[QQ2 e,XX5 fun k=>QX4 n fun j=>t ^ (j+1)*dlP (ptN n l.length (j+1) k) c]
 have e2:∀ x,ptN n l.length x l.length=ptN n l.length x 0:=fun x=>by
  unfold ptN
  rw[Nat.mod_self,Nat.zero_mod]
 simp only[e2]
 omega
theorem XX9 {a b : Nat × Nat} (ha : a ∈ ixP n l.length) (hb : b ∈ ixP n l.length) (cs : List Nat) :
    Pq (fun t=>(dZ (((ixP n l.length).erase a).map (rwP l n (t:Nat))) cs).natAbs) (fun t=>(dZ (((ixP n l.length).erase b).map (rwP l n (t:Nat))) cs).natAbs):=by
 by_cases e:a=b
 · rw[e];exact Pq.rfl' fun _ _=>rfl
 have nd:=Qw9 n l.length
 have pa:(ixP n l.length).Perm (a::(ixP n l.length).erase a):=List.perm_cons_erase ha
 have pab:((ixP n l.length).erase a).Perm (b::((ixP n l.length).erase a).erase b):=List.perm_cons_erase ((nd.mem_erase_iff).2 ⟨fun z=>e z.symm,hb⟩)
 have pb:((ixP n l.length).erase b).Perm (a::((ixP n l.length).erase a).erase b):=by
  have p1:(ixP n l.length).Perm (b::a::((ixP n l.length).erase a).erase b):=(pa.trans (pab.cons a)).trans (List.Perm.swap ..)
  have:=p1.erase b
  rwa [List.erase_cons_head]at this
 refine Pq.pow (wE l b.1 b.2) (wE l a.1 a.2) fun t ht=>?_
 rw[QD8 (pab.map _),QD8 (pb.map _),List.map_cons,List.map_cons,<-Kk0,<-Kk0]
 refine(JA3 (rwP l n (t:Nat)) (fun e=>wR l (t:Nat) e.1 e.2) b a _ cs fun c=>?_)
 have:=Kh0 hw (t:Nat) c
 rw[XZ6 _ (pa.trans (pab.cons a)),List.map_cons,List.map_cons,List.sum_cons,List.sum_cons]at this
 omega
omit hw in
theorem XU5 {x k:Nat} (h0:0<l.length) (h1:1<=x) (h2:x<=n):1<=ptN n l.length x k/\ptN n l.length x k<=n*l.length:=by
 unfold ptN
 have h3:=Nat.mod_lt k h0
 have h4:(k%l.length+1)*n<=l.length*n:=Nat.mul_le_mul_right n h3
 rw[Nat.succ_mul,Nat.mul_comm l.length]at h4
 omega
theorem Zw2 (t:Int) {e:Nat×Nat} (he:e∈ixP n l.length):QX4 (n*l.length) (fun i=>rwP l n t e (i+1))=0:=by
 obtain⟨h1,h2,h3⟩:=ixP_mem.1 he
 have hx:=hw e.1 h1
 have one:∀ x,1<=x->x<=n->∀ k,∀ u:Int,QX4 (n*l.length) (fun i=>u*dlP (ptN n l.length x k) (i+1))=u:=fun x a b k u=>by
  have r:=XU5 (l:=l) (n:=n) (x:=x) (k:=k) (by omega) a b
  unfold dlP
  rw[QJ5,QQ2 (g:=fun i=>if i+1=ptN n l.length x k then(1:Int) else 0) (fun i _=>Qk2 _ _),QY3 _ _ r.1 r.2 (fun _=>1)]
  omega
 have on:∀ x,1<=x->x<=n->∀ k,QX4 (n*l.length) (fun i=>dlP (ptN n l.length x k) (i+1))=1:=fun x a b k=>by
  have:=one x a b k 1
  simpa using this
 unfold rwP inB uR
 generalize (l.getD e.1 0).natAbs=i at*
 by_cases e1:e.2=i
 · simp only[if_pos e1]
   by_cases q:0<l.getD e.1 0
   · simp only[if_pos q]
     rw[QX1,one _ h2 h3,<-QB1,one _ h2 h3,one _ (by omega) (by omega)];omega
   · simp only[if_neg q]
     rw[QX1,one _ h2 h3,on _ (by omega) (by omega)];omega
 · simp only[if_neg e1]
   by_cases e2:e.2=i+1
   · simp only[if_pos e2]
     by_cases q:0<l.getD e.1 0
     · simp only[if_pos q]
       have:=QJ5 (n*l.length) (-1) (fun x=>dlP (ptN n l.length (e.2-1) e.1) (x+1))
       rw[on _ (by omega) (by omega)]at this
       rw[QX1,one _ h2 h3,show(fun x => -dlP (ptN n l.length (e.2-1) e.1) (x+1))=fun x => -1*dlP (ptN n l.length (e.2-1) e.1) (x+1) from funext fun x=>by omega,this];omega
     · simp only[if_neg q]
       rw[QX1,one _ h2 h3,QX1,on _ (by omega) (by omega),one _ h2 h3];omega
   · simp only[if_neg e2]
     have:=QJ5 (n*l.length) (-1) (fun x=>dlP (ptN n l.length e.2 e.1) (x+1))
     rw[on _ h2 h3]at this
     rw[QX1,show(fun x => -dlP (ptN n l.length e.2 e.1) (x+1))=fun x => -1*dlP (ptN n l.length e.2 e.1) (x+1) from funext fun x=>by omega,this]
     have c:(if 0<l.getD e.1 0 then(1:Int) else 1)=1:=by split<;>rfl
     rw[one _ h2 h3,c];omega
end
end Go.Proofs.YtjcagkgpbcdghaaDoor
/- Alexander's minor of a sum. -/
namespace Go.Proofs.YtjcagkgpbcdghaaDoor
theorem ZG0 (n:Nat) (g:Nat->Int):((List.range n).map g).sum=QX4 n g:=by
 induction n with
 |zero=>rfl
 |succ n ih=>rw[List.range_succ,List.map_append,List.sum_append,ih];simp[QX4]
section
variable {C D:List Cr} {l1 l2:Int} (hm:QX3 C l1=true) (hm':QX3 D l2=true) {x y:Nat} (hx1:1<=x) (hx2:x<=2*C.length) (hy1:1<=y) (hy2:y<=2*D.length)
include hm hm' hx1 hx2 hy1 hy2
end
end Go.Proofs.YtjcagkgpbcdghaaDoor
/- Alexander's polynomial of a sum: values at whole numbers; the product. -/
namespace Go.Proofs.YtjcagkgpbcdghaaDoor
open Poly
def vlT (t:Int):List (Int×Int)->Int
 |[]=>0
 |u::l=>t ^ u.1.toNat*u.2+vlT t l
def NnL (L:List (Int×Int)):Prop:=∀ u∈L,0<=u.1
theorem Kv1:NnL []:=fun _ h=>nomatch h
theorem Zj3 (t:Int) (a b:List (Int×Int)):vlT t (a++b)=vlT t a+vlT t b:=by
 induction a with
 |nil=>simp[vlT]
 |cons u a ih=>simp only[List.cons_append,vlT,ih];omega
theorem XF9 (t:Int) (K:Nat):∀ L:List (Int×Int),(∀ u∈L,0<=u.1/\u.1<=K)->vlT t L=QX4 (K+1) (fun i=>t ^ i*coefL L (i:Int))
 |[],_=>by rw[QQ2 (g:=fun _=>0) fun i _=>by show _*(0:Int)=0;simp,QJ4];rfl
 |u::L,h=>by
  have hu:=h u (.head _)
  show t ^ u.1.toNat*u.2+vlT t L=_
  rw[XF9 t K L (fun v hv=>h v (.tail _ hv))]
  have e:∀ n:Nat,QX4 n (fun i=>t ^ i*(if u.1=(i:Int) then u.2 else 0))=if u.1<n then t ^ u.1.toNat*u.2 else 0:=fun n=>by
   induction n with
   |zero=>rw[if_neg (by omega)];rfl
   |succ n ih=>
    show QX4 n _+t ^ n*(if u.1=(n:Int) then u.2 else 0)=_
    rw[ih]
    by_cases q:u.1=(n:Int)
    · rw[if_neg (by omega),if_pos q,if_pos (by omega),show u.1.toNat=n by omega];omega
    · rw[if_neg q,Int.mul_zero,Int.add_zero]
      by_cases g:u.1<(n:Int)
      · rw[if_pos g,if_pos (by omega)]
      · rw[if_neg g,if_neg (by omega)]
  have e1:=e (K+1)
  rw[if_pos (by omega)]at e1
  rw[<-e1,<-QX1]
  refine QQ2 fun i _=>?_
  show _=t ^ i*((if u.1=(i:Int) then u.2 else 0)+coefL L (i:Int))
  rw[Int.mul_add]
theorem KU9 {L:List (Int×Int)} (h:NnL L):∃ K:Nat,∀ u∈L,0<=u.1/\u.1<=K:=by
 induction L with
 |nil=>exact⟨0,fun t ht=>by cases ht⟩
 |cons v L ih=>
  obtain⟨K,hK⟩:=ih fun u hu=>h u (.tail _ hu)
  refine⟨K+v.1.toNat,fun u hu=>?_⟩
  cases hu with
  |head=>have:=h v (.head _);omega
  |tail _ hu=>have:=hK u hu;omega
theorem Kd4 (t:Int) {L M:List (Int×Int)} (hL:NnL L) (hM:NnL M) (h:∀ y,coefL L y=coefL M y):vlT t L=vlT t M:=by
 obtain⟨K1,h1⟩:=KU9 hL
 obtain⟨K2,h2⟩:=KU9 hM
 rw[XF9 t (K1+K2) L (fun u hu=>by have:=h1 u hu;omega),XF9 t (K1+K2) M (fun u hu=>by have:=h2 u hu;omega)]
 exact QQ2 fun i _=>by rw[h]
def EvT (t:Int) (f:Int->Int) (v:Int):Prop:=∃ L,NnL L/\(∀ y,coefL L y=f y)/\vlT t L=v
theorem XJ0 (e c:Int) (L:List (Int×Int)) (y:Int):coefL (L.map fun u=>(u.1+e,c*u.2)) y=c*coefL L (y-e):=by
 induction L with
 |nil=>simp[coefL]
 |cons u L ih=>
  simp only[List.map_cons,coefL,ih,Int.mul_add]
  by_cases q:u.1+e=y
  · rw[if_pos q,if_pos (by omega)]
  · rw[if_neg q,if_neg (by omega)];omega
theorem XG0 (t e c:Int) (he:0<=e) {L:List (Int×Int)} (h:NnL L):vlT t (L.map fun u=>(u.1+e,c*u.2))=t ^ e.toNat*c*vlT t L:=by
 induction L with
 |nil=>simp[vlT]
 |cons u L ih=>
  have h0:=h u (.head _)
  simp only[List.map_cons,vlT,ih fun v hv=>h v (.tail _ hv)]
  rw[show(u.1+e).toNat=u.1.toNat+e.toNat by omega,Int.pow_add]
  grind
theorem Kv2 {e c:Int} (he:0<=e) {L:List (Int×Int)} (h:NnL L):NnL (L.map fun u=>(u.1+e,c*u.2)):=fun v hv=>by
 obtain⟨u,hu,rfl⟩:=List.mem_map.1 hv
 have:=h u hu
 show 0<=u.1+e
 omega
theorem Kv3 {L M:List (Int×Int)} (h:NnL L) (h':NnL M):NnL (L++M):=fun u hu=>by
 rcases List.mem_append.1 hu with g|g
 · exact h u g
 · exact h' u g
theorem EvT.sub {t:Int} {f g:Int->Int} {v u:Int} (h:EvT t f v) (h':EvT t g u):EvT t (fun y=>f y-g y) (v-u):=by
 obtain⟨L,n1,h1,h2⟩:=h
 obtain⟨M,n2,h3,h4⟩:=h'
 refine⟨L++M.map (fun t=>(t.1+0,-1*t.2)),Kv3 n1 (Kv2 (Int.le_refl _) n2),fun y=>?_,?_⟩
 · rw[Qq4,XJ0,h1,h3,show y-0=y by omega]
   show f y + -1*g y=f y-g y
   omega
 · rw[Zj3,XG0 t 0 (-1) (Int.le_refl _) n2,h2,h4]
   rw[show(0:Int).toNat=0 from rfl,Int.pow_zero]
   omega
theorem EvT.prod {t:Int} {f:Int->Int} {v:Int} (h:EvT t f v) (a:List (Int×Int)) (ha:NnL a):EvT t (QQ5 a f) (vlT t a*v):=by
 obtain⟨L,n1,h1,h2⟩:=h
 induction a with
 |nil=>exact⟨[],Kv1,fun _=>rfl,by simp[vlT]⟩
 |cons s a ih=>
  obtain⟨M,n2,h3,h4⟩:=ih fun u hu=>ha u (.tail _ hu)
  have h0:=ha s (.head _)
  refine⟨L.map (fun u=>(u.1+s.1,s.2*u.2))++M,Kv3 (Kv2 h0 n1) n2,fun y=>?_,?_⟩
  · rw[Qq4,XJ0,h1,h3];rfl
  · rw[Zj3,XG0 t s.1 s.2 h0 n1,h2,h4]
    show t ^ s.1.toNat*s.2*v+vlT t a*v=(t ^ s.1.toNat*s.2+vlT t a)*v
    grind
theorem EvT.row (t:Int) (r:Nat->List (Int×Int)) (hr:∀ c,NnL (r c)):∀ (cs:List Nat) (h:List Nat->Int->Int) (hv:List Nat->Int),(∀ rest,EvT t (h rest) (hv rest))->EvT t (Poly.rowF r cs h) (QK5 (fun c=>vlT t (r c)) cs hv)
 |[],_,_,_=>⟨[],Kv1,fun _=>rfl,rfl⟩
 |c::cs,_,_,e=>((e cs).prod (r c) (hr c)).sub (EvT.row t r hr cs _ _ fun rest=>e (c::rest))
theorem EvT.det (t:Int):∀ (rows:List (Nat->List (Int×Int))),(∀ r∈rows,∀ c,NnL (r c))->∀ cs:List Nat,EvT t (Xx2 rows cs) (JC7 (rows.map fun r c=>vlT t (r c)) cs)
 |[],_,_=>by
  refine⟨[(0,1)],fun u hu=>?_,fun y=>?_,?_⟩
  · rw[List.mem_singleton.1 hu];exact Int.le_refl _
  · show(if(0:Int)=y then(1:Int) else 0)+0=(if y=0 then 1 else 0)
    by_cases q:y=0
    · rw[if_pos q,if_pos q.symm];rfl
    · rw[if_neg q,if_neg (fun z=>q z.symm)];rfl
  · show t ^ 0*1+0=1
    rw[Int.pow_zero];rfl
 |r::rows,h,cs=>EvT.row t r (h r (.head _)) cs _ _ fun rest=>EvT.det t rows (fun s hs=>h s (.tail _ hs)) rest
theorem Zf4 {C:List Cr} {N:Nat} {l:List (Int×Int)} (h:Canon l (detOf (alT C N))) (hn:NnL l) (t:Int):vlT t l=dZ ((List.range N).map (alV C t)) (List.range N):=by
 have hap:∀ x y,NnL (QY5 x y):=fun x y u hu=>by
  unfold QY5 at hu
  rcases List.mem_append.1 hu with g|g
  · split at g
    · cases g
    · rw[List.mem_singleton.1 g];exact Int.le_refl _
  · split at g
    · cases g
    · rw[List.mem_singleton.1 g];show(0:Int)<=1;omega
 obtain ⟨L, n1, h1, h2⟩ := EvT.det t (rowsOf (alT C N)) (fun r hr c => by
  unfold rowsOf at hr
  obtain⟨R,hR,rfl⟩:=List.mem_map.1 hr
  unfold alT at hR
  obtain⟨i,-,rfl⟩:=List.mem_map.1 hR
  show NnL ((alR C N i).getD c [])
  by_cases hc:c<N
  · rw[Zk7 C N i c hc];exact hap _ _
  · rw[List.getD_eq_getElem?_getD,List.getElem?_eq_none (by rw[XX2];omega)]
    intro u hu;cases hu) (List.range (alT C N).length)
 have e:vlT t l=vlT t L:=Kd4 t hn n1 fun y=>by rw[ZX7 h,h1];rfl
 rw[e,h2,Qk3,ZK1 _ _ (by simp)]
 have e2:(rowsOf (alT C N)).map (fun r c=>vlT t (r c))=(List.range N).map fun i c=>vlT t ((alR C N i).getD c []):=by
  unfold rowsOf alT
  rw[List.map_map,List.map_map]
  rfl
 rw[e2,<-ZK1 _ _ (by simp),<-ZK1 _ _ (by simp)]
 refine QW2 _ _ _ _ fun i _ c hc=>?_
 rw[Zk7 C N i c (List.mem_range.1 hc)]
 unfold alV QY5
 by_cases hx:(alF C i c).1=0<;>by_cases hy:(alF C i c).2=0
 · rw[if_pos hx,if_pos hy,hx,hy];show(0:Int)=0+t*0;omega
 · rw[if_pos hx,if_neg hy,hx];show t ^ 1*(alF C i c).2+0=0+t*(alF C i c).2;rw[Int.pow_one];omega
 · rw[if_neg hx,if_pos hy,hy];show t ^ 0*(alF C i c).1+0=(alF C i c).1+t*0;rw[Int.pow_zero];omega
 · rw[if_neg hx,if_neg hy];show t ^ 0*(alF C i c).1+(t ^ 1*(alF C i c).2+0)=(alF C i c).1+t*(alF C i c).2;rw[Int.pow_zero,Int.pow_one];omega
theorem XA0:∀ (K:Nat) (f:Nat->Int),(∃ i,i<K/\f i≠0)->∃ B:Nat,∀ t:Nat,B<t->QX4 K (fun i=>(t:Int) ^ i*f i)≠0
 |0,_,h=>by obtain⟨i,h,-⟩:=h;omega
 |K+1,f,h=>by
  have sp:∀ t:Nat,QX4 (K+1) (fun i=>(t:Int) ^ i*f i)=f 0+(t:Int)*QX4 K (fun i=>(t:Int) ^ i*f (i+1)):=fun t=>by
   have sp0:∀ M (g:Nat->Int),QX4 (M+1) g=g 0+QX4 M (fun i=>g (i+1)):=fun M g=>by
    induction M with
    |zero=>show 0+g 0=g 0+0;omega
    |succ M ih=>show QX4 (M+1) g+g (M+1)=g 0+(QX4 M (fun i=>g (i+1))+g (M+1));rw[ih];omega
   rw[sp0,<-QJ5]
   congr 1
   · rw[Int.pow_zero];omega
   · exact QQ2 fun i _=>by rw[Int.pow_succ];grind
  by_cases h0:f 0=0
  · obtain⟨i,hi,hf⟩:=h
    obtain ⟨B, hB⟩ := XA0 K (fun i => f (i + 1)) ⟨i - 1, by
     have:i≠0:=fun e=>hf (by rw[e];exact h0)
     omega,by
     have:i≠0:=fun e=>hf (by rw[e];exact h0)
     show f (i-1+1)≠0
     rw[show i-1+1=i by omega];exact hf⟩
    refine⟨B,fun t ht e=>?_⟩
    rw[sp,h0,Int.zero_add]at e
    rcases Int.mul_eq_zero.1 e with q|q
    · omega
    · exact hB t ht q
  · refine⟨(f 0).natAbs,fun t ht e=>?_⟩
    rw[sp]at e
    have hd:(t:Int) ∣ f 0:=⟨-QX4 K (fun i=>(t:Int) ^ i*f (i+1)),by rw[Int.mul_neg];omega⟩
    have:=Int.natAbs_dvd_natAbs.2 hd
    have:=Nat.le_of_dvd (by omega) this
    omega
theorem Zh2 {K:Nat} {f g:Nat->Int} (h:∀ t:Nat,1<=t->(QX4 K (fun i=>(t:Int) ^ i*f i)).natAbs=(QX4 K (fun i=>(t:Int) ^ i*g i)).natAbs):(∀ i,i<K->f i=g i)∨∀ i,i<K->f i = -g i:=by
 refine Classical.byContradiction fun hn=>?_
 have h1:∃ i,i<K/\f i-g i≠0:=Classical.byContradiction fun q=>hn (Or.inl fun i hi=>Classical.byContradiction fun z=>q ⟨i,hi,by omega⟩)
 have h2:∃ i,i<K/\f i+g i≠0:=Classical.byContradiction fun q=>hn (Or.inr fun i hi=>Classical.byContradiction fun z=>q ⟨i,hi,by omega⟩)
 obtain⟨B1,b1⟩:=XA0 K (fun i=>f i - g i) h1
 obtain⟨B2,b2⟩:=XA0 K (fun i=>f i+g i) h2
 have e1:=b1 (B1+B2+1) (by omega)
 have e2:=b2 (B1+B2+1) (by omega)
 have e3:=h (B1+B2+1) (by omega)
 rw[QQ2 (g:=fun i=>((B1+B2+1:Nat):Int) ^ i*f i-((B1+B2+1:Nat):Int) ^ i*g i) (fun i _=>Int.mul_sub _ _ _),<-QB1]at e1
 rw[QQ2 (g:=fun i=>((B1+B2+1:Nat):Int) ^ i*f i+((B1+B2+1:Nat):Int) ^ i*g i) (fun i _=>Int.mul_add _ _ _),QX1]at e2
 omega
end Go.Proofs.YtjcagkgpbcdghaaDoor
