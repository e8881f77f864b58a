/- Several texts of the proof, one behind the other. -/
import Derived.Test.YtjcagkgpbcdghaaDoorCL5P
import Derived.Test.YtjcagkgpbcdghaaDoorBaseP
import Derived.Test.YtjcagkgpbcdghaaDoorCL4P
import Derived.Test.YtjcagkgpbcdghaaDoorW3P
import Derived.Test.YtjcagkgpbcdghaaDoorPMathP
/- Braids closed: rings of places; which number an arc has. -/
namespace Go.Proofs.YtjcagkgpbcdghaaDoor
def rgJ (L:List (List Nat)) (p:Nat):Nat:=L.findIdx fun r=>r.contains p
def rgI (L:List (List Nat)) (p:Nat):Nat:=(L.getD (rgJ L p) []).idxOf p
def RgOk (E:Nat->Nat) (n:Nat) (L:List (List Nat)):Prop:=
 (∀ p,p<n->rgJ L (p+1)<L.length/\rgI L (p+1)<(L.getD (rgJ L (p+1)) []).length/\(L.getD (rgJ L (p+1)) []).getD (rgI L (p+1)) 0=p+1/\rgJ L (E (p+1))=rgJ L (p+1)/\rgI L (E (p+1))=(rgI L (p+1)+1)%(L.getD (rgJ L (p+1)) []).length)/\
 (∀ j,j<L.length->0<(L.getD j []).length)/\L.flatten.Nodup/\∀ p∈L.flatten,1<=p/\p<=n
instance (E:Nat->Nat) (n:Nat) (L:List (List Nat)):Decidable (RgOk E n L):=by unfold RgOk;infer_instance
def eOf (e:List Nat) (p:Nat):Nat:=e.getD (p-1) 0
def Ky7 (n:Nat):Nat->List Nat->Bool
 |0,e=>decide (RgOk (eOf e) n (rgs (eOf e) n).2)
 |k+1,e=>(List.range' 1 n).all fun x=>e.contains x||Ky7 n k (e++[x])
theorem Zf2 (n:Nat):∀ (t e:List Nat),Ky7 n t.length e=true->(∀ x∈t,1<=x/\x<=n)->(e++t).Nodup->RgOk (eOf (e++t)) n (rgs (eOf (e++t)) n).2
 |[],e,h,_,_=>by
  rw[List.append_nil]
  exact of_decide_eq_true h
 |x::t,e,h,hr,hn=>by
  have h1:=List.all_eq_true.1 h x (List.mem_range'_1.2 (by have:=hr x (.head _);omega))
  have h2:e.contains x=false:=by
   cases hc:e.contains x with
   |false=>rfl
   |true=>
    have hx:x∈e:=List.contains_iff_mem.1 hc
    exact absurd rfl ((List.nodup_append.1 hn).2.2 x hx x (.head _))
  rw[h2,Bool.false_or]at h1
  have:=Zf2 n t (e++[x]) h1 (fun y hy=>hr y (.tail _ hy)) (by simpa using hn)
  simpa using this
theorem Jk1:Ky7 2 2 []=true:=by decide +kernel
theorem Jk0:Ky7 3 3 []=true:=by decide +kernel
theorem Jz9:Ky7 4 4 []=true:=by decide +kernel
theorem Jz8:Ky7 5 5 []=true:=by decide +kernel
theorem ZV5 {E E':Nat->Nat} {n:Nat} (hE:∀ p,1<=p->p<=n->E p=E' p/\1<=E p/\E p<=n):∀ f D p,1<=p->p<=n->rg E f D p=rg E' f D p
 |0,_,_,_,_=>rfl
 |f+1,D,p,h1,h2=>by
  have h:=hE p h1 h2
  unfold rg
  rw[<-h.1,ZV5 hE f _ _ h.2.1 h.2.2]
theorem Xj1 {E E':Nat->Nat} {n:Nat} (hE:∀ p,1<=p->p<=n->E p=E' p/\1<=E p/\E p<=n):∀ k,k<=n->rgs E k=rgs E' k
 |0,_=>rfl
 |k+1,hk=>by
  unfold rgs
  rw[Xj1 hE k (by omega),ZV5 hE 7 _ _ (by omega) hk]
theorem Jq6 {E:Nat->Nat} {n:Nat} (h2:2<=n) (h5:n<=5) (hE:∀ p,1<=p->p<=n->1<=E p/\E p<=n) (hi:∀ p q,1<=p->p<=n->1<=q->q<=n->E p=E q->p=q):RgOk E n (rgs E n).2:=by
 have hr:∀ x∈(List.range' 1 n).map E,1<=x/\x<=n:=fun x hx=>by
  obtain⟨p,hp,rfl⟩:=List.mem_map.1 hx
  have:=List.mem_range'_1.1 hp
  exact hE p (by omega) (by omega)
 have hn:((List.range' 1 n).map E).Nodup:=by
  unfold List.Nodup
  rw[List.pairwise_map]
  refine List.Pairwise.imp_of_mem ?_ (List.nodup_range' (s:=1) (n:=n))
  intro a b ha hb hne e
  have:=List.mem_range'_1.1 ha
  have:=List.mem_range'_1.1 hb
  exact hne (hi a b (by omega) (by omega) (by omega) (by omega) e)
 have key:Ky7 n n []=true:=by
  have c:n=2∨n=3∨n=4∨n=5:=by omega
  rcases c with rfl|rfl|rfl|rfl
  · exact Jk1
  · exact Jk0
  · exact Jz9
  · exact Jz8
 have h0:=Zf2 n ((List.range' 1 n).map E) [] (by rw[List.length_map,List.length_range'];exact key) hr hn
 rw[List.nil_append]at h0
 have he:∀ p,1<=p->p<=n->E p=eOf ((List.range' 1 n).map E) p:=fun p q1 q2=>by
  unfold eOf
  rw[List.getD_eq_getElem?_getD,List.getElem?_map,List.getElem?_range' (by omega)]
  show E p=E (1+1*(p-1))
  congr 1
  omega
 rw[Xj1 (E':=eOf ((List.range' 1 n).map E)) (fun p q1 q2=>⟨he p q1 q2,hE p q1 q2⟩) n (Nat.le_refl _)]
 obtain⟨r1,r2⟩:=h0
 exact⟨fun p hp=>by rw[he (p+1) (by omega) (by omega)];exact r1 p hp,r2⟩
end Go.Proofs.YtjcagkgpbcdghaaDoor
/- Braids closed: the walks of rings; the arcs' numbers. -/
namespace Go.Proofs.YtjcagkgpbcdghaaDoor
theorem XW9 {α:Type} (W:List α) (d:α) {i:Nat} (h:i<W.length):W.getD i d=W[i]:=by
 rw[List.getD_eq_getElem?_getD,List.getElem?_eq_getElem h];rfl
theorem Qj8 {α:Type} (W:List α) (d:α) {i:Nat} (h:i<W.length):W.getD i d∈W:=by
 rw[XW9 W d h];exact List.getElem_mem _
theorem Zk2 (l:List Int) (p:Nat) (k:Nat):∀ K,k<=K->∃ t,cl l p K=cl l p k++t
 |0,h=>⟨[],by rw[show k=0 by omega,List.append_nil]⟩
 |K+1,h=>by
  by_cases e:k=K+1
  · exact⟨[],by rw[e,List.append_nil]⟩
  · obtain⟨t,ht⟩:=Zk2 l p k K (by omega)
    refine⟨t++(if pl l p K=(l.getD K 0).natAbs then [(K,0)] else if pl l p K=(l.getD K 0).natAbs+1 then [(K,1)] else []),?_⟩
    show cl l p K++_=_
    rw[ht,List.append_assoc]
theorem Qy7 (l:List Int) (p k:Nat) {s:Nat} (hs:s<2) (h:pl l p k=(l.getD k 0).natAbs+s):cl l p (k+1)=cl l p k++[(k,s)]:=by
 show cl l p k++_=_
 have c:s=0∨s=1:=by omega
 rcases c with rfl|rfl
 · rw[if_pos (show pl l p k=(l.getD k 0).natAbs from h)]
 · rw[if_neg (by omega),if_pos h]
theorem ZY3 (l:List Int) (p k:Nat) (h1:pl l p k≠(l.getD k 0).natAbs) (h2:pl l p k≠(l.getD k 0).natAbs+1):cl l p (k+1)=cl l p k:=by
 show cl l p k++_=_
 rw[if_neg h1,if_neg h2,List.append_nil]
theorem KY3 (l:List Int) (p:Nat):∀ K q,q∈cl l p K->q.1<K/\q.2<2/\pl l p q.1=(l.getD q.1 0).natAbs+q.2
 |0,q,h=>by cases h
 |K+1,q,h=>by
  unfold cl at h
  rcases List.mem_append.1 h with h|h
  · have:=KY3 l p K q h
    exact⟨by omega,this.2⟩
  · split at h
    · rename_i e
      obtain rfl:=List.mem_singleton.1 h
      exact⟨Nat.lt_succ_self _,show 0<2 by decide,e⟩
    · split at h
      · rename_i e
        obtain rfl:=List.mem_singleton.1 h
        exact⟨Nat.lt_succ_self _,show 1<2 by decide,e⟩
      · cases h
theorem JB0 (l:List Int) (p:Nat):∀ K,(cl l p K).Pairwise fun a b=>a≠b
 |0=>List.Pairwise.nil
 |K+1=>by
  unfold cl
  rw[List.pairwise_append]
  refine⟨JB0 l p K,?_,fun a ha b hb e=>?_⟩
  · split
    · exact List.pairwise_singleton ..
    · split
      · exact List.pairwise_singleton ..
      · exact List.Pairwise.nil
  · have h1:=(KY3 l p K a ha).1
    split at hb
    · obtain rfl:=List.mem_singleton.1 hb
      rw[e]at h1;exact Nat.lt_irrefl _ h1
    · split at hb
      · obtain rfl:=List.mem_singleton.1 hb
        rw[e]at h1;exact Nat.lt_irrefl _ h1
      · cases hb
theorem Zu5 (G : Nat → Int) (b : Nat) (W : List (Nat × Nat)) (hW : W.Pairwise fun a b => a ≠ b) (h2 : ∀ q ∈ W, q.2 < 2) (k s : Nat) (hs : s < 2) : ∀ i, i ≤ W.length →
    ((∀ q,q<i->W.getD q (0,0)≠(k,s))->Qu9 G b W i (4*k+s)=G (4*k+s)/\Qu9 G b W i (4*k+2+s)=G (4*k+2+s))/\
    (∀ q,q<i->W.getD q (0,0)=(k,s)->Qu9 G b W i (4*k+s)=((b+q+1:Nat):Int)/\Qu9 G b W i (4*k+2+s)=((b+(q+1)%W.length+1:Nat):Int))
 |0,_=>⟨fun _=>by rw[Xv0];exact⟨rfl,rfl⟩,fun q hq=>by omega⟩
 |i+1,hi=>by
  obtain⟨a1,a2⟩:=Zu5 G b W hW h2 k s hs i (by omega)
  have hm:W.getD i (0,0)∈W:=by
   rw[List.getD_eq_getElem?_getD,List.getElem?_eq_getElem (by omega)]
   exact List.getElem_mem _
  have h2i:=h2 _ hm
  have e:=Xv1 G b W i (by omega)
  have dist:∀ q,q<i->W.getD q (0,0)≠W.getD i (0,0):=fun q hq=>by
   have:=(List.pairwise_iff_getElem.1 hW) q i (by omega) (by omega) hq
   rw[List.getD_eq_getElem?_getD,List.getD_eq_getElem?_getD,List.getElem?_eq_getElem (by omega),List.getElem?_eq_getElem (by omega)]
   exact this
  rw[e]
  generalize Qu9 G b W i=N at*
  generalize hx:W.getD i (0,0)=x at*
  obtain⟨x1,x2⟩:=x
  simp only at h2i
  unfold up
  simp only
  constructor
  · intro hne
    obtain⟨b1,b2⟩:=a1 fun q hq=>hne q (by omega)
    have h3:=hne i (by omega)
    rw[hx]at h3
    have h4:¬ (x1=k/\x2=s):=fun z=>h3 (by rw[z.1,z.2])
    rw[if_neg (by omega),if_neg (by omega),if_neg (by omega),if_neg (by omega)]
    exact⟨b1,b2⟩
  · intro q hq hqe
    by_cases e2:q=i
    · subst e2
      rw[hx]at hqe
      obtain⟨rfl,rfl⟩:=Prod.mk.inj hqe
      rw[if_neg (by omega),if_pos rfl,if_pos rfl]
      exact⟨rfl,rfl⟩
    · have hd:=dist q (by omega)
      rw[hqe]at hd
      have h4:¬ (x1=k/\x2=s):=fun z=>hd (by rw[z.1,z.2])
      rw[if_neg (by omega),if_neg (by omega),if_neg (by omega),if_neg (by omega)]
      exact a2 q (by omega) hqe
def wall (l:List Int) (L:List (List Nat)):List (Nat×Nat):=L.flatMap (wk l)
theorem XH5 (l:List Int):∀ (j:Nat) (L:List (List Nat)),j<=L.length->(cF l (L.take j)).2.1=(wall l (L.take j)).length
 |0,_,_=>rfl
 |j+1,L,h=>by
  rw[List.take_succ_eq_append_getElem (by omega),XQ4]
  show(cF l (L.take j)).2.1+(wk l L[j]).length=_
  rw[XH5 l j L (by omega)]
  unfold wall
  rw[List.flatMap_append,List.length_append]
  simp
theorem XY4 (l:List Int) (L:List (List Nat)) {j:Nat} (h:j<L.length):wall l L=wall l (L.take j)++(wk l (L.getD j [])++wall l (L.drop (j+1))):=by
 have e:L=L.take j++(L.getD j []::L.drop (j+1)):=by
  rw[List.getD_eq_getElem?_getD,List.getElem?_eq_getElem h]
  show L=L.take j++(L[j]::L.drop (j+1))
  rw[<-List.drop_eq_getElem_cons h,List.take_append_drop]
 conv=>lhs;rw[e]
 unfold wall
 rw[List.flatMap_append,List.flatMap_cons]
theorem XF8 (l:List Int) (L:List (List Nat)) {j q:Nat} (h:j<L.length) (hq:q<(wk l (L.getD j [])).length):(cF l (L.take j)).2.1+q<(wall l L).length/\(wall l L).getD ((cF l (L.take j)).2.1+q) (0,0)=(wk l (L.getD j [])).getD q (0,0):=by
 have e:=XY4 l L h
 rw[XH5 l j L (by omega),e]
 refine⟨by rw[List.length_append,List.length_append];omega,?_⟩
 rw[List.getD_eq_getElem?_getD,List.getElem?_append_right (by omega),show(wall l (L.take j)).length+q-(wall l (L.take j)).length=q by omega,List.getElem?_append_left hq,<-List.getD_eq_getElem?_getD]
theorem Qv7 (l:List Int) (L:List (List Nat)) {i j:Nat} (h:i<j) (hj:j<=L.length):(cF l (L.take i)).2.1+(wk l (L.getD i [])).length<=(cF l (L.take j)).2.1:=by
 induction j with
 |zero=>omega
 |succ j ih=>
  have e:(cF l (L.take (j+1))).2.1=(cF l (L.take j)).2.1+(wk l (L.getD j [])).length:=by
   rw[List.take_succ_eq_append_getElem (by omega),XQ4,List.getD_eq_getElem?_getD,List.getElem?_eq_getElem (by omega)]
   rfl
  by_cases q:i=j
  · rw[e,q];exact Nat.le_refl _
  · have:=ih (by omega) (by omega)
    omega
theorem JB2 (l : List Int) (L : List (List Nat)) (hn : (wall l L).Pairwise fun a b => a ≠ b) (h2 : ∀ r ∈ L, ∀ q ∈ wk l r, q.2 < 2) : ∀ t, t ≤ L.length → ∀ j, j < t → ∀ q, q < (wk l (L.getD j [])).length →
    (cF l (L.take t)).1 (4*((wk l (L.getD j [])).getD q (0,0)).1+((wk l (L.getD j [])).getD q (0,0)).2)=(((cF l (L.take j)).2.1+q+1:Nat):Int)/\
    (cF l (L.take t)).1 (4*((wk l (L.getD j [])).getD q (0,0)).1+2+((wk l (L.getD j [])).getD q (0,0)).2)=(((cF l (L.take j)).2.1+(q+1)%(wk l (L.getD j [])).length+1:Nat):Int)
 |0,_,_,hj,_,_=>by omega
 |t+1,ht,j,hj,q,hq=>by
  have eT:L.getD t []=L[t]:=by rw[List.getD_eq_getElem?_getD,List.getElem?_eq_getElem (by omega)];rfl
  have hnt:(wk l L[t]).Pairwise fun a b=>a≠b:=by
   rw[XY4 l L (show t<L.length by omega),List.pairwise_append]at hn
   have:=(List.pairwise_append.1 hn.2.1).1
   rw[eT]at this
   exact this
  have h2t:=h2 L[t] (List.getElem_mem _)
  have hmq:(wk l (L.getD j [])).getD q (0,0)∈wk l (L.getD j []):=Qj8 _ _ hq
  have h2q:((wk l (L.getD j [])).getD q (0,0)).2<2:=by
   refine h2 (L.getD j []) ?_ _ hmq
   rw[List.getD_eq_getElem?_getD,List.getElem?_eq_getElem (by omega)]
   exact List.getElem_mem _
  rw[List.take_succ_eq_append_getElem (by omega),XQ4]
  show nG (cF l (L.take t)).1 (cF l (L.take t)).2.1 (wk l L[t]) _=_/\nG (cF l (L.take t)).1 (cF l (L.take t)).2.1 (wk l L[t]) _=_
  rw[<-ZW3]
  have key:=Zu5 (cF l (L.take t)).1 (cF l (L.take t)).2.1 (wk l L[t]) hnt h2t ((wk l (L.getD j [])).getD q (0,0)).1 ((wk l (L.getD j [])).getD q (0,0)).2 h2q (wk l L[t]).length (Nat.le_refl _)
  by_cases e:j=t
  · subst e
    rw[eT]at hq ⊢
    rw[eT]at key
    exact key.2 q hq rfl
  · have ih:=JB2 l L hn h2 t (by omega) j (by omega) q hq
    rw[(key.1 ?_).1,(key.1 ?_).2]
    · exact ih
    all_goals
     intro q' hq' he
     have a1:=XF8 l L (show j<L.length by omega) hq
     have a2:=XF8 l L (show t<L.length by omega) (by rw[eT];exact hq')
     have mo:=Qv7 l L (show j<t by omega) (by omega)
     have:=(List.pairwise_iff_getElem.1 hn) _ _ a1.1 a2.1 (by omega)
     apply this
     have b1:=a1.2
     have b2:=a2.2
     have b3:(wk l (L.getD t [])).getD q' (0,0)=(wk l (L.getD j [])).getD q (0,0):=by rw[eT,he]
     rw[XW9 _ _ a1.1]at b1
     have b4:=b2.trans b3
     rw[XW9 _ _ a2.1]at b4
     exact b1.trans b4.symm
end Go.Proofs.YtjcagkgpbcdghaaDoor
/- Plain mathematics: planar, told by all rings and all pieces at once. -/
namespace Go.Proofs.YtjcagkgpbcdghaaDoor
def sN (h:Nat->Nat):Nat->Nat
 |0=>0
 |n+1=>sN h n+h n
theorem KD0 {a b:Nat->Nat} {n:Nat} (e:∀ p,p<n->a p=b p):sN a n=sN b n:=by
 induction n with
 |zero=>rfl
 |succ n ih=>show sN a n+a n=sN b n+b n;rw[ih fun p hp=>e p (by omega),e n (by omega)]
theorem Kb1 {a b:Nat->Nat} {n:Nat} (e:∀ p,p<n->a p<=b p):sN a n<=sN b n:=by
 induction n with
 |zero=>exact Nat.le_refl _
 |succ n ih=>have:=ih fun p hp=>e p (by omega);have:=e n (by omega);show sN a n+a n<=sN b n+b n;omega
theorem Jq5 {a b:Nat->Nat} {n:Nat} (e:∀ p,p<n->a p<=b p) (h:sN b n<=sN a n):∀ p,p<n->a p=b p:=by
 induction n with
 |zero=>intro p hp;omega
 |succ n ih=>
  have h1:=Kb1 (n:=n) fun p hp=>e p (by omega)
  have h2:=e n (by omega)
  have h3:sN b n+b n<=sN a n+a n:=h
  intro p hp
  by_cases q:p=n
  · rw[q];omega
  · exact ih (fun p hp=>e p (by omega)) (by omega) p (by omega)
theorem Kk9 (a b:Nat->Nat) (n:Nat):sN (fun p=>a p+b p) n=sN a n+sN b n:=by
 induction n with
 |zero=>rfl
 |succ n ih=>show sN (fun p=>a p+b p) n+(a n+b n)=sN a n+a n+(sN b n+b n);omega
theorem Zv9 {a:Nat->Nat} {n:Nat} (h:∀ p,p<n->a p=0):sN a n=0:=by
 induction n with
 |zero=>rfl
 |succ n ih=>show sN a n+a n=0;rw[ih fun p hp=>h p (by omega),h n (by omega)]
theorem Kf8 {n q:Nat} (hq:q<n):sN (fun p=>if q=p then 1 else 0) n=1:=by
 induction n with
 |zero=>omega
 |succ n ih=>
  show sN (fun p=>if q=p then 1 else 0) n+(if q=n then 1 else 0)=1
  by_cases e:q=n
  · rw[if_pos e,Zv9 fun p hp=>if_neg (by omega)]
  · rw[if_neg e,ih (by omega)]
theorem Zv3 (W:Nat->Nat) (n:Nat):∀ G:List Nat,(∀ g,g∈G->W g<n)->sN (fun p=>G.countP fun g=>decide (W g=p)) n=G.length:=by
 intro G
 induction G with
 |nil=>intro _;exact Zv9 fun _ _=>rfl
 |cons g G ih=>
  intro h
  have e:sN (fun p=>(g::G).countP fun g=>decide (W g=p)) n=sN (fun p=>(G.countP fun g=>decide (W g=p))+if W g=p then 1 else 0) n:=KD0 fun p _=>by
   rw[List.countP_cons]
   by_cases q:W g=p
   · rw[if_pos (decide_eq_true q),if_pos q]
   · rw[if_neg (by simpa using q),if_neg q]
  rw[e,Kk9,ih fun x hx=>h x (List.mem_cons_of_mem _ hx),Kf8 (h g (List.mem_cons_self ..))]
  rfl
theorem JD9 (P:Nat->Bool) (n:Nat):sN (fun p=>if P p=true then 2 else 0) n=2*(List.range n).countP P:=by
 induction n with
 |zero=>rfl
 |succ n ih=>
  show sN (fun p=>if P p=true then 2 else 0) n+(if P n=true then 2 else 0)=_
  rw[ih,List.range_succ,List.countP_append,List.countP_singleton]
  split<;>omega
def pcN (C:List Cr):Nat:=kN (Qz0 C) C.length
theorem JG1 (C:List Cr):pcN C=(List.range C.length).countP fun p=>decide ((Qx8 C).getD p 0=p):=by
 unfold pcN kN
 rw[Qy1]
 refine List.countP_congr fun v _=>?_
 rw[Bool.and_true]
 rfl
theorem XB4 {C:List Cr} {loops:Int} (hm:QX3 C loops=true):(QX0 C).length<=C.length+2*pcN C/\(QZ1 C=true↔C.length+2*pcN C<=(QX0 C).length):=by
 have hW:=QU1 hm
 have s1:=Zv3 (fun g=>(Qx8 C).getD g 0) C.length (QX6 C) fun g hg=>hW.lt (XK4 hm g hg)
 have s2:=Zv3 (fun g=>(Qx8 C).getD g 0) C.length (List.range C.length) fun g hg=>hW.lt (List.mem_range.1 hg)
 have s3:=JD9 (fun p=>decide ((Qx8 C).getD p 0=p)) C.length
 rw[QG6]at s1
 rw[List.length_range]at s2
 rw[<-JG1]at s3
 have s4:=Kk9 (fun p=>(List.range C.length).countP fun g=>decide ((Qx8 C).getD g 0=p)) (fun p=>if decide ((Qx8 C).getD p 0=p)=true then 2 else 0) C.length
 rw[s2,s3]at s4
 have hle:∀ p,p<C.length->((QX6 C).countP fun g=>decide ((Qx8 C).getD g 0=p))<=((List.range C.length).countP fun g=>decide ((Qx8 C).getD g 0=p))+if decide ((Qx8 C).getD p 0=p)=true then 2 else 0:=fun p hp=>by
  by_cases hr:(Qx8 C).getD p 0=p
  · have:=(ZX3 hm hp hr).1
    unfold exN at this
    rw[if_pos (decide_eq_true hr)]
    omega
  · have h0 : ((QX6 C).countP fun g => decide ((Qx8 C).getD g 0 = p)) = 0 := List.countP_eq_zero.2 fun g hg q => hr (by
      have q:=of_decide_eq_true q
      have hg:=XK4 hm g hg
      have:=(hW.same (hW.lt hg) hg).2 (hW.2 g hg).1.symm
      rw[q]at this
      exact this)
    rw[h0]
    exact Nat.zero_le _
 have hsum:=Kb1 hle
 rw[s1,s4]at hsum
 refine⟨hsum,?_⟩
 rw[Qk6]
 constructor
 · intro h
   rw[<-s1,<-s4]
   refine Kb1 fun p hp=>?_
   by_cases hr:(Qx8 C).getD p 0=p
   · have:=h p hp hr
     unfold exN at this
     rw[if_pos (decide_eq_true hr)]
     omega
   · rw[if_neg (by simpa using hr)]
     have h0 : ((List.range C.length).countP fun g => decide ((Qx8 C).getD g 0 = p)) = 0 := List.countP_eq_zero.2 fun g hg q => hr (by
      have q:=of_decide_eq_true q
      have hg:=List.mem_range.1 hg
      have:=(hW.same (hW.lt hg) hg).2 (hW.2 g hg).1.symm
      rw[q]at this
      exact this)
     rw[h0]
     exact Nat.zero_le _
 · intro h p hp hr
   rw[<-s1,<-s4]at h
   have:=Jq5 hle h p hp
   rw[if_pos (decide_eq_true hr)]at this
   unfold exN
   omega
theorem ZZ9 {E F:List (Nat×Nat)} {M n:Nat} (hE:∀ e,e∈E->e.1<M/\e.2<M) (hF:∀ e,e∈F->e.1<n/\e.2<n) (m:Nat->Nat) (hl:∀ v,v<n->m v<M) (h:∀ u v,u<n->v<n->Con E (m u) (m v)->Con F u v):kN F n<=kN E M:=by
 have lE:=QK8 hE M (Nat.le_refl _)
 have lF:=QK8 hF n (Nat.le_refl _)
 unfold kN
 rw[Qy1,Qy1,List.countP_eq_length_filter,List.countP_eq_length_filter,<-List.length_map (f:=fun v=>(Qj3 (List.range M) E M).getD (m v) 0)]
 have hnd:(((List.range n).filter fun v=>decide ((Qj3 (List.range n) F n).getD v 0=v)&&true).map fun v=>(Qj3 (List.range M) E M).getD (m v) 0).Nodup:=by
  unfold List.Nodup
  rw[List.pairwise_map]
  refine List.Pairwise.imp_of_mem ?_ (List.Pairwise.filter _ List.nodup_range)
  intro u v hu hv huv e
  obtain⟨hu,ru⟩:=List.mem_filter.1 hu
  obtain⟨hv,rv⟩:=List.mem_filter.1 hv
  have hu:=List.mem_range.1 hu
  have hv:=List.mem_range.1 hv
  rw[Bool.and_true,decide_eq_true_eq]at ru rv
  have c:=h u v hu hv ((lE.same (hl u hu) (hl v hv)).1 e)
  have:=(lF.same hu hv).2 c
  rw[ru,rv]at this
  exact huv this
 refine hnd.length_le_of_subset fun x hx=>?_
 obtain⟨v,hv,rfl⟩:=List.mem_map.1 hx
 have hv:=List.mem_range.1 (List.mem_filter.1 hv).1
 refine List.mem_filter.2 ⟨List.mem_range.2 (lE.lt (hl v hv)),?_⟩
 rw[Bool.and_true,decide_eq_true_eq]
 exact(lE.same (lE.lt (hl v hv)) (hl v hv)).2 (lE.2 _ (hl v hv)).1.symm
end Go.Proofs.YtjcagkgpbcdghaaDoor
/- Plain mathematics: a curl, or a face of two, of a diagram, passed straight. -/
namespace Go.Proofs.YtjcagkgpbcdghaaDoor
theorem Ku0 {C:List Cr} {loops:Int} (hm:QX3 C loops=true):Bij (up0 (fd C)) (4*C.length+1):=Xg5 (QJ8 hm) fun a b h1 h2 h3 h4 e=>XQ2 hm a b h1 h2 h3 h4 e
end Go.Proofs.YtjcagkgpbcdghaaDoor
/- Plain mathematics: what a planar diagram's rings and pieces are where some crossings are passed straight. -/
namespace Go.Proofs.YtjcagkgpbcdghaaDoor
theorem Zy5 {n M:Nat} {P Q:Nat->Bool} (m:Nat->Nat) (hl:∀ v,v<n->P v=true->m v<M/\Q (m v)=true) (hi:∀ u v,u<n->v<n->P u=true->P v=true->m u=m v->u=v):(List.range n).countP P<=(List.range M).countP Q:=by
 rw[List.countP_eq_length_filter,List.countP_eq_length_filter,<-List.length_map (f:=m)]
 have hnd:(((List.range n).filter P).map m).Nodup:=by
  unfold List.Nodup
  rw[List.pairwise_map]
  refine List.Pairwise.imp_of_mem ?_ (List.Pairwise.filter _ List.nodup_range)
  intro u v hu hv huv e
  obtain⟨hu,ru⟩:=List.mem_filter.1 hu
  obtain⟨hv,rv⟩:=List.mem_filter.1 hv
  exact huv (hi u v (List.mem_range.1 hu) (List.mem_range.1 hv) ru rv e)
 refine hnd.length_le_of_subset fun x hx=>?_
 obtain⟨v,hv,rfl⟩:=List.mem_map.1 hx
 obtain⟨hv,rv⟩:=List.mem_filter.1 hv
 have:=hl v (List.mem_range.1 hv) rv
 exact List.mem_filter.2 ⟨List.mem_range.2 this.1,this.2⟩
theorem Kq5 (P:Nat->Bool) (m:Nat) (h:P 0=true):(List.range (m+1)).countP P=(List.range (m+1)).countP (fun v=>P v&&decide (1<=v))+1:=by
 rw[Xg1 (fun v=>P v&&decide (1<=v)) m (by simp),List.range_succ_eq_map,List.countP_cons,List.countP_map,if_pos h]
 congr 1
 refine List.countP_congr fun v _=>?_
 show P (v+1)=true↔(P (v+1)&&decide (1<=v+1))=true
 rw[decide_eq_true (by omega),Bool.and_true]
theorem JF2 {E:List (Nat×Nat)} {W:List Nat} {m:Nat} (h:Least E (m+1) W):rq W (fun _=>true) (m+1)=rq W (fun v=>decide (1<=v)) (m+1)+1:=by
 rw[Qy1,Qy1]
 have h0:=h.le (v:=0) (by omega)
 rw[Kq5 _ m (by rw[Bool.and_true];exact decide_eq_true (by omega))]
 congr 1
 refine List.countP_congr fun v _=>?_
 rw[Bool.and_true]
theorem JA4 {C:List Cr} {loops:Int} (hm:QX3 C loops=true):cyA (up0 (fd C)) (4*C.length+1)=(QX0 C).length+1:=by
 have h:=Xz6 (QJ8 hm) (fun a b h1 h2 h3 h4 e=>XQ2 hm a b h1 h2 h3 h4 e) (fun v=>decide (1<=v)) (by simp)
 have hb:=(Qk9 (QJ8 hm) (fun a b h1 h2 h3 h4 e=>XQ2 hm a b h1 h2 h3 h4 e) (4*C.length) (Nat.le_refl _)).1
 have e:(QQ8 (fd C) (4*C.length) (4*C.length)).1.countP (fun l=>decide (1<=l.getD 0 0))=(QX0 C).length:=List.countP_eq_length.2 fun l hl=>decide_eq_true (hb l hl).1
 unfold cyA cyN
 rw[JF2 (QG3 (Ku0 hm).lt),<-e,h]
 rfl
end Go.Proofs.YtjcagkgpbcdghaaDoor
/- How many classes there are: one edge more, two tables of edges that tell the same, rows of pairs. -/
namespace Go.Proofs.YtjcagkgpbcdghaaDoor
theorem con_nil {u v:Nat}:Con [] u v↔u=v:=⟨fun h=>h (fun z=>u=z) (fun e he=>by cases he) rfl,fun h=>h▸Con.refl _ _⟩
theorem ZY0 {E:List (Nat×Nat)} {x y u v:Nat}:Con (E++[(x,y)]) u v↔Con E u v∨(Con E u x/\Con E y v)∨(Con E u y/\Con E x v):=by
 have up:∀ {a b:Nat},Con E a b->Con (E++[(x,y)]) a b:=fun h S hS ha=>h S (fun e he=>hS e (List.mem_append_left _ he)) ha
 have xy:Con (E++[(x,y)]) x y:=Con.edge (List.mem_append_right _ (.head _))
 constructor
 · intro h
   refine h (fun z=>Con E u z∨(Con E u x/\Con E y z)∨(Con E u y/\Con E x z)) (fun e he=>?_) (Or.inl (Con.refl _ _))
   rcases List.mem_append.1 he with q|q
   · have c:=Con.edge q
     constructor
     · rintro(g|⟨g1,g2⟩|⟨g1,g2⟩)
       · exact Or.inl (g.trans c)
       · exact Or.inr (Or.inl ⟨g1,g2.trans c⟩)
       · exact Or.inr (Or.inr ⟨g1,g2.trans c⟩)
     · rintro(g|⟨g1,g2⟩|⟨g1,g2⟩)
       · exact Or.inl (g.trans c.symm)
       · exact Or.inr (Or.inl ⟨g1,g2.trans c.symm⟩)
       · exact Or.inr (Or.inr ⟨g1,g2.trans c.symm⟩)
   · rw[List.mem_singleton.1 q]
     constructor
     · rintro(g|⟨g1,g2⟩|⟨g1,g2⟩)
       · exact Or.inr (Or.inl ⟨g,Con.refl _ _⟩)
       · exact Or.inr (Or.inl ⟨g1,Con.refl _ _⟩)
       · exact Or.inl g1
     · rintro(g|⟨g1,g2⟩|⟨g1,g2⟩)
       · exact Or.inr (Or.inr ⟨g,Con.refl _ _⟩)
       · exact Or.inl g1
       · exact Or.inr (Or.inr ⟨g1,Con.refl _ _⟩)
 · rintro(g|⟨g1,g2⟩|⟨g1,g2⟩)
   · exact up g
   · exact(up g1).trans (xy.trans (up g2))
   · exact(up g1).trans (xy.symm.trans (up g2))
def InE (E:List (Nat×Nat)) (M:Nat):Prop:=∀ e,e∈E->e.1<M/\e.2<M
theorem JH0 {E F:List (Nat×Nat)} {M:Nat} (hE:InE E M) (hF:InE F M) (h:∀ x y,Con E x y↔Con F x y):kN E M=kN F M:=
 Nat.le_antisymm (JY6 hF hE fun x y=>(h x y).2) (JY6 hE hF fun x y=>(h x y).1)
theorem XG8 {E:List (Nat×Nat)} {M a b:Nat} (hE:InE E M) (ha:a<M) (hb:b<M) (hn:¬ Con E a b):kN (E++[(a,b)]) M+1=kN E M:=by
 have lE:=QK8 hE M (Nat.le_refl _)
 have lm:=Qw6 lE a b ha hb hE
 have lF := QK8 (E := E ++ [(a, b)]) (n := M) (fun e he => by
  rcases List.mem_append.1 he with q|q
  · exact hE e q
  · rw[List.mem_singleton.1 q];exact⟨ha,hb⟩) M (Nat.le_refl _)
 have hne:(Qj3 (List.range M) E M).getD a 0≠(Qj3 (List.range M) E M).getD b 0:=fun e=>hn ((lE.same ha hb).1 e)
 have r:=Zz0 lE (fun _=>true) ha hb hne M (Nat.le_refl _)
 have h1:=lE.lt ha
 have h2:=lE.lt hb
 rw[if_pos ⟨by omega,rfl⟩]at r
 unfold kN
 rw[lF.eq lm]
 exact r
theorem QY9 {E F:List (Nat×Nat)} {φ:Nat->Nat} (h:∀ e,e∈E->Con F (φ e.1) (φ e.2)) {u v:Nat} (c:Con E u v):Con F (φ u) (φ v):=
 c (fun z=>Con F (φ u) (φ z)) (fun e he=>⟨fun q=>q.trans (h e he),fun q=>q.trans (h e he).symm⟩) (Con.refl _ _)
theorem XY0 {E F:List (Nat×Nat)} {M N:Nat} (hE:InE E M) (hF:InE F N) (φ ψ:Nat->Nat) (hφ:∀ u,u<M->φ u<N) (hψ:∀ v,v<N->ψ v<M) (e1:∀ e,e∈E->Con F (φ e.1) (φ e.2)) (e2:∀ e,e∈F->Con E (ψ e.1) (ψ e.2)) (b1:∀ v,v<N->Con F (φ (ψ v)) v) (b2:∀ u,u<M->Con E (ψ (φ u)) u):kN E M=kN F N:=
 Nat.le_antisymm (ZZ9 hF hE φ hφ fun u v hu hv c=>(b2 u hu).symm.trans ((QY9 e2 c).trans (b2 v hv)))
  (ZZ9 hE hF ψ hψ fun u v hu hv c=>(b1 u hu).symm.trans ((QY9 e1 c).trans (b1 v hv)))
theorem Kv8 (M:Nat):kN [] M=M:=by
 have l:=QK8 (E:=[]) (n:=M) (fun e he=>by cases he) M (Nat.le_refl _)
 unfold kN
 rw[Qy1,List.countP_eq_length.2,List.length_range]
 intro v hv
 have:=l.2 v (List.mem_range.1 hv)
 rw[Bool.and_true]
 exact decide_eq_true (con_nil.1 this.1).symm
theorem Zy2 {P:Nat->Nat×Nat} {M:Nat}:∀ i,(∀ k,k<i->(P k).1<M/\(P k).2<M)->(∀ u v,QD2 P i u=QD2 P i v↔Con ((List.range i).map P) u v)/\kN ((List.range i).map P) M+QF2 P i=M
 |0,_=>⟨fun u v=>con_nil.symm,Kv8 M⟩
 |i+1,h=>by
  obtain⟨i1,i2⟩:=Zy2 (P:=P) (M:=M) i fun k hk=>h k (by omega)
  have hi:=h i (by omega)
  have hE:InE ((List.range i).map P) M:=fun e he=>by
   obtain⟨k,hk,rfl⟩:=List.mem_map.1 he
   exact h k (by have:=List.mem_range.1 hk;omega)
  rw[List.range_succ,List.map_append,List.map_cons,List.map_nil,show P i=((P i).1,(P i).2) from rfl]
  constructor
  · intro u v
    rw[ZY0,<-i1,<-i1,<-i1,<-i1,<-i1]
    exact QY8 (QD2 P i) (P i).1 (P i).2 u v
  · show kN _ M+(QF2 P i+(if QD2 P i (P i).1=QD2 P i (P i).2 then 0 else 1))=M
    by_cases q:QD2 P i (P i).1=QD2 P i (P i).2
    · rw[if_pos q]
      have c:=(i1 _ _).1 q
      have e : kN ((List.range i).map P ++ [((P i).1, (P i).2)]) M = kN ((List.range i).map P) M := JH0 (fun e he => by
       rcases List.mem_append.1 he with g|g
       · exact hE e g
       · rw[List.mem_singleton.1 g];exact hi) hE fun x y=>by
       rw[ZY0]
       constructor
       · rintro(g|⟨g1,g2⟩|⟨g1,g2⟩)
         · exact g
         · exact g1.trans (c.trans g2)
         · exact g1.trans (c.symm.trans g2)
       · exact Or.inl
      rw[e];omega
    · rw[if_neg q]
      have e:=XG8 hE hi.1 hi.2 fun c=>q ((i1 _ _).2 c)
      omega
end Go.Proofs.YtjcagkgpbcdghaaDoor
/- The walks of ref.level and ref.OversOf. -/
namespace Go.Proofs.YtjcagkgpbcdghaaDoor
open Go.RowKit
def ovL (C:List Cr) (k:Nat):List Nat:=(List.range k).map fun i=>ovM C (i+1)
theorem Qy2 (C:List Cr) (k:Nat):(ovL C k).length=k:=by simp[ovL]
theorem KG3 (C:List Cr) (i:Nat) (hi:i<C.length):(ovE C).take (i+1)=(ovE C).take i++[((C.getD i Cr.none).b.toNat,(C.getD i Cr.none).d.toNat)]:=by
 rw[List.take_add_one]
 congr 1
 simp[ovE,hi,List.getD_eq_getElem?_getD]
theorem Kh5 (C:List Cr):(ovE C).take C.length=ovE C:=List.take_of_length_le (by simp[ovE])
end Go.Proofs.YtjcagkgpbcdghaaDoor
/- Alexander's numbering: the faces of a planar diagram have numbers, one more on one side of an arc than on the other. -/
namespace Go.Proofs.YtjcagkgpbcdghaaDoor
theorem Xq1 {C:List Cr} {loops:Int} (hm:QX3 C loops=true) {k0 k:Nat} (hk0:k0<C.length) (hk:k<C.length) (hc:Con (Qz0 C) k0 k) (s0 s:Nat) (hs0:s0<4) (hs:s<4):Con (Qj4 (dfE C) (fun _=>true) (2*C.length)) (cor C k0 s0) (cor C k s):=by
 intro T hT h0
 have hedge:∀ a,1<=a->a<=2*C.length->∀ p q,T (fo C (mkD a p))->T (fo C (mkD a q)):=fun a ha1 ha2 p q=>by
  have he:=hT _ (incl_mem.2 ⟨a-1,by omega,rfl,rfl⟩:dfE C (a-1)∈_)
  unfold dfE at he
  rw[show a-1+1=a by omega]at he
  cases p<;>cases q<;>simp only at he ⊢
  · exact id
  · exact he.2
  · exact he.1
  · exact id
 have hturn:∀ k s,k<C.length->s<4->(T (cor C k s)↔T (cor C k ((s+3)%4))):=fun k s hk hs=>by
  have h:=QV8 hm k s hk hs
  rw[<-Qq6 hm k s hk hs]
  unfold cor
  exact⟨hedge _ h.2.2.1 h.2.2.2 _ _,hedge _ h.2.2.1 h.2.2.2 _ _⟩
 have hall:∀ k,k<C.length->(∀ s,s<4->(T (cor C k s)↔T (cor C k 0))):=fun k hk s hs=>by
  have t1:=hturn k 1 hk (by omega)
  have t2:=hturn k 2 hk (by omega)
  have t3:=hturn k 3 hk (by omega)
  simp only[Nat.reduceAdd,Nat.reduceMod]at t1 t2 t3
  have:s=0∨s=1∨s=2∨s=3:=by omega
  rcases this with rfl|rfl|rfl|rfl
  · exact Iff.rfl
  · exact t1
  · exact t2.trans t1
  · exact t3.trans (t2.trans t1)
 have key : (fun c => c < C.length → T (cor C c 0)) k := hc (fun c => c < C.length → T (cor C c 0)) (fun e he => by
  obtain⟨i,hi,rfl⟩:=List.mem_map.1 he
  have hi2:=List.mem_range.1 hi
  have u:=QJ3 hm (i+1) true (by omega) (by omega)
  have v:=QJ3 hm (i+1) false (by omega) (by omega)
  have eu:fo C (mkD (i+1) true)=cor C (enC C (i+1) true) (enS C (i+1) true):=by
   unfold cor aAt
   rw[u.2.2.2.1,u.2.2.2.2]
   rfl
  have ev:fo C (mkD (i+1) false)=cor C (enC C (i+1) false) (enS C (i+1) false):=by
   unfold cor aAt
   rw[v.2.2.2.1,v.2.2.2.2]
   rfl
  have iu:=hall _ u.2.1 _ u.2.2.1
  have iv:=hall _ v.2.1 _ v.2.2.1
  rw[<-eu]at iu
  rw[<-ev]at iv
  have hx:=hedge (i+1) (by omega) (by omega)
  constructor
  · intro q _
    exact iv.1 (hx true false (iu.2 (q u.2.1)))
  · intro q _
    exact iu.1 (hx false true (iv.2 (q v.2.1)))) (fun _=>(hall k0 hk0 s0 hs0).1 h0)
 exact(hall k hk s hs).2 (key hk)
theorem JU9 {E:Nat->Nat×Nat} {n m:Nat} (hE:∀ i,i<m->(E i).1<n/\(E i).2<n):rt (cls E (fun _=>true) n m) n=kN (Qj4 E (fun _=>true) m) n:=by
 have hL:=QU8 (E:=E) (K:=fun _=>true) (n:=n) (m:=m) hE
 have hi:∀ e,e∈Qj4 E (fun _=>true) m->e.1<n/\e.2<n:=fun e he=>by
  obtain⟨i,h1,-,rfl⟩:=incl_mem.1 he
  exact hE i h1
 have e:cls E (fun _=>true) n m=Qj3 (List.range n) (Qj4 E (fun _=>true) m) n:=hL.eq (QK8 hi _ (Nat.le_refl _))
 unfold kN
 rw[<-e]
 generalize cls E (fun _=>true) n m=W
 have:∀ k,rt W k=rq W (fun _=>true) k:=fun k=>by
  induction k with
  |zero=>rfl
  |succ k ih=>simp only[rt,rq,ih,and_true]
 exact this n
theorem Xu6 {C : List Cr} {loops : Int} (hm : QX3 C loops = true) (hp : QZ1 C = true) (A : Nat → Bool)
    (hA:∀ k,k<C.length->xor (xor (A (aAt C k 0)) (A (aAt C k 1))) (xor (A (aAt C k 2)) (A (aAt C k 3)))=false):∃ g:Nat->Bool,∀ a,1<=a->a<=2*C.length->A a=sides C g a:=by
 have hE:∀ i,i<2*C.length->(arE C i).1<C.length/\(arE C i).2<C.length:=fun i hi=>⟨(QJ3 hm (i+1) true (by omega) (by omega)).2.1,(QJ3 hm (i+1) false (by omega) (by omega)).2.1⟩
 have hD:∀ i,i<2*C.length->(dfE C i).1<(QX0 C).length/\(dfE C i).2<(QX0 C).length:=fun i hi=>by
  have u:=XF5 (a:=i+1) (p:=true) (n:=C.length) (by omega) (by omega)
  have v:=XF5 (a:=i+1) (p:=false) (n:=C.length) (by omega) (by omega)
  exact⟨Kb8 _ u.1 u.2,Kb8 _ v.1 v.2⟩
 have hF:=(XB4 hm).2.1 hp
 have ea:Qj4 (arE C) (fun _=>true) (2*C.length)=Qz0 C:=ZU3
 have r1:rt (cls (arE C) (fun _=>true) C.length (2*C.length)) C.length=pcN C:=by
  rw[JU9 hE,ea];rfl
 have r2:rt (cls (dfE C) (fun _=>true) (QX0 C).length (2*C.length)) (QX0 C).length<=pcN C:=by
  rw[JU9 hD]
  have hf:∀ u,∃ k s,u<(QX0 C).length->k<C.length/\s<4/\u=cor C k s:=fun u=>by
   by_cases hu:u<(QX0 C).length
   · obtain⟨k,s,hk,hs,e⟩:=KA9 hm u hu
     exact⟨k,s,fun _=>⟨hk,hs,e⟩⟩
   · exact⟨0,0,fun h=>absurd h hu⟩
  refine ZZ9 (fun e he => by
      obtain⟨i,hi,rfl⟩:=List.mem_map.1 he
      exact hE i (List.mem_range.1 hi)) (fun e he=>by
      obtain⟨i,h1,-,rfl⟩:=incl_mem.1 he
      exact hD i h1) (fun u=>Classical.choose (hf u)) (fun v hv=>?_) (fun u v hu hv hc=>?_)
  · obtain⟨s,h⟩:=Classical.choose_spec (hf v)
    exact(h hv).1
  · obtain⟨s,h⟩:=Classical.choose_spec (hf u)
    obtain⟨s',h'⟩:=Classical.choose_spec (hf v)
    obtain⟨a1,a2,a3⟩:=h hu
    obtain⟨b1,b2,b3⟩:=h' hv
    have:=Xq1 hm a1 b1 hc s s' a2 b2
    rw[<-a3,<-b3]at this
    exact this
 obtain ⟨g, hg⟩ := Xh4 hE hD (fun S g => ZC6 hm S g) (by omega) (fun i => A (i + 1)) (fun S => by
  refine Eq.trans (QH6 fun i _=>Bool.and_comm _ _) ((ZK6 hm S A).trans (XQ5 fun k hk=>?_))
  rw[hA k hk,Bool.and_false])
 refine⟨g,fun a ha1 ha2=>?_⟩
 have:=hg (a-1) (by omega)
 rw[show a-1+1=a by omega]at this
 rw[this]
 unfold sides dfE
 rw[show a-1+1=a by omega]
def JW6 (C:List Cr) (k:Nat):Nat×Nat:=(aAt C k 0,if(C.getD k Cr.none).plus=true then aAt C k 1 else aAt C k 3)
def JW5 (C:List Cr) (k:Nat):Nat×Nat:=(aAt C k 2,if(C.getD k Cr.none).plus=true then aAt C k 3 else aAt C k 1)
def sfL (C:List Cr):List (Nat×Nat):=(List.range C.length).map (JW6 C)++(List.range C.length).map (JW5 C)
theorem KV0 {C:List Cr} {loops:Int} (hm:QX3 C loops=true) (hp:QZ1 C=true):∃ f:Nat->Int,(∀ a,1<=a->a<=2*C.length->f (fo C (mkD a false))=f (fo C (mkD a true))+1)/\∀ x,-(2*C.length+1:Nat)<=f x/\f x<=(2*C.length+1:Nat):=by
 have hE:∀ e,e∈sfL C->e.1<2*C.length+1/\e.2<2*C.length+1:=fun e he=>by
  have r:∀ k s,k<C.length->s<4->aAt C k s<2*C.length+1:=fun k s hk hs=>by have:=QV8 hm k s hk hs;omega
  rcases List.mem_append.1 he with h|h
  · obtain⟨k,hk,rfl⟩:=List.mem_map.1 h
    have hk:=List.mem_range.1 hk
    unfold JW6
    refine⟨r k 0 hk (by omega),?_⟩
    simp only
    split
    · exact r k 1 hk (by omega)
    · exact r k 3 hk (by omega)
  · obtain⟨k,hk,rfl⟩:=List.mem_map.1 h
    have hk:=List.mem_range.1 hk
    unfold JW5
    refine⟨r k 2 hk (by omega),?_⟩
    simp only
    split
    · exact r k 3 hk (by omega)
    · exact r k 1 hk (by omega)
 have hL:Least (sfL C) (2*C.length+1) (Qj3 (List.range (2*C.length+1)) (sfL C) (2*C.length+1)):=QK8 hE _ (Nat.le_refl _)
 generalize Qj3 (List.range (2*C.length+1)) (sfL C) (2*C.length+1)=W at hL
 have hsame:∀ e,e∈sfL C->W.getD e.1 0=W.getD e.2 0:=fun e he=>(hL.same (hE e he).1 (hE e he).2).2 (Con.edge (by cases e;exact he))
 have m1:∀ k,k<C.length->JW6 C k∈sfL C:=fun k hk=>List.mem_append_left _ (List.mem_map.2 ⟨k,List.mem_range.2 hk,rfl⟩)
 have m2:∀ k,k<C.length->JW5 C k∈sfL C:=fun k hk=>List.mem_append_right _ (List.mem_map.2 ⟨k,List.mem_range.2 hk,rfl⟩)
 have hg:∀ c,∃ g:Nat->Bool,∀ a,1<=a->a<=2*C.length->decide (W.getD a 0=c)=sides C g a:=fun c=>Xu6 hm hp (fun a=>decide (W.getD a 0=c)) fun k hk=>by
  have e1:=hsame _ (m1 k hk)
  have e2:=hsame _ (m2 k hk)
  unfold JW6 at e1
  unfold JW5 at e2
  simp only at e1 e2 ⊢
  cases hpl:(C.getD k Cr.none).plus
  · rw[hpl]at e1 e2
    simp only[Bool.false_eq_true,if_false]at e1 e2
    rw[e1,e2]
    cases decide (W.getD (aAt C k 3) 0=c)<;>cases decide (W.getD (aAt C k 1) 0=c)<;>rfl
  · rw[hpl]at e1 e2
    simp only[if_true]at e1 e2
    rw[e1,e2]
    cases decide (W.getD (aAt C k 1) 0=c)<;>cases decide (W.getD (aAt C k 3) 0=c)<;>rfl
 let G:Nat->Nat->Bool:=fun c=>Classical.choose (hg c)
 have hG:∀ c a,1<=a->a<=2*C.length->decide (W.getD a 0=c)=sides C (G c) a:=fun c=>Classical.choose_spec (hg c)
 -- along a circle the side is the same
 have along:∀ c a b,Con (sfL C) a b->1<=a->a<=2*C.length->1<=b->b<=2*C.length->W.getD a 0=c->W.getD b 0=c->(G c (fo C (mkD a false))=true↔G c (fo C (mkD b false))=true):=fun c a b hc ha1 ha2 hb1 hb2 wa wb=>by
  have closed:Closed (sfL C) (fun z=>W.getD z 0=c/\G c (fo C (mkD z false))=true):=fun e he=>by
   have hw:=hsame e he
   have key:W.getD e.1 0=c->(G c (fo C (mkD e.1 false))=true↔G c (fo C (mkD e.2 false))=true):=fun hw1=>by
    have hw2:W.getD e.2 0=c:=by rw[<-hw];exact hw1
    have flip:∀ z,1<=z->z<=2*C.length->W.getD z 0=c->(G c (fo C (mkD z false))=!G c (fo C (mkD z true))):=fun z h1 h2 h3=>by
     have:=hG c z h1 h2
     rw[decide_eq_true h3]at this
     unfold sides at this
     cases q1:G c (fo C (mkD z true))<;>cases q2:G c (fo C (mkD z false))<;>rw[q1,q2]at this<;>simp at this ⊢
    have two:∀ k s t,k<C.length->s<4->t<4->e=(aAt C k s,aAt C k t)->(fo C (mkD (aAt C k s) false)=fo C (mkD (aAt C k t) false)∨fo C (mkD (aAt C k s) true)=fo C (mkD (aAt C k t) true))->(G c (fo C (mkD e.1 false))=true↔G c (fo C (mkD e.2 false))=true):=fun k s t hk hs ht ee hor=>by
     have r1:=QV8 hm k s hk hs
     have r2:=QV8 hm k t hk ht
     rw[ee]at hw1 hw2 ⊢
     simp only at hw1 hw2 ⊢
     rcases hor with h|h
     · rw[h]
     · rw[flip _ r1.2.2.1 r1.2.2.2 hw1,flip _ r2.2.2.1 r2.2.2.2 hw2,h]
    have oF:∀ k s,k<C.length->s<4->(C.getD k Cr.none).comes s=false->fo C (mkD (aAt C k s) false)=cor C k s/\fo C (mkD (aAt C k s) true)=cor C k ((s+3)%4):=fun k s hk hs hcm=>by
     have h:=Qq6 hm k s hk hs
     rw[hcm]at h
     refine⟨?_,h⟩
     unfold cor
     rw[hcm]
    have iF:∀ k s,k<C.length->s<4->(C.getD k Cr.none).comes s=true->fo C (mkD (aAt C k s) true)=cor C k s/\fo C (mkD (aAt C k s) false)=cor C k ((s+3)%4):=fun k s hk hs hcm=>by
     have h:=Qq6 hm k s hk hs
     rw[hcm]at h
     refine⟨?_,h⟩
     unfold cor
     rw[hcm]
    rcases List.mem_append.1 he with h|h
    · obtain⟨k,hk,ee⟩:=List.mem_map.1 h
      have hk:=List.mem_range.1 hk
      unfold JW6 at ee
      have i0:=iF k 0 hk (by omega) rfl
      cases hpl:(C.getD k Cr.none).plus
      · rw[hpl]at ee
        simp only[Bool.false_eq_true,if_false]at ee
        have o3:=oF k 3 hk (by omega) (by unfold Cr.comes;rw[hpl];rfl)
        exact two k 0 3 hk (by omega) (by omega) ee.symm (Or.inl (by rw[i0.2,o3.1]))
      · rw[hpl]at ee
        simp only[if_true]at ee
        have o1:=oF k 1 hk (by omega) (by unfold Cr.comes;rw[hpl];rfl)
        exact two k 0 1 hk (by omega) (by omega) ee.symm (Or.inr (by rw[i0.1,o1.2]))
    · obtain⟨k,hk,ee⟩:=List.mem_map.1 h
      have hk:=List.mem_range.1 hk
      unfold JW5 at ee
      have o2:=oF k 2 hk (by omega) rfl
      cases hpl:(C.getD k Cr.none).plus
      · rw[hpl]at ee
        simp only[Bool.false_eq_true,if_false]at ee
        have i1:=iF k 1 hk (by omega) (by unfold Cr.comes;rw[hpl];rfl)
        exact two k 2 1 hk (by omega) (by omega) ee.symm (Or.inr (by rw[o2.2,i1.1]))
      · rw[hpl]at ee
        simp only[if_true]at ee
        have i3:=iF k 3 hk (by omega) (by unfold Cr.comes;rw[hpl];rfl)
        exact two k 2 3 hk (by omega) (by omega) ee.symm (Or.inl (by rw[o2.1,i3.2]))
   constructor
   · rintro⟨q1,q2⟩
     exact⟨by rw[<-hw];exact q1,(key q1).1 q2⟩
   · rintro⟨q1,q2⟩
     have q3:W.getD e.1 0=c:=by rw[hw];exact q1
     exact⟨q3,(key q3).2 q2⟩
  constructor
  · intro q;exact(hc _ closed ⟨wa,q⟩).2
  · intro q;exact(hc.symm _ closed ⟨wb,q⟩).2
 let vl:Bool->Int:=fun b=>if b=true then 1 else 0
 let tm:Nat->Nat->Int:=fun x c=>if 1<=c/\W.getD c 0=c then(if G c (fo C (mkD c false))=true then 1 else -1)*vl (G c x) else 0
 have tmb:∀ x c,-1<=tm x c/\tm x c<=1:=fun x c=>by
  show -1<=(if 1<=c/\W.getD c 0=c then(if G c (fo C (mkD c false))=true then 1 else -1)*(if G c x=true then 1 else 0) else 0)/\(if 1<=c/\W.getD c 0=c then(if G c (fo C (mkD c false))=true then 1 else -1)*(if G c x=true then 1 else 0) else 0)<=(1:Int)
  split<;>(try split)<;>(try split)<;>omega
 refine⟨fun x=>QX4 (2*C.length+1) (tm x),fun a ha1 ha2=>?_,fun x=>?_⟩
 · have ha:a<2*C.length+1:=by omega
   have hr:=hL.lt ha
   have hroot:=hL.root ha
   have hcon:=(hL.2 a ha).1
   have hpos := hL.pos (fun e he => by
    have r:∀ k s,k<C.length->s<4->1<=aAt C k s:=fun k s hk hs=>by have:=QV8 hm k s hk hs;omega
    rcases List.mem_append.1 he with h|h
    · obtain⟨k,hk,rfl⟩:=List.mem_map.1 h
      have hk:=List.mem_range.1 hk
      unfold JW6
      refine⟨r k 0 hk (by omega),?_⟩
      simp only
      split
      · exact r k 1 hk (by omega)
      · exact r k 3 hk (by omega)
    · obtain⟨k,hk,rfl⟩:=List.mem_map.1 h
      have hk:=List.mem_range.1 hk
      unfold JW5
      refine⟨r k 2 hk (by omega),?_⟩
      simp only
      split
      · exact r k 3 hk (by omega)
      · exact r k 1 hk (by omega)) ha ha1
   have e:∀ c,c<2*C.length+1->tm (fo C (mkD a false)) c=tm (fo C (mkD a true)) c+(if c=W.getD a 0 then 1 else 0):=fun c hc=>by
    show(if 1<=c/\W.getD c 0=c then(if G c (fo C (mkD c false))=true then 1 else -1)*(if G c (fo C (mkD a false))=true then 1 else 0) else 0)=(if 1<=c/\W.getD c 0=c then(if G c (fo C (mkD c false))=true then 1 else -1)*(if G c (fo C (mkD a true))=true then 1 else 0) else 0)+(if c=W.getD a 0 then(1:Int) else 0)
    have hs:=hG c a ha1 ha2
    unfold sides at hs
    by_cases hc1:c=W.getD a 0
    · rw[if_pos (⟨by omega,by rw[hc1];exact hroot⟩:1<=c/\W.getD c 0=c),if_pos (⟨by omega,by rw[hc1];exact hroot⟩:1<=c/\W.getD c 0=c),if_pos hc1]
      rw[decide_eq_true hc1.symm]at hs
      have al:=along c a c (by rw[hc1];exact hcon) ha1 ha2 (by omega) (by omega) hc1.symm (by rw[hc1];exact hroot)
      cases q1:G c (fo C (mkD a true))<;>cases q2:G c (fo C (mkD a false))<;>cases q3:G c (fo C (mkD c false))<;>rw[q1,q2]at hs<;>rw[q2,q3]at al<;>simp at hs al ⊢
    · rw[if_neg hc1,Int.add_zero]
      rw[decide_eq_false (fun q=>hc1 q.symm)]at hs
      have:G c (fo C (mkD a false))=G c (fo C (mkD a true)):=by
       cases q1:G c (fo C (mkD a true))<;>cases q2:G c (fo C (mkD a false))<;>rw[q1,q2]at hs<;>simp at hs ⊢
      rw[this]
   show QX4 (2*C.length+1) (tm (fo C (mkD a false)))=QX4 (2*C.length+1) (tm (fo C (mkD a true)))+1
   rw[QQ2 fun c hc=>e c hc,QX1]
   congr 1
   have one:∀ M,W.getD a 0<M->QX4 M (fun c=>if c=W.getD a 0 then(1:Int) else 0)=1:=fun M=>by
    induction M with
    |zero=>intro h;omega
    |succ M ih=>
     intro h
     show QX4 M _+(if M=W.getD a 0 then(1:Int) else 0)=1
     by_cases q:M=W.getD a 0
     · rw[if_pos q,QQ2 (g:=fun _=>0) fun i hi=>if_neg (by omega),QJ4];rfl
     · rw[if_neg q,ih (by omega)];rfl
   exact one _ hr
 · have : ∀ M : Nat, -(M : Int) ≤ QX4 M (tm x) ∧ QX4 M (tm x) ≤ M := fun M => by
     induction M with
     |zero=>exact⟨Int.le_refl _,Int.le_refl _⟩
     |succ M ih=>
      have:=tmb x M
      show -((M+1:Nat):Int)<=QX4 M (tm x)+tm x M/\QX4 M (tm x)+tm x M<=((M+1:Nat):Int)
      omega
   exact this _
theorem Kx4 {C : List Cr} {loops : Int} (hm : QX3 C loops = true) (hp : QZ1 C = true) : ∃ L : Nat → Nat, ∀ k, k < C.length →
    ((C.getD k Cr.none).plus=true->L (aAt C k 3)=L (aAt C k 2)/\L (aAt C k 1)=L (aAt C k 0)/\L (aAt C k 0)=L (aAt C k 2)+1)/\
    ((C.getD k Cr.none).plus=false->L (aAt C k 1)=L (aAt C k 2)/\L (aAt C k 3)=L (aAt C k 0)/\L (aAt C k 2)=L (aAt C k 0)+1):=by
 obtain⟨f,h1,h2⟩:=KV0 hm hp
 refine⟨fun a=>((2*C.length+1:Nat)-f (fo C (mkD a false)):Int).toNat,fun k hk=>?_⟩
 have oF:∀ s,s<4->(C.getD k Cr.none).comes s=false->f (fo C (mkD (aAt C k s) false))=f (cor C k s)/\f (cor C k s)=f (cor C k ((s+3)%4))+1:=fun s hs hcm=>by
  have h:=Qq6 hm k s hk hs
  have r:=QV8 hm k s hk hs
  have n:=h1 _ r.2.2.1 r.2.2.2
  rw[hcm]at h
  have e:fo C (mkD (aAt C k s) false)=cor C k s:=by unfold cor;rw[hcm]
  rw[<-h,<-e]
  exact⟨rfl,n⟩
 have iF:∀ s,s<4->(C.getD k Cr.none).comes s=true->f (fo C (mkD (aAt C k s) false))=f (cor C k ((s+3)%4))/\f (cor C k ((s+3)%4))=f (cor C k s)+1:=fun s hs hcm=>by
  have h:=Qq6 hm k s hk hs
  have r:=QV8 hm k s hk hs
  have n:=h1 _ r.2.2.1 r.2.2.2
  rw[hcm]at h
  have e:fo C (mkD (aAt C k s) true)=cor C k s:=by unfold cor;rw[hcm]
  rw[<-h,<-e]
  exact⟨rfl,n⟩
 have b0:=h2 (cor C k 0)
 have b1:=h2 (cor C k 1)
 have b2:=h2 (cor C k 2)
 have b3:=h2 (cor C k 3)
 have i0:=iF 0 (by omega) rfl
 have o2:=oF 2 (by omega) rfl
 simp only[show(0+3)%4=3 from rfl,show(2+3)%4=1 from rfl]at i0 o2
 constructor
 · intro hpl
   have o1:=oF 1 (by omega) (by unfold Cr.comes;rw[hpl];rfl)
   have i3:=iF 3 (by omega) (by unfold Cr.comes;rw[hpl];rfl)
   simp only[show(1+3)%4=0 from rfl,show(3+3)%4=2 from rfl]at o1 i3
   simp only
   rw[i0.1,o1.1,o2.1,i3.1]
   omega
 · intro hpl
   have i1:=iF 1 (by omega) (by unfold Cr.comes;rw[hpl];rfl)
   have o3:=oF 3 (by omega) (by unfold Cr.comes;rw[hpl];rfl)
   simp only[show(1+3)%4=0 from rfl,show(3+3)%4=2 from rfl]at i1 o3
   simp only
   rw[i0.1,i1.1,o2.1,o3.1]
   omega
end Go.Proofs.YtjcagkgpbcdghaaDoor
