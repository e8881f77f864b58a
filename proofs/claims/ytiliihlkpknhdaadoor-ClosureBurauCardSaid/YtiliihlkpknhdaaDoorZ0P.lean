/- Several texts of the proof, one behind the other. -/
import Derived.Test.YtiliihlkpknhdaaDoorO0P
import Derived.Test.YtiliihlkpknhdaaDoorQ0P
/- Plain mathematics: edges and the edges that cross them; where Euler's number is that of spheres, a set of edges that comes to each corner an even number of times is the boundary of a set of faces. -/
namespace Go.Proofs.YtiliihlkpknhdaaDoor
def xs (g:Nat->Bool):Nat->Bool
 |0=>false
 |m+1=>xor (xs g m) (g m)
theorem xs_congr {g h:Nat->Bool} {m:Nat} (e:∀ i,i<m->g i=h i):xs g m=xs h m:=by
 induction m with
 |zero=>rfl
 |succ m ih=>simp only[xs];rw[ih fun i hi=>e i (by omega),e m (by omega)]
theorem xs_none {g:Nat->Bool} {m:Nat} (e:∀ i,i<m->g i=false):xs g m=false:=by
 induction m with
 |zero=>rfl
 |succ m ih=>simp only[xs];rw[ih fun i hi=>e i (by omega),e m (by omega)];rfl
theorem xs_xor (g h:Nat->Bool) (m:Nat):xs (fun i=>xor (g i) (h i)) m=xor (xs g m) (xs h m):=by
 induction m with
 |zero=>rfl
 |succ m ih=>
  simp only[xs]
  rw[ih]
  cases xs g m<;>cases xs h m<;>cases g m<;>cases h m<;>rfl
theorem xs_last {g:Nat->Bool} {m i:Nat} (hi:i<m) (hg:g i=true) (lo:∀ j,j<i->g j=false) (hi2:∀ j,i<j->j<m->g j=false):xs g m=true:=by
 induction m with
 |zero=>omega
 |succ m ih=>
  simp only[xs]
  by_cases e:i=m
  · subst e
    rw[xs_none lo,hg];rfl
  · rw[ih (by omega) fun j h1 h2=>hi2 j h1 (by omega),hi2 m (by omega) (by omega)];rfl
def cntZ (g:Nat->Bool):Nat->Nat
 |0=>0
 |m+1=>cntZ g m+(if g m=true then 1 else 0)
theorem cntZ_not (g:Nat->Bool) (m:Nat):cntZ g m+cntZ (fun i=>!g i) m=m:=by
 induction m with
 |zero=>rfl
 |succ m ih=>
  simp only[cntZ]
  by_cases h:g m=true
  · simp[h];omega
  · simp[h];omega
theorem cntZ_le {g h:Nat->Bool} {m:Nat} (e:∀ i,i<m->g i=true->h i=true):cntZ g m<=cntZ h m:=by
 induction m with
 |zero=>exact Nat.le_refl _
 |succ m ih=>
  have h1:=ih fun i hi=>e i (by omega)
  simp only[cntZ]
  by_cases hg:g m=true
  · rw[if_pos hg,if_pos (e m (by omega) hg)];omega
  · rw[if_neg hg];omega
theorem cntZ_same {g h:Nat->Bool} {m:Nat} (e:∀ i,i<m->g i=true->h i=true) (hc:cntZ h m<=cntZ g m):∀ i,i<m->h i=true->g i=true:=by
 induction m with
 |zero=>intro i hi;omega
 |succ m ih=>
  have h1:=cntZ_le (m:=m) fun i hi=>e i (by omega)
  simp only[cntZ]at hc
  intro i hi hh
  by_cases hg:g m=true
  · have h2:=e m (by omega) hg
    rw[if_pos hg,if_pos h2]at hc
    by_cases ei:i=m
    · rw[ei];exact hg
    · exact ih (fun i hi=>e i (by omega)) (by omega) i (by omega) hh
  · rw[if_neg hg]at hc
    by_cases h2:h m=true
    · rw[if_pos h2]at hc;omega
    · rw[if_neg h2]at hc
      by_cases ei:i=m
      · rw[ei]at hh;exact absurd hh h2
      · exact ih (fun i hi=>e i (by omega)) (by omega) i (by omega) hh
def incl (E:Nat->Nat×Nat) (K:Nat->Bool):Nat->List (Nat×Nat)
 |0=>[]
 |m+1=>incl E K m++(if K m=true then [E m] else [])
theorem incl_mem {E:Nat->Nat×Nat} {K:Nat->Bool} {m:Nat} {e:Nat×Nat}:e∈incl E K m↔∃ i,i<m/\K i=true/\e=E i:=by
 induction m with
 |zero=>simp[incl]
 |succ m ih=>
  simp only[incl,List.mem_append,ih]
  constructor
  · rintro(⟨i,h1,h2,h3⟩|h)
    · exact⟨i,by omega,h2,h3⟩
    · by_cases hk:K m=true
      · rw[if_pos hk]at h
        exact⟨m,by omega,hk,List.mem_singleton.1 h⟩
      · rw[if_neg hk]at h;cases h
  · rintro⟨i,h1,h2,h3⟩
    by_cases e2:i=m
    · subst e2
      exact Or.inr (by rw[if_pos h2,h3];exact List.mem_singleton.2 rfl)
    · exact Or.inl ⟨i,by omega,h2,h3⟩
def cls (E:Nat->Nat×Nat) (K:Nat->Bool) (n m:Nat):List Nat:=mers (List.range n) (incl E K m)
theorem cls_least {E:Nat->Nat×Nat} {K:Nat->Bool} {n m:Nat} (hE:∀ i,i<m->(E i).1<n/\(E i).2<n):Least (incl E K m) n (cls E K n m):=by
 have h := mers_least n (incl E K m) [] (List.range n) (fun e he => by
  obtain⟨i,h1,-,rfl⟩:=incl_mem.1 (by simpa using he)
  exact hE i h1) (least_nil n)
 simpa[cls] using h
theorem cls_next {E:Nat->Nat×Nat} {K:Nat->Bool} {n m:Nat} (h:K m=true):cls E K n (m+1)=mer (cls E K n m) (E m).1 (E m).2:=by
 unfold cls
 simp only[incl]
 rw[if_pos h,mers_app]
 rfl
theorem cls_skip {E:Nat->Nat×Nat} {K:Nat->Bool} {n m:Nat} (h:¬ K m=true):cls E K n (m+1)=cls E K n m:=by
 unfold cls
 simp only[incl]
 rw[if_neg h,List.append_nil]
theorem mer_same {W:List Nat} {x y:Nat} (h:W.getD x 0=W.getD y 0):mer W x y=W:=by
 unfold mer
 rw[h]
 have:∀ z:Nat,(if z=max (W.getD y 0) (W.getD y 0) then min (W.getD y 0) (W.getD y 0) else z)=z:=fun z=>by
  split<;>omega
 simp only[this]
 exact List.map_id' W
def rt (W:List Nat):Nat->Nat
 |0=>0
 |k+1=>rt W k+(if W.getD k 0=k then 1 else 0)
theorem rt_all (n:Nat):∀ k,k<=n->rt (List.range n) k=k:=by
 intro k
 induction k with
 |zero=>intro _;rfl
 |succ k ih=>
  intro hk
  have e:(List.range n).getD k 0=k:=by simp[List.getD_eq_getElem?_getD,show k<n by omega]
  simp only[rt]
  rw[ih (by omega),if_pos e]
theorem rt_mer {Ed:List (Nat×Nat)} {n:Nat} {W:List Nat} (h:Least Ed n W) {x y:Nat} (hx:x<n) (hy:y<n) (hne:W.getD x 0≠W.getD y 0):∀ k,k<=n->rt (mer W x y) k+(if max (W.getD x 0) (W.getD y 0)<k then 1 else 0)=rt W k:=by
 have rx:=h.root hx
 have ry:=h.root hy
 intro k
 induction k with
 |zero=>intro _;simp[rt]
 |succ k ih=>
  intro hk
  have i1:=ih (by omega)
  have hm:=mer_at W x y k (by rw[h.1];omega)
  simp only[rt]
  by_cases he:k=max (W.getD x 0) (W.getD y 0)
  · have hroot : W.getD k 0 = k := by
      rcases Nat.le_total (W.getD x 0) (W.getD y 0) with hle|hle
      · have:k=W.getD y 0:=by omega
        rw[this];exact ry
      · have:k=W.getD x 0:=by omega
        rw[this];exact rx
    rw[if_pos (by rw[hroot];exact he)]at hm
    rw[if_neg (by omega)]at i1
    rw[if_pos hroot,if_neg (by rw[hm];omega),if_pos (by omega)]
    omega
  · by_cases hr:W.getD k 0=k
    · rw[if_neg (by rw[hr];exact he)]at hm
      rw[if_pos hr,if_pos (by rw[hm];exact hr)]
      by_cases hq:max (W.getD x 0) (W.getD y 0)<k
      · rw[if_pos hq]at i1
        rw[if_pos (by omega)]
        omega
      · rw[if_neg hq]at i1
        rw[if_neg (by omega)]
        omega
    · have h2 : ¬ (mer W x y).getD k 0 = k := by
        rw[hm]
        have hle:=h.le (v:=k) (by omega)
        have hlx:=h.lt hx
        split
        · rename_i q
          intro e
          rcases Nat.le_total (W.getD x 0) (W.getD y 0) with hle2|hle2
          · have e1:k=W.getD x 0:=by omega
            exact hr (by rw[e1];exact rx)
          · have e1:k=W.getD y 0:=by omega
            exact hr (by rw[e1];exact ry)
        · exact hr
      rw[if_neg hr,if_neg h2]
      by_cases hq:max (W.getD x 0) (W.getD y 0)<k
      · rw[if_pos hq]at i1
        rw[if_pos (by omega)]
        omega
      · rw[if_neg hq]at i1
        rw[if_neg (by omega)]
        omega
def newE (E:Nat->Nat×Nat) (K:Nat->Bool) (n i:Nat):Bool:=K i&&decide ((cls E K n i).getD (E i).1 0≠(cls E K n i).getD (E i).2 0)
theorem rt_cntZ {E:Nat->Nat×Nat} {K:Nat->Bool} {n m:Nat} (hE:∀ i,i<m->(E i).1<n/\(E i).2<n):rt (cls E K n m) n+cntZ (newE E K n) m=n:=by
 induction m with
 |zero=>simp[cls,incl,mers,cntZ,rt_all n n (Nat.le_refl _)]
 |succ m ih=>
  have h1:=ih fun i hi=>hE i (by omega)
  have hL:=cls_least (E:=E) (K:=K) (n:=n) (m:=m) fun i hi=>hE i (by omega)
  simp only[cntZ]
  by_cases hk:K m=true
  · rw[cls_next hk]
    by_cases hne:(cls E K n m).getD (E m).1 0=(cls E K n m).getD (E m).2 0
    · rw[mer_same hne,if_neg (by simp[newE,hne,-List.getD_eq_getElem?_getD])]
      omega
    · have h2:=rt_mer hL (hE m (by omega)).1 (hE m (by omega)).2 hne n (Nat.le_refl _)
      rw[if_pos (by have:=hL.lt (hE m (by omega)).1;have:=hL.lt (hE m (by omega)).2;omega)]at h2
      rw[if_pos (by simp[newE,hk,hne,-List.getD_eq_getElem?_getD])]
      omega
  · rw[cls_skip hk,if_neg (by simp[newE,hk])]
    omega
theorem even_forest {E : Nat → Nat × Nat} {K B : Nat → Bool} {n m : Nat} (hE : ∀ i, i < m → (E i).1 < n ∧ (E i).2 < n) (hF : ∀ i, i < m → K i = true → newE E K n i = true) (hB : ∀ i, i < m → B i = true → K i = true)
    (hev:∀ S:Nat->Bool,xs (fun i=>B i&&xor (S (E i).1) (S (E i).2)) m=false):∀ i,i<m->B i=false:=by
 have key:∀ d i,i<m->m<=i+d->B i=false:=by
  intro d
  induction d with
  |zero=>intro i h1 h2;omega
  |succ d ih=>
   intro i h1 h2
   by_cases hb:B i=true
   · exfalso
     have hn:=hF i h1 (hB i h1 hb)
     have hL:=cls_least (E:=E) (K:=K) (n:=n) (m:=i) fun j hj=>hE j (by omega)
     have h3 := xs_last (g := fun j => B j && xor (decide ((cls E K n i).getD (E j).1 0 = (cls E K n i).getD (E i).1 0)) (decide ((cls E K n i).getD (E j).2 0 = (cls E K n i).getD (E i).1 0))) h1 (by
      simp only[newE,Bool.and_eq_true,decide_eq_true_eq]at hn
      have:¬ (cls E K n i).getD (E i).2 0=(cls E K n i).getD (E i).1 0:=fun e=>hn.2 e.symm
      simp[hb,this,-List.getD_eq_getElem?_getD]) (fun j hj=>by
      by_cases hbj:B j=true
      · have hs:(cls E K n i).getD (E j).1 0=(cls E K n i).getD (E j).2 0:=(hL.same (hE j (by omega)).1 (hE j (by omega)).2).2 (Con.edge (incl_mem.2 ⟨j,hj,hB j (by omega) hbj,rfl⟩))
        simp only[hs,Bool.xor_self,Bool.and_false]
      · simp[hbj]) (fun j h4 h5=>by
      rw[ih j h5 (by omega)];rfl)
     have h4:=hev fun v=>decide ((cls E K n i).getD v 0=(cls E K n i).getD (E i).1 0)
     rw[h3]at h4
     cases h4
   · simpa using hb
 exact fun i hi=>key m i hi (by omega)
theorem greedy {E:Nat->Nat×Nat} {n:Nat} {K:Nat->Bool} (hK:∀ i,K i=newE E (fun _=>true) n i):∀ m,cls E K n m=cls E (fun _=>true) n m:=by
 intro m
 induction m with
 |zero=>rfl
 |succ m ih=>
  rw[cls_next (K:=fun _=>true) rfl]
  by_cases hk:K m=true
  · rw[cls_next hk,ih]
  · rw[cls_skip hk,ih]
    rw[hK m]at hk
    simp only[newE,Bool.true_and,decide_eq_true_eq,Classical.not_not]at hk
    exact(mer_same hk).symm
theorem con_all {E:Nat->Nat×Nat} {K:Nat->Bool} {m:Nat} (h:∀ i,i<m->Con (incl E K m) (E i).1 (E i).2) {x y:Nat}:Con (incl E K m) x y↔Con (incl E (fun _=>true) m) x y:=by
 constructor
 · intro hc S hS hx
   exact hc S (fun e he => hS e (by
    obtain⟨i,h1,-,h3⟩:=incl_mem.1 he
    exact incl_mem.2 ⟨i,h1,rfl,h3⟩)) hx
 · intro hc S hS hx
   refine hc S (fun e he=>?_) hx
   obtain⟨i,h1,-,rfl⟩:=incl_mem.1 he
   exact⟨fun q=>h i h1 S hS q,fun q=>(h i h1).symm S hS q⟩
theorem sphere_even {E D : Nat → Nat × Nat} {m n f : Nat} (hE : ∀ i, i < m → (E i).1 < n ∧ (E i).2 < n) (hD : ∀ i, i < m → (D i).1 < f ∧ (D i).2 < f)
    (hX:∀ S g:Nat->Bool,xs (fun i=>xor (S (E i).1) (S (E i).2)&&xor (g (D i).1) (g (D i).2)) m=false)
    (hEu:m+rt (cls E (fun _=>true) n m) n+rt (cls D (fun _=>true) f m) f<=n+f)
    (A:Nat->Bool) (hA:∀ S:Nat->Bool,xs (fun i=>A i&&xor (S (E i).1) (S (E i).2)) m=false):
    ∃ g:Nat->Bool,∀ i,i<m->A i=xor (g (D i).1) (g (D i).2):=by
 obtain⟨T,hT⟩:∃ T:Nat->Bool,∀ i,T i=newE D (fun _=>true) f i:=⟨_,fun _=>rfl⟩
 have hg:=greedy hT
 have hTF:∀ i,i<m->T i=true->newE D T f i=true:=fun i _ h=>by
  have h2:=h
  rw[hT i]at h2
  simp only[newE,Bool.true_and]at h2
  simp only[newE,h,Bool.true_and]
  rw[hg i]
  exact h2
 -- the faces along the forest
 have step:∀ k,k<=m->∃ g:Nat->Bool,∀ i,i<k->T i=true->A i=xor (g (D i).1) (g (D i).2):=by
  intro k
  induction k with
  |zero=>intro _;exact⟨fun _=>false,fun i hi=>by omega⟩
  |succ k ih=>
   intro hk
   obtain⟨g,hgk⟩:=ih (by omega)
   by_cases hq:T k=true/\A k≠xor (g (D k).1) (g (D k).2)
   · have hn:=hTF k (by omega) hq.1
     simp only[newE,hq.1,Bool.true_and,decide_eq_true_eq]at hn
     have hL:=cls_least (E:=D) (K:=T) (n:=f) (m:=k) fun j hj=>hD j (by omega)
     refine⟨fun v=>xor (g v) (decide ((cls D T f k).getD v 0=(cls D T f k).getD (D k).2 0)),fun i hi ht=>?_⟩
     by_cases e:i=k
     · subst e
       have h2:=hq.2
       simp only[hn,decide_false,decide_true]
       revert h2
       cases A i<;>cases g (D i).1<;>cases g (D i).2<;>simp
     · have hs:(cls D T f k).getD (D i).1 0=(cls D T f k).getD (D i).2 0:=(hL.same (hD i (by omega)).1 (hD i (by omega)).2).2 (Con.edge (incl_mem.2 ⟨i,by omega,ht,rfl⟩))
       have h1:=hgk i (by omega) ht
       simp only[hs]
       rw[h1]
       cases g (D i).1<;>cases g (D i).2<;>cases (decide ((cls D T f k).getD (D i).2 0=(cls D T f k).getD (D k).2 0))<;>rfl
   · refine⟨g,fun i hi ht=>?_⟩
     by_cases e:i=k
     · subst e
       exact Classical.byContradiction fun h=>hq ⟨ht,h⟩
     · exact hgk i (by omega) ht
 obtain⟨g,hgm⟩:=step m (Nat.le_refl _)
 refine⟨g,?_⟩
 -- the others join all corners
 have hcon:∀ i,i<m->(cls E (fun j=>!T j) n m).getD (E i).1 0=(cls E (fun j=>!T j) n m).getD (E i).2 0:=by
  intro i hi
  have hL:=cls_least (E:=E) (K:=fun j=>!T j) (n:=n) (m:=m) hE
  refine Classical.byContradiction fun hne=>?_
  have h1 := even_forest (E := D) (K := T) (B := fun j => xor (decide ((cls E (fun j => !T j) n m).getD (E j).1 0 = (cls E (fun j => !T j) n m).getD (E i).1 0)) (decide ((cls E (fun j => !T j) n m).getD (E j).2 0 = (cls E (fun j => !T j) n m).getD (E i).1 0))) hD hTF (fun j hj hb => by
   refine Classical.byContradiction fun ht=>?_
   have hs:(cls E (fun j=>!T j) n m).getD (E j).1 0=(cls E (fun j=>!T j) n m).getD (E j).2 0:=(hL.same (hE j hj).1 (hE j hj).2).2 (Con.edge (incl_mem.2 ⟨j,hj,by simpa using ht,rfl⟩))
   simp only[hs,Bool.xor_self]at hb
   cases hb) (fun S=>hX (fun v=>decide ((cls E (fun j=>!T j) n m).getD v 0=(cls E (fun j=>!T j) n m).getD (E i).1 0)) S) i hi
  have:¬ (cls E (fun j=>!T j) n m).getD (E i).2 0=(cls E (fun j=>!T j) n m).getD (E i).1 0:=fun e=>hne e.symm
  simp[this,-List.getD_eq_getElem?_getD]at h1
 have hLK:=cls_least (E:=E) (K:=fun j=>!T j) (n:=n) (m:=m) hE
 have hLA:=cls_least (E:=E) (K:=fun _=>true) (n:=n) (m:=m) hE
 have heq:cls E (fun j=>!T j) n m=cls E (fun _=>true) n m:=by
  have hc:∀ {x y:Nat},Con (incl E (fun j=>!T j) m) x y↔Con (incl E (fun _=>true) m) x y:=fun {x y}=>con_all fun i hi=>(hLK.same (hE i hi).1 (hE i hi).2).1 (hcon i hi)
  refine Least.eq (E:=incl E (fun _=>true) m) (n:=n) ⟨hLK.1,fun v hv=>⟨hc.1 (hLK.2 v hv).1,fun u hu=>(hLK.2 v hv).2 u (hc.2 hu)⟩⟩ hLA
 -- so they are a forest
 have c1:=rt_cntZ (E:=E) (K:=fun j=>!T j) (n:=n) (m:=m) hE
 have c2:=rt_cntZ (E:=D) (K:=fun _=>true) (n:=f) (m:=m) hD
 have c3:=cntZ_not T m
 have c4:cntZ (newE D (fun _=>true) f) m=cntZ T m:=by
  have:newE D (fun _=>true) f=T:=funext fun i=>(hT i).symm
  rw[this]
 rw[heq]at c1
 have hKF : ∀ i, i < m → (!T i) = true → newE E (fun j => !T j) n i = true := cntZ_same (fun i _ h => by
  simp only[newE,Bool.and_eq_true]at h
  exact h.1) (by omega)
 have hz := even_forest (E := E) (K := fun j => !T j) (B := fun i => xor (A i) (xor (g (D i).1) (g (D i).2))) hE hKF (fun i hi hb => by
  by_cases ht:T i=true
  · rw[hgm i hi ht]at hb
    simp at hb
  · simpa using ht) (fun S=>by
  have h1:=hA S
  have h2:=hX S g
  have h3:=xs_xor (fun i=>A i&&xor (S (E i).1) (S (E i).2)) (fun i=>xor (S (E i).1) (S (E i).2)&&xor (g (D i).1) (g (D i).2)) m
  rw[h1,h2]at h3
  rw[<-show xor false false=false from rfl,<-h3]
  refine xs_congr fun i _=>?_
  cases A i<;>cases g (D i).1<;>cases g (D i).2<;>cases S (E i).1<;>cases S (E i).2<;>rfl)
 intro i hi
 have:=hz i hi
 revert this
 cases A i<;>cases g (D i).1<;>cases g (D i).2<;>simp
end Go.Proofs.YtiliihlkpknhdaaDoor
/- Plain mathematics: rings of a renaming are closed; in which face a dart lies. -/
namespace Go.Proofs.YtiliihlkpknhdaaDoor
theorem un_le (l:List Bool) (y:Nat):un l y<=1:=by unfold un;split<;>omega
theorem unseen_none {l:List Bool} (h:unseen l=0) (x:Nat):l.getD x true=true:=by
 cases e:l.getD x true with
 |true=>rfl
 |false=>have:=unseen_pos e;omega
theorem walkF_chain (f : Nat → Nat) : ∀ (m : Nat) (seen : List Bool) (x : Nat) (acc : List Nat), unseen seen ≤ m → (∀ i, i + 1 < acc.length → acc.getD (i + 1) 0 = f (acc.getD i 0)) → (0 < acc.length → x = f (acc.getD (acc.length - 1) 0)) →
    (∀ i,i+1<(walkF f m seen x acc).1.length->(walkF f m seen x acc).1.getD (i+1) 0=f ((walkF f m seen x acc).1.getD i 0))/\(0<(walkF f m seen x acc).1.length->un (walkF f m seen x acc).2 (f ((walkF f m seen x acc).1.getD ((walkF f m seen x acc).1.length-1) 0))=0):=by
 intro m
 induction m with
 |zero=>
  intro seen x acc hu hc hx
  refine⟨hc,fun h0=>?_⟩
  show un seen (f (acc.getD (acc.length-1) 0))=0
  rw[<-hx h0]
  unfold un
  rw[if_pos (unseen_none (by omega) x)]
 |succ m ih=>
  intro seen x acc hu hc hx
  by_cases hs:seen.getD x true=true
  · rw[walkF_seen hs]
    refine⟨hc,fun h0=>?_⟩
    show un seen (f (acc.getD (acc.length-1) 0))=0
    rw[<-hx h0]
    unfold un
    rw[if_pos hs]
  · have hs':seen.getD x true=false:=by simpa using hs
    obtain⟨e,hu2⟩:=walkF_more (f:=f) (acc:=acc) hs' hu
    rw[e]
    refine ih _ _ _ hu2 (fun i hi=>?_) (fun _=>?_)
    · rw[List.length_append,List.length_singleton]at hi
      by_cases hi2:i+1<acc.length
      · have e1:(acc++[x]).getD (i+1) 0=acc.getD (i+1) 0:=by simp[List.getD_eq_getElem?_getD,List.getElem?_append_left hi2]
        have e2:(acc++[x]).getD i 0=acc.getD i 0:=by simp[List.getD_eq_getElem?_getD,List.getElem?_append_left (show i<acc.length by omega)]
        rw[e1,e2]
        exact hc i hi2
      · have hl:acc.length=i+1:=by omega
        have e1:(acc++[x]).getD (i+1) 0=x:=by rw[<-hl];simp[List.getD_eq_getElem?_getD]
        have e2:(acc++[x]).getD i 0=acc.getD i 0:=by simp[List.getD_eq_getElem?_getD,List.getElem?_append_left (show i<acc.length by omega)]
        rw[e1,e2,hx (by omega),hl]
        rfl
    · have e1:(acc++[x]).getD ((acc++[x]).length-1) 0=x:=by simp[List.getD_eq_getElem?_getD]
      rw[e1]
theorem mem_atZ {l:List Nat} {y:Nat} (h:y∈l):∃ i,i<l.length/\l.getD i 0=y:=by
 obtain⟨i,hi,e⟩:=List.getElem_of_mem h
 exact⟨i,hi,by rw[List.getD_eq_getElem?_getD,List.getElem?_eq_getElem hi];exact e⟩
theorem at_mem {l:List Nat} {i:Nat} (h:i<l.length):l.getD i 0∈l:=by
 rw[List.getD_eq_getElem?_getD,List.getElem?_eq_getElem h]
 exact List.getElem_mem h
theorem at_ne {l:List Nat} (h:∀ y,l.count y<=1) {i j:Nat} (hij:i<j) (hj:j<l.length):l.getD i 0≠l.getD j 0:=by
 have hn:l.Nodup:=List.nodup_iff_count.2 h
 have:=List.pairwise_iff_getElem.1 hn i j (by omega) hj hij
 rw[List.getD_eq_getElem?_getD,List.getElem?_eq_getElem (by omega),List.getD_eq_getElem?_getD,List.getElem?_eq_getElem hj]
 exact this
theorem rings_closed {f : Nat → Nat} {n : Nat} (hf : ∀ a, 1 ≤ a → a ≤ n → 1 ≤ f a ∧ f a ≤ n) (hi : ∀ a b, 1 ≤ a → a ≤ n → 1 ≤ b → b ≤ n → f a = f b → a = b) : ∀ a, a ≤ n →
    (∀ l,l∈(walksTo f n a).1->∀ y,y∈l->f y∈l)/\(∀ y,1<=y->y<=n->un (walksTo f n a).2 (f y)=0->un (walksTo f n a).2 y=0)/\
    (∀ l,l∈(walksTo f n a).1->(∀ i,i+1<l.length->l.getD (i+1) 0=f (l.getD i 0))/\f (l.getD (l.length-1) 0)=l.getD 0 0):=by
 intro a
 induction a with
 |zero=>
  intro _
  refine⟨fun l hl=>absurd hl (by simp[walksTo]),fun y h1 h2 h3=>?_,fun l hl=>absurd hl (by simp[walksTo])⟩
  have h4:=hf y h1 h2
  exfalso
  have:un (walksTo f n 0).2 (f y)=1:=by
   simp[walksTo,un,List.getD_eq_getElem?_getD,show f y<n+1 by omega]
  omega
 |succ a ih=>
  intro ha
  obtain⟨i1,i2,i3⟩:=ih (by omega)
  have hin:=walksTo_mem hf a (by omega)
  generalize hr:walksTo f n a=r at i1 i2 i3 hin
  have hlen:r.2.length=n+1:=by rw[<-hr];exact walksTo_len f n a
  have hch:=walkF_chain f (n+1) r.2 (a+1) [] (by have:=unseen_le r.2;omega) (fun i hi=>by simp at hi) (fun h0=>by simp at h0)
  have hmem:=walkF_mem hf (n+1) r.2 (a+1) [] (by omega) ha (fun y hy=>by cases hy)
  have hcnt:=walkF_count f (n+1) r.2 (a+1) []
  have hkeep:=walkF_keep f (n+1) r.2 (a+1) []
  have e:walksTo f n (a+1)=(if(walkF f (n+1) r.2 (a+1) []).1=[] then r.1 else r.1++[(walkF f (n+1) r.2 (a+1) []).1],(walkF f (n+1) r.2 (a+1) []).2):=by simp only[walksTo,hr]
  rw[e]
  generalize walkF f (n+1) r.2 (a+1) []=s at hch hmem hcnt hkeep
  obtain⟨l,sn⟩:=s
  simp only[List.count_nil,Nat.zero_add]at hch hmem hcnt hkeep ⊢
  have hc1:∀ y,l.count y<=1:=fun y=>by have:=hcnt y;have:=un_le r.2 y;omega
  have hin1:∀ y,y∈l->un r.2 y=1/\un sn y=0:=fun y hy=>by
   have h1:1<=l.count y:=List.one_le_count_iff.2 hy
   have h2:=hcnt y
   have h3:=un_le r.2 y
   omega
  -- what stands behind the last is the first
  have hend:0<l.length->f (l.getD (l.length-1) 0)=l.getD 0 0:=fun h0=>by
   have hlast:=at_mem (l:=l) (i:=l.length-1) (by omega)
   have hb:=hmem _ hlast
   have hz:=hch.2 h0
   have hnz:un r.2 (f (l.getD (l.length-1) 0))≠0:=fun q=>by
    have:=i2 _ hb.1 hb.2 q
    have:=(hin1 _ hlast).1
    omega
   have hz1:f (l.getD (l.length-1) 0)∈l:=by
    have h2:=hcnt (f (l.getD (l.length-1) 0))
    refine List.one_le_count_iff.1 ?_
    omega
   obtain⟨j,hj,ej⟩:=mem_atZ hz1
   cases j with
   |zero=>exact ej.symm
   |succ j=>
    exfalso
    have h5:=hch.1 j hj
    rw[ej]at h5
    have hbj:=hmem _ (at_mem (l:=l) (i:=j) (by omega))
    have h6:=hi _ _ hb.1 hb.2 hbj.1 hbj.2 h5
    exact at_ne hc1 (i:=j) (j:=l.length-1) (by omega) (by omega) h6.symm
  refine⟨?_,fun y h1 h2 h3=>?_,fun l' hl'=>?_⟩
  · intro l' hl' y hy
    by_cases hnil:l=[]
    · rw[if_pos hnil]at hl'
      exact i1 l' hl' y hy
    · rw[if_neg hnil]at hl'
      rcases List.mem_append.1 hl' with h|h
      · exact i1 l' h y hy
      · obtain rfl:=List.mem_singleton.1 h
        obtain⟨i,hil,rfl⟩:=mem_atZ hy
        by_cases hlast:i+1<l'.length
        · rw[<-hch.1 i hlast]
          exact at_mem hlast
        · have hi1:i=l'.length-1:=by omega
          rw[hi1,hend (by omega)]
          exact at_mem (by omega)
  · by_cases hq:un r.2 (f y)=0
    · exact hkeep y (i2 y h1 h2 hq)
    · have hmy:f y∈l:=List.one_le_count_iff.1 (by have:=hcnt (f y);omega)
      obtain⟨j,hj,ej⟩:=mem_atZ hmy
      cases j with
      |zero=>
       have hlast:=at_mem (l:=l) (i:=l.length-1) (by omega)
       have hb:=hmem _ hlast
       have:=hi y _ h1 h2 hb.1 hb.2 (by rw[hend (by omega),ej])
       rw[this]
       exact(hin1 _ hlast).2
      |succ j=>
       have h5:=hch.1 j hj
       rw[ej]at h5
       have hbj:=hmem _ (at_mem (l:=l) (i:=j) (by omega))
       have:=hi y _ h1 h2 hbj.1 hbj.2 h5
       rw[this]
       exact(hin1 _ (at_mem (by omega))).2
  · by_cases hnil:l=[]
    · rw[if_pos hnil]at hl'
      exact i3 l' hl'
    · rw[if_neg hnil]at hl'
      rcases List.mem_append.1 hl' with h|h
      · exact i3 l' h
      · obtain rfl:=List.mem_singleton.1 h
        have h0:0<l'.length:=by
         cases l' with
         |nil=>exact absurd rfl hnil
         |cons=>simp
        exact⟨hch.1,hend h0⟩
theorem fd_inj {C:List Cr} {loops:Int} (hm:mayD C loops=true) (i j:Nat) (h1:1<=i) (h2:i<=4*C.length) (h3:1<=j) (h4:j<=4*C.length) (e:fd C i=fd C j):i=j:=by
 obtain⟨p1,p2,p3⟩:=d_may hm i h1 h2
 obtain⟨q1,q2,q3⟩:=d_may hm j h3 h4
 obtain⟨a1,a2,a3,a4⟩:=fd_may hm i h1 h2
 obtain⟨b1,b2,b3,b4⟩:=fd_may hm j h3 h4
 rw[e]at a1 a2
 have hA:=dA_le b3 b4
 have e1:=end_one hm _ hA.1 hA.2 _ _ _ p2 (Nat.mod_lt _ (by decide)) a1 a2
 have e2:=end_one hm _ hA.1 hA.2 _ _ _ q2 (Nat.mod_lt _ (by decide)) b1 b2
 rw[e1]at e2
 have hcc:dC C i=dC C j:=by have:=congrArg Prod.fst e2;simp only at this;omega
 have hss:dS C i=dS C j:=by have:=congrArg Prod.snd e2;simp only at this;omega
 have u:=en_may hm (dA i) (!dB i) (dA_le h1 h2).1 (dA_le h1 h2).2
 have v:=en_may hm (dA j) (!dB j) (dA_le h3 h4).1 (dA_le h3 h4).2
 have u1:(C.getD (dC C i) Cr.none).arc (dS C i)=(dA i:Int):=u.2.2.2.1
 have v1:(C.getD (dC C j) Cr.none).arc (dS C j)=(dA j:Int):=v.2.2.2.1
 have u2:(C.getD (dC C i) Cr.none).comes (dS C i)=(!dB i):=u.2.2.2.2
 have v2:(C.getD (dC C j) Cr.none).comes (dS C j)=(!dB j):=v.2.2.2.2
 rw[hcc,hss]at u1 u2
 have h5:dA i=dA j:=by omega
 have h6:dB i=dB j:=by
  rw[u2]at v2
  revert v2
  cases dB i<;>cases dB j<;>simp
 rw[<-mk_d h1,<-mk_d h3,h5,h6]
def fo (C:List Cr) (j:Nat):Nat:=pt (facesM C) j
theorem fo_lt {C:List Cr} (j:Nat) (h1:1<=j) (h2:j<=4*C.length):fo C j<(facesM C).length:=pt_lt (walks_once (fd C) (4*C.length) j h1 h2)
theorem fo_fd {C:List Cr} {loops:Int} (hm:mayD C loops=true) (j:Nat) (h1:1<=j) (h2:j<=4*C.length):fo C (fd C j)=fo C j:=by
 have hc:=fd_closed hm j h1 h2
 have hl:=fo_lt j h1 h2
 have hj:j∈(facesM C).getD (fo C j) []:=(pt_mem (walks_once (fd C) (4*C.length) j h1 h2) hl).2 rfl
 have hin:(facesM C).getD (fo C j) []∈facesM C:=by
  rw[List.getD_eq_getElem?_getD,List.getElem?_eq_getElem hl]
  exact List.getElem_mem hl
 have h3:=(rings_closed (fd_closed hm) (fun a b p q r s t=>fd_inj hm a b p q r s t) (4*C.length) (Nat.le_refl _)).1 _ hin j hj
 exact pt_is (walks_once (fd C) (4*C.length) _ hc.1 hc.2) hl h3
end Go.Proofs.YtiliihlkpknhdaaDoor
/- Words of braids, and what they make of texts: plain mathematics. -/
namespace Go.Proofs.YtiliihlkpknhdaaDoor
def badL (n x:Int):Bool:=decide (x=0)||(decide (x <= -n)||decide (n<=x))
def wordN (n:Int) (w:List Int):Int:=if n<2∨6<n then 3 else if w.any (badL n) then 3 else if 20<w.length then 2 else 0
theorem badL_no {n x:Int} (h:badL n x=false):x≠0 /\ -n<x/\x<n:=by
 unfold badL at h
 simp only[Bool.or_eq_false_iff,decide_eq_false_iff_not]at h
 omega
theorem wordN_ok {n:Int} {w:List Int} (h:wordN n w=0):2<=n/\n<=6/\(∀ j,j<w.length->w.getD j 0≠0 /\ -n<w.getD j 0/\w.getD j 0<n)/\w.length<=20:=by
 unfold wordN at h
 by_cases h1:n<2∨6<n
 · rw[if_pos h1]at h;cases h
 · rw[if_neg h1]at h
   by_cases h2:w.any (badL n)=true
   · rw[if_pos h2]at h;cases h
   · rw[if_neg h2]at h
     by_cases h3:20<w.length
     · rw[if_pos h3]at h;cases h
     · refine⟨by omega,by omega,fun j hj=>?_,by omega⟩
       have h4:badL n (w.getD j 0)=false:=by
        cases hb:badL n (w.getD j 0) with
        |false=>rfl
        |true=>
         exact absurd (List.any_eq_true.2 ⟨w.getD j 0,by rw[List.getD_eq_getElem?_getD,List.getElem?_eq_getElem hj];exact List.getElem_mem hj,hb⟩) h2
       exact badL_no h4
def push (o:List Int) (x:Int):List Int:=if 0<o.length/\o.getD (o.length-1) 0 = -x then o.take (o.length-1) else o++[x]
def gl (a b:List Int):List Int:=b.foldl push a
def RedP (a:List Int):Prop:=∀ i,i+1<a.length->a.getD i 0 ≠ -a.getD (i+1) 0
def SmI (a:List Int):Prop:=∀ i,-6<=a.getD i 0/\a.getD i 0<=6
structure TxOk (n m:Nat) (T:List (List Int)):Prop where
 ln:T.length=n
 red:∀ j,RedP (T.getD j [])
 len:∀ j,(T.getD j []).length<=m
 sm:∀ j,SmI (T.getD j [])
theorem TxOk.up {n m m':Nat} {T:List (List Int)} (h:TxOk n m T) (hm:m<=m'):TxOk n m' T:=⟨h.ln,h.red,fun j=>Nat.le_trans (h.len j) hm,h.sm⟩
def trd (l:List Int) (i:Nat):List Int:=(l.set (i-1) (l.getD i 0)).set i (l.getD (i-1) 0)
def begT (n:Nat) (w:List Int) (k:Nat):List Int:=(w.take k).foldl (fun l x=>trd l x.natAbs) (mapI n fun i=>(i:Int)+1)
theorem begT_next (n:Nat) (w:List Int) (k:Nat) (h:k<w.length):begT n w (k+1)=trd (begT n w k) (w.getD k 0).natAbs:=by
 unfold begT
 rw[List.take_succ_eq_append_getElem h,List.foldl_append,List.getD_eq_getElem?_getD,List.getElem?_eq_getElem h]
 rfl
structure PlOk (n:Nat) (l:List Int):Prop where
 ln:l.length=n
 rng:∀ i,i<n->1<=l.getD i 0/\l.getD i 0<=n
theorem getD_setI (l:List Int) (i j:Nat) (x:Int):(l.set i x).getD j 0=if j=i/\i<l.length then x else l.getD j 0:=by
 rw[List.getD_eq_getElem?_getD,List.getElem?_set]
 by_cases e:i=j
 · subst e
   by_cases h:i<l.length
   · rw[if_pos rfl,if_pos h,if_pos ⟨rfl,h⟩];rfl
   · rw[if_pos rfl,if_neg h,if_neg (fun q=>h q.2),List.getD_eq_getElem?_getD,List.getElem?_eq_none (by omega)]
 · rw[if_neg e,if_neg (fun q=>e q.1.symm),List.getD_eq_getElem?_getD]
theorem PlOk.trd {n:Nat} {l:List Int} (h:PlOk n l) {i:Nat} (hi:i<n):PlOk n (trd l i):=by
 refine⟨by unfold Go.Proofs.YtiliihlkpknhdaaDoor.trd;simp[h.ln],fun j hj=>?_⟩
 unfold Go.Proofs.YtiliihlkpknhdaaDoor.trd
 rw[getD_setI,getD_setI]
 split
 · exact h.rng _ (by omega)
 · split
   · exact h.rng _ hi
   · exact h.rng _ hj
theorem begT_ok (n:Nat) (w:List Int) (hw:∀ j,j<w.length->(w.getD j 0).natAbs<n) (k:Nat) (hk:k<=w.length):PlOk n (begT n w k):=by
 induction k with
 |zero=>exact⟨mapI_len _ _,fun i hi=>by show 1<=(mapI n fun i=>(i:Int)+1).getD i 0/\_;rw[show(begT n w 0)=mapI n fun i=>(i:Int)+1 from rfl,mapI_at _ _ _ hi];omega⟩
 |succ k ih=>
  rw[begT_next n w k (by omega)]
  exact(ih (by omega)).trd (hw k (by omega))
def endT (l:List Int) (k:Nat):List Int:=(List.range k).foldl (fun o i=>o.set (l.getD i 0-1).toNat ((i:Int)+1)) (List.replicate l.length 0)
theorem endT_next (l:List Int) (k:Nat):endT l (k+1)=(endT l k).set (l.getD k 0-1).toNat ((k:Int)+1):=by
 unfold endT
 rw[List.range_succ,List.foldl_append]
 rfl
theorem endT_len (l:List Int) (k:Nat):(endT l k).length=l.length:=by
 induction k with
 |zero=>simp[endT]
 |succ k ih=>rw[endT_next,List.length_set,ih]
end Go.Proofs.YtiliihlkpknhdaaDoor
/- What is wrong with words: the walks of braid.refusal and of what it calls. -/
namespace Go.Proofs.YtiliihlkpknhdaaDoor
open Go.RowKit
set_option maxHeartbeats 4000000
set_option maxRecDepth 100000
def wordsN (n:Int) (L:List (List Int)):Int:=if n<2∨6<n then 3 else if L.any (fun w=>w.any (badL n)) then 3 else if L.any (fun w=>decide (20<w.length)) then 2 else 0
theorem wordsN_one (n:Int) (w:List Int):wordsN n [w]=wordN n w:=by
 unfold wordsN wordN
 simp
theorem any_take_next (l:List Int) (p:Int->Bool) (i:Nat) (hi:i<l.length):(l.take (i+1)).any p=((l.take i).any p||p (l.getD i 0)):=by
 rw[List.take_succ_eq_append_getElem hi,List.any_append,List.getD_eq_getElem?_getD,List.getElem?_eq_getElem hi]
 simp
theorem any_some (l:List Int) (p:Int->Bool) (i:Nat) (hi:i<l.length) (h:p (l.getD i 0)=true):l.any p=true:=
 List.any_eq_true.2 ⟨l.getD i 0,by rw[List.getD_eq_getElem?_getD,List.getElem?_eq_getElem hi];exact List.getElem_mem hi,h⟩
theorem anyL_take_next (L:List (List Int)) (p:List Int->Bool) (i:Nat) (hi:i<L.length):(L.take (i+1)).any p=((L.take i).any p||p (L.getD i [])):=by
 rw[List.take_succ_eq_append_getElem hi,List.any_append,List.getD_eq_getElem?_getD,List.getElem?_eq_getElem hi]
 simp
theorem anyL_some (L:List (List Int)) (p:List Int->Bool) (i:Nat) (hi:i<L.length) (h:p (L.getD i [])=true):L.any p=true:=
 List.any_eq_true.2 ⟨L.getD i [],by rw[List.getD_eq_getElem?_getD,List.getElem?_eq_getElem hi];exact List.getElem_mem hi,h⟩
theorem none_any (x n : Int) (g : Nat) (w : World) (h2 : 2 ≤ n) (h6 : n ≤ 6) (hg : w.heap[g]? = some (.cells #[.int .i64 n] 3 (0, 0))) :
    Calls Tryd.prog 54 #[.int .i64 x,.pointer (some ⟨g,0,none⟩)] w fun e w'=>e=.returned (.bool (badL n x))/\w'=w:=by
 have c0:w.cell? ⟨g,0,none⟩=some (.int .i64 n):=block_cell hg rfl
 have l0:g<w.heap.size:=(Array.getElem?_eq_some_iff.1 hg).1
 clear hg
 by_cases e0:x=0
 · have HR:Hid (badL n x=true):=(by unfold badL;simp[e0]:badL n x=true)
   go_enter Tryd.func54,Tryd.ntmps54
   go_wp2
   go_ret
   exact⟨by rw[HR.out];rfl,rfl⟩
 · have e0b:(x==0)=false:=beq_eq_false_iff_ne.2 e0
   by_cases e1:x <= -n
   · have HR:Hid (badL n x=true):=(by unfold badL;simp[e1]:badL n x=true)
     go_enter Tryd.func54,Tryd.ntmps54
     go_wp2
     go_ret
     exact⟨by rw[HR.out];rfl,rfl⟩
   · by_cases e2:n<=x
     · have HR:Hid (badL n x=true):=(by unfold badL;simp[e2]:badL n x=true)
       go_enter Tryd.func54,Tryd.ntmps54
       go_wp2
       go_ret
       exact⟨by rw[HR.out];rfl,rfl⟩
     · have HR:Hid (badL n x=false):=(by unfold badL;simp[e0,e1,e2]:badL n x=false)
       go_enter Tryd.func54,Tryd.ntmps54
       go_wp2
       go_ret
       exact⟨by rw[HR.out];rfl,rfl⟩
theorem indexBad_any (a : Option Addr) (cap : Nat) (l : List Int) (n : Int) (g : Nat) (w : World) (h2 : 2 ≤ n) (h6 : n ≤ 6) (hl : l.length ≤ 140737488355328) (hg : w.heap[g]? = some (.cells #[.int .i64 n] 3 (0, 0))) (h : RdAt w w.heap.size 1 (.slice a l.length cap) l.length (intsV l)) :
    Calls Tryd.prog 64 #[.slice a l.length cap,.func (.func 54) #[] #[.pointer (some ⟨g,0,none⟩)]] w fun e w'=>∃ r:Int,e=.returned (.int .i64 r)/\decide (0<=r)=l.any (badL n)/\w'=w:=by
 have HR:Hid (RdAt w w.heap.size 1 (.slice a l.length cap) l.length (intsV l)):=h
 have HG:Hid (w.heap[g]?=some (.cells #[.int .i64 n] 3 (0,0))):=hg
 obtain⟨m,hm⟩:∃ m,l.length=m:=⟨_,rfl⟩
 have HM:Hid (l.length=m):=hm
 rw[hm]at hl ⊢
 clear h hg hm
 go_enter Tryd.func64,Tryd.ntmps64
 go_wp2
 go_loopw [8] (fun v8 wr=>∃ i:Nat,i<=m/\v8=.int .i64 (i:Nat)/\Hid ((l.take i).any (badL n)=false)/\wr=w) (fun v8 _=>m-(intOf v8).toNat)
 case atStart=>exact⟨0,Nat.zero_le _,rfl,rfl,rfl⟩
 case round=>
  obtain⟨i,him,rfl,hno,rfl⟩:=hrel
  by_cases hil:i<m
  · have hiI:(i:Int)<(m:Int):=by omega
    have hr:=HR.out
    rw[HM.out]at hr
    obtain⟨b,off,ea,hb,hc⟩:=HR.out.intAt i (by rw[HM.out];exact hil)
    have HX:Hid ((l.take (i+1)).any (badL n)=((l.take i).any (badL n)||badL n (l.getD i 0))):=any_take_next l _ i (by rw[HM.out];exact hil)
    have HS:Hid (badL n (l.getD i 0)=true->l.any (badL n)=true):=fun q=>any_some l _ i (by rw[HM.out];exact hil) q
    generalize l.getD i 0=x at hc HX HS
    subst ea
    have HN:Hid (Calls Tryd.prog 54 #[.int .i64 x,.pointer (some ⟨g,0,none⟩)] wr fun e w'=>e=.returned (.bool (badL n x))/\w'=wr):=none_any x n g wr h2 h6 HG.out
    clear hr
    cases hb0:badL n x with
    |true=>
     have HA:Hid (l.any (badL n)=true):=HS.out hb0
     rw[hb0]at HN
     clear hb0 HS HX
     go_wp2_with (go_at_call 54;refine HN.out.mono ?_;rintro e9 w9 ⟨rfl,rfl⟩;refine Hid.out ?_)
     refine Lib.hid ?_
     go_wp2
     go_ret
     exact⟨_,rfl,by rw[HA.out];exact decide_eq_true (by omega),rfl⟩
    |false=>
     have HA:Hid ((l.take (i+1)).any (badL n)=false):=(by rw[HX.out,hno.out,hb0];rfl:(l.take (i+1)).any (badL n)=false)
     rw[hb0]at HN
     clear hb0 HS HX
     go_wp2_with (go_at_call 54;refine HN.out.mono ?_;rintro e9 w9 ⟨rfl,rfl⟩;refine Hid.out ?_)
     refine Lib.hid ?_
     go_wp2
     go_roundw
     case rel=>exact⟨i+1,by omega,by go_num,HA.out,by first|trivial|rfl⟩
     case measure=>simp only[intOf];omega
  · obtain rfl:i=m:=by omega
    have HA:Hid (l.any (badL n)=false):=(by have:=hno.out;rw[<-HM.out,List.take_length]at this;exact this:l.any (badL n)=false)
    go_wp2
    go_ret
    exact⟨_,rfl,by rw[HA.out];rfl,rfl⟩
theorem containsBad_any (a : Option Addr) (cap : Nat) (l : List Int) (n : Int) (g : Nat) (w : World) (h2 : 2 ≤ n) (h6 : n ≤ 6) (hl : l.length ≤ 140737488355328) (hg : w.heap[g]? = some (.cells #[.int .i64 n] 3 (0, 0))) (h : RdAt w w.heap.size 1 (.slice a l.length cap) l.length (intsV l)) :
    Calls Tryd.prog 55 #[.slice a l.length cap,.func (.func 54) #[] #[.pointer (some ⟨g,0,none⟩)]] w fun e w'=>e=.returned (.bool (l.any (badL n)))/\w'=w:=by
 have HI:Hid (Calls Tryd.prog 64 #[.slice a l.length cap,.func (.func 54) #[] #[.pointer (some ⟨g,0,none⟩)]] w fun e w'=>∃ r:Int,e=.returned (.int .i64 r)/\decide (0<=r)=l.any (badL n)/\w'=w):=indexBad_any a cap l n g w h2 h6 hl hg h
 clear h hg
 generalize l.any (badL n)=bb at HI ⊢
 generalize l.length=m at HI hl ⊢
 go_enter Tryd.func55,Tryd.ntmps55
 go_wp2_with (go_at_call 64;refine HI.out.mono ?_;rintro e9 w2 ⟨r,rfl,hr,rfl⟩;refine Hid.out ?_)
 refine Lib.hid ?_
 have HR:Hid (decide (0<=r)=bb):=hr
 clear hr
 go_wp2
 go_ret
 exact⟨by rw[<-HR.out];rfl,rfl⟩
theorem refusal_any (v : Value) (L : List (List Int)) (n : Int) (w : World) (hL : L.length ≤ 1000) (hl : ∀ j, j < L.length → (L.getD j []).length ≤ 140737488355328) (h : IntsRd w w.heap.size v L) :
    Calls Tryd.prog 32 #[.int .i64 n,v] w fun e w'=>e=.returned (.int .i64 (wordsN n L))/\Below w.heap.size w w':=by
 obtain⟨a,cap,rfl⟩:=h.len
 have HI:Hid (IntsRd w w.heap.size (.slice a L.length cap) L):=h
 have HLL:Hid (∀ j,j<L.length->(L.getD j []).length<=140737488355328):=hl
 obtain⟨Y,hY⟩:∃ Y,Y=w.alloc (.cells #[.int .i64 n] 3):=⟨_,rfl⟩
 have HY:Hid (Y=w.alloc (.cells #[.int .i64 n] 3)):=hY
 have HBY:Hid (Below w.heap.size w Y):=(by rw[hY];exact(Below.refl _ _).alloc (Nat.le_refl _) _:Below w.heap.size w Y)
 have HT:Hid (Y.heap[w.heap.size]?=some (.cells #[.int .i64 n] 3 (0,0))):=(by rw[hY];exact alloc_at rfl:Y.heap[w.heap.size]?=some (.cells #[.int .i64 n] 3 (0,0)))
 have HIY:Hid (IntsRd Y Y.heap.size (.slice a L.length cap) L):=HI.out.up HBY.out
 have c0:Y.cell? ⟨w.heap.size,0,none⟩=some (.int .i64 n):=block_cell HT.out rfl
 have l0:w.heap.size<Y.heap.size:=(Array.getElem?_eq_some_iff.1 HT.out).1
 obtain⟨m,hm⟩:∃ m,L.length=m:=⟨_,rfl⟩
 have HM:Hid (L.length=m):=hm
 rw[hm]at hL ⊢
 clear h hl hY hm
 by_cases hn:n<2∨6<n
 · have HW:Hid (wordsN n L=3):=(by unfold wordsN;rw[if_pos hn]:wordsN n L=3)
   rcases hn with h1|h1
   · go_enter Tryd.func32,Tryd.ntmps32
     go_wp2
     rw[<-HY.out]
     go_ret
     exact⟨by rw[HW.out];rfl,HBY.out⟩
   · have h1':¬ n<2:=by omega
     go_enter Tryd.func32,Tryd.ntmps32
     go_wp2
     rw[<-HY.out]
     go_ret
     exact⟨by rw[HW.out];rfl,HBY.out⟩
 · have h2:2<=n:=by omega
   have h6:n<=6:=by omega
   have HW:Hid (wordsN n L=if L.any (fun w=>w.any (badL n)) then 3 else if L.any (fun w=>decide (20<w.length)) then 2 else 0):=(by unfold wordsN;rw[if_neg hn]:wordsN n L=if L.any (fun w=>w.any (badL n)) then 3 else if L.any (fun w=>decide (20<w.length)) then 2 else 0)
   clear hn
   go_enter Tryd.func32,Tryd.ntmps32
   go_wp2
   rw[<-HY.out]
   clear c0
   go_loopw [19] (fun v19 wr=>∃ i:Nat,i<=m/\v19=.int .i64 (i:Nat)/\Hid ((L.take i).any (fun w=>w.any (badL n))=false)/\wr=Y) (fun v19 _=>m-(intOf v19).toNat)
   case atStart=>exact⟨0,Nat.zero_le _,rfl,rfl,rfl⟩
   case round=>
    obtain⟨i,him,rfl,hno,rfl⟩:=hrel
    by_cases hil:i<m
    · have hiI:(i:Int)<(m:Int):=by omega
      have hiL:i<L.length:=by rw[HM.out];exact hil
      obtain⟨b,off,ar,cr,ea,hb,hc,hrd⟩:=HIY.out.row i hiL
      have HX:Hid ((L.take (i+1)).any (fun w=>w.any (badL n))=((L.take i).any (fun w=>w.any (badL n))||(L.getD i []).any (badL n))):=anyL_take_next L _ i hiL
      have HS:Hid ((L.getD i []).any (badL n)=true->L.any (fun w=>w.any (badL n))=true):=fun q=>anyL_some L _ i hiL q
      have HC:Hid (Calls Tryd.prog 55 #[.slice ar (L.getD i []).length cr,.func (.func 54) #[] #[.pointer (some ⟨w.heap.size,0,none⟩)]] wr fun e w'=>e=.returned (.bool ((L.getD i []).any (badL n)))/\w'=wr):=containsBad_any ar cr (L.getD i []) n w.heap.size wr h2 h6 (HLL.out i hiL) HT.out hrd
      subst ea
      clear hrd hiL
      generalize (L.getD i []).length=q at hc HC
      cases hb0:(L.getD i []).any (badL n) with
      |true=>
       have HA:Hid (L.any (fun w=>w.any (badL n))=true):=HS.out hb0
       rw[hb0]at HC
       clear hb0 HS HX
       go_wp2_with (go_at_call 55;refine HC.out.mono ?_;rintro e9 w9 ⟨rfl,rfl⟩;refine Hid.out ?_)
       refine Lib.hid ?_
       go_wp2
       go_ret
       exact⟨by rw[HW.out,HA.out];rfl,HBY.out⟩
      |false=>
       have HA:Hid ((L.take (i+1)).any (fun w=>w.any (badL n))=false):=(by rw[HX.out,hno.out,hb0];rfl:(L.take (i+1)).any (fun w=>w.any (badL n))=false)
       rw[hb0]at HC
       clear hb0 HS HX
       go_wp2_with (go_at_call 55;refine HC.out.mono ?_;rintro e9 w9 ⟨rfl,rfl⟩;refine Hid.out ?_)
       refine Lib.hid ?_
       go_wp2
       go_roundw
       case rel=>exact⟨i+1,by omega,by go_num,HA.out,by first|trivial|rfl⟩
       case measure=>simp only[intOf];omega
    · obtain rfl:i=m:=by omega
      have HA:Hid (L.any (fun w=>w.any (badL n))=false):=(by have:=hno.out;rw[<-HM.out,List.take_length]at this;exact this:L.any (fun w=>w.any (badL n))=false)
      clear hno hil
      go_wp2
      go_loopw [29] (fun v29 w'=>∃ k:Nat,k<=i/\v29=.int .i64 (k:Nat)/\Hid ((L.take k).any (fun w=>decide (20<w.length))=false)/\w'=wr) (fun v29 _=>i-(intOf v29).toNat)
      case atStart=>exact⟨0,Nat.zero_le _,rfl,rfl,rfl⟩
      case round=>
       obtain⟨k,hkm,rfl,hno2,rfl⟩:=hrel
       by_cases hkl:k<i
       · have hkI:(k:Int)<(i:Int):=by omega
         have hkL:k<L.length:=by rw[HM.out];exact hkl
         obtain⟨b,off,ar,cr,ea,hb,hc,-⟩:=HIY.out.row k hkL
         have HX:Hid ((L.take (k+1)).any (fun w=>decide (20<w.length))=((L.take k).any (fun w=>decide (20<w.length))||decide (20<(L.getD k []).length))):=anyL_take_next L _ k hkL
         have HS:Hid (decide (20<(L.getD k []).length)=true->L.any (fun w=>decide (20<w.length))=true):=fun q=>anyL_some L _ k hkL q
         have hql:=HLL.out k hkL
         subst ea
         clear hkL
         generalize (L.getD k []).length=q at hc HX HS hql
         by_cases hq:20<q
         · have HAA:Hid (L.any (fun w=>decide (20<w.length))=true):=HS.out (decide_eq_true hq)
           have hqI:(20:Int)<(q:Int):=by omega
           clear HS HX
           go_wp2
           go_ret
           exact⟨by rw[HW.out,HA.out,HAA.out];rfl,HBY.out⟩
         · have HAA:Hid ((L.take (k+1)).any (fun w=>decide (20<w.length))=false):=(by rw[HX.out,hno2.out,decide_eq_false hq];rfl:(L.take (k+1)).any (fun w=>decide (20<w.length))=false)
           have hqI:¬ (20:Int)<(q:Int):=by omega
           clear HS HX
           go_wp2
           go_roundw
           case rel=>exact⟨k+1,by omega,by go_num,HAA.out,by first|trivial|rfl⟩
           case measure=>simp only[intOf];omega
       · obtain rfl:k=i:=by omega
         have HAA:Hid (L.any (fun w=>decide (20<w.length))=false):=(by have:=hno2.out;rw[<-HM.out,List.take_length]at this;exact this:L.any (fun w=>decide (20<w.length))=false)
         go_wp2
         go_ret
         exact⟨by rw[HW.out,HA.out,HAA.out];rfl,HBY.out⟩
end Go.Proofs.YtiliihlkpknhdaaDoor
/- Plain mathematics: a drawing is coloured in as many ways by arcs as by overpasses. -/
namespace Go.Proofs.YtiliihlkpknhdaaDoor
theorem rootsN_at (W:List Nat) (a:Nat) (h1:1<=a):rootsN W (a+1)=rootsN W a+(if W.getD a 0=a then 1 else 0):=by
 show rootsN W a+_=_
 by_cases e:W.getD a 0=a
 · rw[if_pos ⟨h1,e⟩,if_pos e]
 · rw[if_neg (fun h=>e h.2),if_neg e]
end Go.Proofs.YtiliihlkpknhdaaDoor
/- Tables of numbers that a call owns, n rows of m. -/
namespace Go.Proofs.YtiliihlkpknhdaaDoor
open Go.RowKit
def outT (n m:Nat) (gs:Nat->Nat) (k:Nat):List Value:=(List.range n).map fun i=>if i<k then .slice (some ⟨gs i,0,none⟩) m m else .slice none 0 0
theorem outT_len (n m:Nat) (gs:Nat->Nat) (k:Nat):(outT n m gs k).length=n:=by simp[outT]
theorem outT_get (n m:Nat) (gs:Nat->Nat) (k i:Nat) (h:i<n):(outT n m gs k)[i]?=some (if i<k then .slice (some ⟨gs i,0,none⟩) m m else .slice none 0 0):=by simp[outT,h]
structure Tb (B gt n m:Nat) (gs:Nat->Nat) (k:Nat) (T:Nat->Nat->Int) (W:World):Prop where
 outer:W.ownsRow B 22 1 (.slice (some ⟨gt,0,none⟩) n n) n (outT n m gs k)
 rows:∀ i,i<k->W.ownsRow B 3 1 (.slice (some ⟨gs i,0,none⟩) m m) m (intsV (mapI m (T i)))
 inj:∀ i j,i<k->j<k->gs i=gs j->i=j
theorem Tb.any {B gt n m k:Nat} {gs:Nat->Nat} {T:Nat->Nat->Int} {W W':World} (h:Tb B gt n m gs k T W) (hg:W.grownBy W' none):Tb B gt n m gs k T W':=
 ⟨own_any h.outer hg,fun i hi=>own_any (h.rows i hi) hg,h.inj⟩
theorem Tb.cellO {B gt n m k:Nat} {gs:Nat->Nat} {T:Nat->Nat->Int} {W:World} (h:Tb B gt n m gs k T W) (i:Nat) (hi:i<k) (hm:i<n):W.cell? ⟨gt,i,none⟩=some (.slice (some ⟨gs i,0,none⟩) m m):=by
 rw[h.outer.cellAt i (by omega),outT_get n m gs k i hm,if_pos hi]
theorem Tb.cellR {B gt n m k:Nat} {gs:Nat->Nat} {T:Nat->Nat->Int} {W:World} (h:Tb B gt n m gs k T W) (i j:Nat) (hi:i<k) (hj:j<m):W.cell? ⟨gs i,j,none⟩=some (.int .i64 (T i j)):=by
 rw[(h.rows i hi).cellAt j (by omega),intsV_get _ j (by rw[mapI_len];exact hj),mapI_at _ _ _ hj]
theorem Tb.set {B gt n m k:Nat} {gs:Nat->Nat} {T T':Nat->Nat->Int} {W:World} (h:Tb B gt n m gs k T W) (i j:Nat) (x:Int) (hi:i<k) (hT:∀ a b,a<k->b<m->T' a b=if a=i/\b=j then x else T a b):Tb B gt n m gs k T' (W.setCell ⟨gs i,j,none⟩ (.int .i64 x))/\W.grownBy (W.setCell ⟨gs i,j,none⟩ (.int .i64 x)) (some (gs i)):=by
 have hst:=(h.rows i hi).stored j (.int .i64 x)
 rw[intsV_set]at hst
 refine⟨⟨h.outer.kept hst.2 (own_ne h.outer (h.rows i hi) (by decide)),fun a ha=>?_,h.inj⟩,hst.2⟩
 by_cases e:a=i
 · subst e
   rw[mapI_set m (T a) (T' a) j x (fun b hb=>by rw[hT a b ha hb];by_cases e:b=j<;>simp[e])]at hst
   exact hst.1
 · have hr:=(h.rows a ha).kept hst.2 (Or.inr (fun q=>e (h.inj a i ha hi (Option.some.inj q))))
   rw[mapI_congr m (T' a) (T a) (fun b hb=>by rw[hT a b ha hb,if_neg (fun q=>e q.1)])]
   exact hr
theorem Tb.more {B gt n m k g : Nat} {gs : Nat → Nat} {T : Nat → Nat → Int} {W W1 : World} (h : Tb B gt n m gs k T W) (hg : W.grownBy W1 none) (hrow : W1.ownsRow B 3 1 (.slice (some ⟨g, 0, none⟩) m m) m (intsV (mapI m (T k)))) (hnew : W.heap.size ≤ g) :
    Tb B gt n m (fun i=>if i=k then g else gs i) (k+1) T (W1.setCell ⟨gt,k,none⟩ (.slice (some ⟨g,0,none⟩) m m))/\W1.grownBy (W1.setCell ⟨gt,k,none⟩ (.slice (some ⟨g,0,none⟩) m m)) (some gt):=by
 have h1:=h.any hg
 have hst:=h1.outer.stored k (.slice (some ⟨g,0,none⟩) m m)
 have hlt:∀ i,i<k->gs i<g:=fun i hi=>by have:=((h.rows i hi).lt (gs i) rfl).2;omega
 refine⟨⟨?_,fun i hi=>?_,fun i j hi hj e=>?_⟩,hst.2⟩
 · have e : (outT n m gs k).set k (.slice (some ⟨g, 0, none⟩) m m) = outT n m (fun i => if i = k then g else gs i) (k + 1) := by
     apply List.ext_getElem?
     intro j
     by_cases hj:j<n
     · rw[outT_get _ _ _ _ _ hj,List.getElem?_set,outT_len]
       by_cases e:k=j
       · subst e;simp[hj]
       · rw[if_neg e,outT_get _ _ _ _ _ hj]
         by_cases h2:j<k
         · rw[if_pos h2,if_pos (by omega),if_neg (by omega)]
         · rw[if_neg h2,if_neg (by omega)]
     · rw[List.getElem?_eq_none (by simp[outT_len];omega),List.getElem?_eq_none (by simp[outT_len];omega)]
   rw[<-e]
   exact hst.1
 · by_cases e:i=k
   · subst e
     simp only[if_true]
     exact hrow.kept hst.2 (own_ne hrow h1.outer (by decide))
   · simp only[if_neg e]
     have hr:=h1.rows i (by omega)
     exact hr.kept hst.2 (own_ne hr h1.outer (by decide))
 · have e:(if i=k then g else gs i)=(if j=k then g else gs j):=e
   by_cases e1:i=k
   · by_cases e2:j=k
     · omega
     · rw[if_pos e1,if_neg e2]at e
       have:=hlt j (by omega)
       omega
   · by_cases e2:j=k
     · rw[if_neg e1,if_pos e2]at e
       have:=hlt i (by omega)
       omega
     · rw[if_neg e1,if_neg e2]at e
       exact h.inj i j (by omega) (by omega) e
theorem made_nilsT (n m:Nat):(madeCells (Value.slice none 0 0).cells (n*1)).toList=outT n m (fun _=>0) 0:=by
 have e:(Value.slice none 0 0).cells=#[Value.slice none 0 0]:=rfl
 rw[e,toList_madeCells_one,Nat.mul_one]
 apply List.ext_getElem?
 intro j
 by_cases hj:j<n
 · rw[outT_get _ _ _ _ _ hj,if_neg (by omega)];simp[hj]
 · rw[List.getElem?_eq_none (by simp;omega),List.getElem?_eq_none (by simp[outT_len];omega)]
theorem Tb.congr {B gt n m k:Nat} {gs:Nat->Nat} {T T':Nat->Nat->Int} {W:World} (h:Tb B gt n m gs k T W) (e:∀ x y,x<k->y<m->T' x y=T x y):Tb B gt n m gs k T' W:=
 ⟨h.outer,fun i hi=>by rw[mapI_congr m (T' i) (T i) (fun y hy=>e i y hi hy)];exact h.rows i hi,h.inj⟩
theorem Tb.kept {B gt n m k g:Nat} {gs:Nat->Nat} {T:Nat->Nat->Int} {W W':World} (h:Tb B gt n m gs k T W) (hg:W.grownBy W' (some g)) (h1:gt≠g) (h2:∀ i,i<k->gs i≠g):Tb B gt n m gs k T W':=
 ⟨h.outer.kept hg (Or.inr fun e=>h1 (Option.some.inj e)),fun i hi=>(h.rows i hi).kept hg (Or.inr fun e=>h2 i hi (Option.some.inj e)),h.inj⟩
theorem Tb.lt {B gt n m k:Nat} {gs:Nat->Nat} {T:Nat->Nat->Int} {W:World} (h:Tb B gt n m gs k T W):(B<=gt/\gt<W.heap.size)/\∀ i,i<k->B<=gs i/\gs i<W.heap.size:=⟨h.outer.lt gt rfl,fun i hi=>(h.rows i hi).lt (gs i) rfl⟩
theorem Tb.ne {B gt n m k i:Nat} {gs:Nat->Nat} {T:Nat->Nat->Int} {W:World} (h:Tb B gt n m gs k T W) {B' gt' n' m' k':Nat} {gs':Nat->Nat} {T':Nat->Nat->Int} (h':Tb B' gt' n' m' gs' k' T' W) (hi:i<k):gs i≠gt':=fun e=>by
 rcases own_ne (h.rows i hi) h'.outer (by decide) with h1|h1
 · cases h1
 · exact h1 (by rw[e];rfl)
end Go.Proofs.YtiliihlkpknhdaaDoor
