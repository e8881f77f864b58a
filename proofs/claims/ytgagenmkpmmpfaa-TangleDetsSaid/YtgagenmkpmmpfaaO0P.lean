/- Several texts of the proof, one behind the other. -/
import Derived.Test.YtgagenmkpmmpfaaBaseP
import Derived.Test.YtgagenmkpmmpfaaH7
import Derived.Lib.Hide
/- Plain mathematics: overpasses; labels that are merged edge by edge come to the least of what is joined. -/
namespace Go.Proofs.Ytgagenmkpmmpfaa
def mer (W:List Nat) (x y:Nat):List Nat:=W.map fun z=>if z=max (W.getD x 0) (W.getD y 0) then min (W.getD x 0) (W.getD y 0) else z
theorem mer_len (W:List Nat) (x y:Nat):(mer W x y).length=W.length:=by simp[mer]
theorem mer_at (W:List Nat) (x y v:Nat) (hv:v<W.length):(mer W x y).getD v 0=if W.getD v 0=max (W.getD x 0) (W.getD y 0) then min (W.getD x 0) (W.getD y 0) else W.getD v 0:=by
 simp[mer,List.getD_eq_getElem?_getD,hv]
theorem mer_least {F:List (Nat×Nat)} {n:Nat} {W:List Nat} (h:Least F n W) (x y:Nat) (hx:x<n) (hy:y<n) (hF:∀ e,e∈F->e.1<n/\e.2<n):Least (F++[(x,y)]) n (mer W x y):=by
 obtain⟨hl,h2⟩:=h
 have up:∀ {u v:Nat},Con F u v->Con (F++[(x,y)]) u v:=fun hc S hS hu=>hc S (fun e he=>hS e (List.mem_append_left _ he)) hu
 have hxy:Con (F++[(x,y)]) x y:=Con.edge (List.mem_append_right _ (List.Mem.head _))
 have lx:=up (h2 x hx).1
 have ly:=up (h2 y hy).1
 have hWW:Con (F++[(x,y)]) (W.getD x 0) (W.getD y 0):=lx.symm.trans (hxy.trans ly)
 have hmm:Con (F++[(x,y)]) (max (W.getD x 0) (W.getD y 0)) (min (W.getD x 0) (W.getD y 0)):=by
  rcases Nat.le_total (W.getD x 0) (W.getD y 0) with hle|hle
  · rw[Nat.max_eq_right hle,Nat.min_eq_left hle];exact hWW.symm
  · rw[Nat.max_eq_left hle,Nat.min_eq_right hle];exact hWW
 have hcon:∀ v,v<n->Con (F++[(x,y)]) v ((mer W x y).getD v 0):=fun v hv=>by
  rw[mer_at W x y v (by omega)]
  split
  · rename_i he
    have:=up (h2 v hv).1
    rw[he]at this
    exact this.trans hmm
  · exact up (h2 v hv).1
 have hle:∀ v,v<n->(mer W x y).getD v 0<=v:=fun v hv=>by
  have h3:=(h2 v hv).2 v (Con.refl F v)
  rw[mer_at W x y v (by omega)]
  split
  · rename_i he;omega
  · exact h3
 refine⟨by rw[mer_len];exact hl,fun v hv=>⟨hcon v hv,fun u hu=>?_⟩⟩
 have hcl:Closed (F++[(x,y)]) (fun z=>z<n/\(mer W x y).getD z 0=(mer W x y).getD v 0):=fun e he=>by
  rcases List.mem_append.1 he with h4|h4
  · obtain⟨e1,e2⟩:=hF e h4
    have hs:W.getD e.1 0=W.getD e.2 0:=by
     have c:Con F e.1 e.2:=Con.edge (by cases e;exact h4)
     exact Nat.le_antisymm ((h2 _ e1).2 _ (c.trans (h2 _ e2).1)) ((h2 _ e2).2 _ (c.symm.trans (h2 _ e1).1))
    have hm:(mer W x y).getD e.1 0=(mer W x y).getD e.2 0:=by
     rw[mer_at W x y _ (by omega),mer_at W x y _ (by omega),hs]
    show(e.1<n/\(mer W x y).getD e.1 0=_)↔(e.2<n/\(mer W x y).getD e.2 0=_)
    rw[hm];exact⟨fun q=>⟨e2,q.2⟩,fun q=>⟨e1,q.2⟩⟩
  · have:e=(x,y):=by simpa using h4
    subst this
    have hm:(mer W x y).getD x 0=(mer W x y).getD y 0:=by
     rw[mer_at W x y _ (by omega),mer_at W x y _ (by omega)]
     split<;>split<;>omega
    show(x<n/\(mer W x y).getD x 0=_)↔(y<n/\(mer W x y).getD y 0=_)
    rw[hm];exact⟨fun q=>⟨hy,q.2⟩,fun q=>⟨hx,q.2⟩⟩
 obtain⟨a1,a2⟩:=hu _ hcl ⟨hv,rfl⟩
 rw[<-a2]
 exact hle u a1
def mers (W:List Nat):List (Nat×Nat)->List Nat
 |[]=>W
 |e::E=>mers (mer W e.1 e.2) E
theorem mers_app (W:List Nat) (E F:List (Nat×Nat)):mers W (E++F)=mers (mers W E) F:=by
 induction E generalizing W with
 |nil=>rfl
 |cons e E ih=>exact ih _
theorem least_nil (n:Nat):Least [] n (List.range n):=by
 refine⟨by simp,fun v hv=>?_⟩
 have e:(List.range n).getD v 0=v:=by simp[List.getD_eq_getElem?_getD,hv]
 rw[e]
 exact ⟨Con.refl _ v, fun u hu => by
  have:=hu (fun z=>z=v) (fun e he=>by cases he) rfl
  omega⟩
theorem mers_least (n:Nat):∀ (E F:List (Nat×Nat)) (W:List Nat),(∀ e,e∈F++E->e.1<n/\e.2<n)->Least F n W->Least (F++E) n (mers W E):=by
 intro E
 induction E with
 |nil=>intro F W _ h;simpa[mers] using h
 |cons e E ih=>
  intro F W hE h
  obtain⟨e1,e2⟩:=hE e (by simp)
  have h':=mer_least h e.1 e.2 e1 e2 (fun f hf=>hE f (List.mem_append_left _ hf))
  have:=ih (F++[(e.1,e.2)]) _ (fun f hf=>hE f (by simpa using hf)) h'
  simpa[mers] using this
def ovE (C:List Cr):List (Nat×Nat):=C.map fun c=>(c.b.toNat,c.d.toNat)
def lowM (C:List Cr):List Nat:=mers (List.range (2*C.length+1)) (ovE C)
def rootsN (L:List Nat):Nat->Nat
 |0=>0
 |k+1=>rootsN L k+(if 1<=k/\L.getD k 0=k then 1 else 0)
def ovM (C:List Cr) (a:Nat):Nat:=rootsN (lowM C) ((lowM C).getD a 0)
def ovC (C:List Cr):Nat:=rootsN (lowM C) (2*C.length+1)
theorem rootsN_mono (L:List Nat) (i j:Nat) (h:i<=j):rootsN L i<=rootsN L j:=by
 induction j with
 | zero => obtain rfl : i = 0 := by omega
           exact Nat.le_refl _
 |succ j ih=>
  rcases Nat.lt_or_ge j i with h1|h1
  · obtain rfl:i=j+1:=by omega
    exact Nat.le_refl _
  · exact Nat.le_trans (ih h1) (by simp[rootsN])
theorem rootsN_le (L:List Nat) (i:Nat):rootsN L i<=i:=by
 induction i with
 |zero=>exact Nat.le_refl _
 |succ i ih=>simp only[rootsN];split<;>omega
theorem ovE_in {C:List Cr} {loops:Int} (hm:mayD C loops=true):∀ e,e∈ovE C->(1<=e.1/\e.1<2*C.length+1)/\(1<=e.2/\e.2<2*C.length+1):=fun e he=>by
 obtain⟨c,hc,rfl⟩:=List.mem_map.1 he
 obtain⟨i,hi,rfl⟩:=List.getElem_of_mem hc
 have h1:=may_fit hm i 1 hi (by omega)
 have h3:=may_fit hm i 3 hi (by omega)
 have e:C.getD i Cr.none=C[i]:=by simp[List.getD_eq_getElem?_getD,hi]
 have a1:(C.getD i Cr.none).arc 1=C[i].b:=by rw[e];rfl
 have a3:(C.getD i Cr.none).arc 3=C[i].d:=by rw[e];rfl
 have g1:=h1.1
 have g2:=h1.2.1
 have g3:=h3.1
 have g4:=h3.2.1
 rw[a1]at g1 g2
 rw[a3]at g3 g4
 refine⟨⟨?_,?_⟩,?_,?_⟩<;>dsimp only<;>omega
theorem ovE_lt {C:List Cr} {loops:Int} (hm:mayD C loops=true):∀ e,e∈ovE C->e.1<2*C.length+1/\e.2<2*C.length+1:=fun e he=>⟨(ovE_in hm e he).1.2,(ovE_in hm e he).2.2⟩
theorem lowM_least {C:List Cr} (hE:∀ e,e∈ovE C->e.1<2*C.length+1/\e.2<2*C.length+1):Least (ovE C) (2*C.length+1) (lowM C):=by
 have:=mers_least (2*C.length+1) (ovE C) [] (List.range (2*C.length+1)) (fun e he=>hE e (by simpa using he)) (least_nil _)
 simpa[lowM] using this
theorem Least.root {E:List (Nat×Nat)} {n:Nat} {W:List Nat} (h:Least E n W) {v:Nat} (hv:v<n):W.getD (W.getD v 0) 0=W.getD v 0:=(h.same (h.lt hv) hv).2 (h.2 v hv).1.symm
theorem Least.le {E:List (Nat×Nat)} {n:Nat} {W:List Nat} (h:Least E n W) {v:Nat} (hv:v<n):W.getD v 0<=v:=(h.2 v hv).2 v (Con.refl E v)
theorem Least.pos {E:List (Nat×Nat)} {n:Nat} {W:List Nat} (h:Least E n W) (hE:∀ e,e∈E->1<=e.1/\1<=e.2) {v:Nat} (hv:v<n) (h1:1<=v):1<=W.getD v 0:=by
 have:=(h.2 v hv).1 (fun z=>1<=z) (fun e he=>by simp[hE e he]) h1
 exact this
end Go.Proofs.Ytgagenmkpmmpfaa
/- Plain mathematics: edges and the edges that cross them; where Euler's number is that of spheres, a set of edges that comes to each corner an even number of times is the boundary of a set of faces. -/
namespace Go.Proofs.Ytgagenmkpmmpfaa
def xs (g:Nat->Bool):Nat->Bool
 |0=>false
 |m+1=>xor (xs g m) (g m)
theorem xs_congr {g h:Nat->Bool} {m:Nat} (e:∀ i,i<m->g i=h i):xs g m=xs h m:=by
 induction m with
 |zero=>rfl
 |succ m ih=>simp only[xs];rw[ih fun i hi=>e i (by omega),e m (by omega)]
theorem xs_none {g:Nat->Bool} {m:Nat} (e:∀ i,i<m->g i=false):xs g m=false:=by
 induction m with
 |zero=>rfl
 |succ m ih=>simp only[xs];rw[ih fun i hi=>e i (by omega),e m (by omega)];rfl
theorem xs_xor (g h:Nat->Bool) (m:Nat):xs (fun i=>xor (g i) (h i)) m=xor (xs g m) (xs h m):=by
 induction m with
 |zero=>rfl
 |succ m ih=>
  simp only[xs]
  rw[ih]
  cases xs g m<;>cases xs h m<;>cases g m<;>cases h m<;>rfl
theorem xs_last {g:Nat->Bool} {m i:Nat} (hi:i<m) (hg:g i=true) (lo:∀ j,j<i->g j=false) (hi2:∀ j,i<j->j<m->g j=false):xs g m=true:=by
 induction m with
 |zero=>omega
 |succ m ih=>
  simp only[xs]
  by_cases e:i=m
  · subst e
    rw[xs_none lo,hg];rfl
  · rw[ih (by omega) fun j h1 h2=>hi2 j h1 (by omega),hi2 m (by omega) (by omega)];rfl
def cntZ (g:Nat->Bool):Nat->Nat
 |0=>0
 |m+1=>cntZ g m+(if g m=true then 1 else 0)
theorem cntZ_not (g:Nat->Bool) (m:Nat):cntZ g m+cntZ (fun i=>!g i) m=m:=by
 induction m with
 |zero=>rfl
 |succ m ih=>
  simp only[cntZ]
  by_cases h:g m=true
  · simp[h];omega
  · simp[h];omega
theorem cntZ_le {g h:Nat->Bool} {m:Nat} (e:∀ i,i<m->g i=true->h i=true):cntZ g m<=cntZ h m:=by
 induction m with
 |zero=>exact Nat.le_refl _
 |succ m ih=>
  have h1:=ih fun i hi=>e i (by omega)
  simp only[cntZ]
  by_cases hg:g m=true
  · rw[if_pos hg,if_pos (e m (by omega) hg)];omega
  · rw[if_neg hg];omega
theorem cntZ_same {g h:Nat->Bool} {m:Nat} (e:∀ i,i<m->g i=true->h i=true) (hc:cntZ h m<=cntZ g m):∀ i,i<m->h i=true->g i=true:=by
 induction m with
 |zero=>intro i hi;omega
 |succ m ih=>
  have h1:=cntZ_le (m:=m) fun i hi=>e i (by omega)
  simp only[cntZ]at hc
  intro i hi hh
  by_cases hg:g m=true
  · have h2:=e m (by omega) hg
    rw[if_pos hg,if_pos h2]at hc
    by_cases ei:i=m
    · rw[ei];exact hg
    · exact ih (fun i hi=>e i (by omega)) (by omega) i (by omega) hh
  · rw[if_neg hg]at hc
    by_cases h2:h m=true
    · rw[if_pos h2]at hc;omega
    · rw[if_neg h2]at hc
      by_cases ei:i=m
      · rw[ei]at hh;exact absurd hh h2
      · exact ih (fun i hi=>e i (by omega)) (by omega) i (by omega) hh
def incl (E:Nat->Nat×Nat) (K:Nat->Bool):Nat->List (Nat×Nat)
 |0=>[]
 |m+1=>incl E K m++(if K m=true then [E m] else [])
theorem incl_mem {E:Nat->Nat×Nat} {K:Nat->Bool} {m:Nat} {e:Nat×Nat}:e∈incl E K m↔∃ i,i<m/\K i=true/\e=E i:=by
 induction m with
 |zero=>simp[incl]
 |succ m ih=>
  simp only[incl,List.mem_append,ih]
  constructor
  · rintro(⟨i,h1,h2,h3⟩|h)
    · exact⟨i,by omega,h2,h3⟩
    · by_cases hk:K m=true
      · rw[if_pos hk]at h
        exact⟨m,by omega,hk,List.mem_singleton.1 h⟩
      · rw[if_neg hk]at h;cases h
  · rintro⟨i,h1,h2,h3⟩
    by_cases e2:i=m
    · subst e2
      exact Or.inr (by rw[if_pos h2,h3];exact List.mem_singleton.2 rfl)
    · exact Or.inl ⟨i,by omega,h2,h3⟩
def cls (E:Nat->Nat×Nat) (K:Nat->Bool) (n m:Nat):List Nat:=mers (List.range n) (incl E K m)
theorem cls_least {E:Nat->Nat×Nat} {K:Nat->Bool} {n m:Nat} (hE:∀ i,i<m->(E i).1<n/\(E i).2<n):Least (incl E K m) n (cls E K n m):=by
 have h := mers_least n (incl E K m) [] (List.range n) (fun e he => by
  obtain⟨i,h1,-,rfl⟩:=incl_mem.1 (by simpa using he)
  exact hE i h1) (least_nil n)
 simpa[cls] using h
theorem cls_next {E:Nat->Nat×Nat} {K:Nat->Bool} {n m:Nat} (h:K m=true):cls E K n (m+1)=mer (cls E K n m) (E m).1 (E m).2:=by
 unfold cls
 simp only[incl]
 rw[if_pos h,mers_app]
 rfl
theorem cls_skip {E:Nat->Nat×Nat} {K:Nat->Bool} {n m:Nat} (h:¬ K m=true):cls E K n (m+1)=cls E K n m:=by
 unfold cls
 simp only[incl]
 rw[if_neg h,List.append_nil]
theorem mer_same {W:List Nat} {x y:Nat} (h:W.getD x 0=W.getD y 0):mer W x y=W:=by
 unfold mer
 rw[h]
 have:∀ z:Nat,(if z=max (W.getD y 0) (W.getD y 0) then min (W.getD y 0) (W.getD y 0) else z)=z:=fun z=>by
  split<;>omega
 simp only[this]
 exact List.map_id' W
def rt (W:List Nat):Nat->Nat
 |0=>0
 |k+1=>rt W k+(if W.getD k 0=k then 1 else 0)
theorem rt_all (n:Nat):∀ k,k<=n->rt (List.range n) k=k:=by
 intro k
 induction k with
 |zero=>intro _;rfl
 |succ k ih=>
  intro hk
  have e:(List.range n).getD k 0=k:=by simp[List.getD_eq_getElem?_getD,show k<n by omega]
  simp only[rt]
  rw[ih (by omega),if_pos e]
theorem rt_mer {Ed:List (Nat×Nat)} {n:Nat} {W:List Nat} (h:Least Ed n W) {x y:Nat} (hx:x<n) (hy:y<n) (hne:W.getD x 0≠W.getD y 0):∀ k,k<=n->rt (mer W x y) k+(if max (W.getD x 0) (W.getD y 0)<k then 1 else 0)=rt W k:=by
 have rx:=h.root hx
 have ry:=h.root hy
 intro k
 induction k with
 |zero=>intro _;simp[rt]
 |succ k ih=>
  intro hk
  have i1:=ih (by omega)
  have hm:=mer_at W x y k (by rw[h.1];omega)
  simp only[rt]
  by_cases he:k=max (W.getD x 0) (W.getD y 0)
  · have hroot : W.getD k 0 = k := by
      rcases Nat.le_total (W.getD x 0) (W.getD y 0) with hle|hle
      · have:k=W.getD y 0:=by omega
        rw[this];exact ry
      · have:k=W.getD x 0:=by omega
        rw[this];exact rx
    rw[if_pos (by rw[hroot];exact he)]at hm
    rw[if_neg (by omega)]at i1
    rw[if_pos hroot,if_neg (by rw[hm];omega),if_pos (by omega)]
    omega
  · by_cases hr:W.getD k 0=k
    · rw[if_neg (by rw[hr];exact he)]at hm
      rw[if_pos hr,if_pos (by rw[hm];exact hr)]
      by_cases hq:max (W.getD x 0) (W.getD y 0)<k
      · rw[if_pos hq]at i1
        rw[if_pos (by omega)]
        omega
      · rw[if_neg hq]at i1
        rw[if_neg (by omega)]
        omega
    · have h2 : ¬ (mer W x y).getD k 0 = k := by
        rw[hm]
        have hle:=h.le (v:=k) (by omega)
        have hlx:=h.lt hx
        split
        · rename_i q
          intro e
          rcases Nat.le_total (W.getD x 0) (W.getD y 0) with hle2|hle2
          · have e1:k=W.getD x 0:=by omega
            exact hr (by rw[e1];exact rx)
          · have e1:k=W.getD y 0:=by omega
            exact hr (by rw[e1];exact ry)
        · exact hr
      rw[if_neg hr,if_neg h2]
      by_cases hq:max (W.getD x 0) (W.getD y 0)<k
      · rw[if_pos hq]at i1
        rw[if_pos (by omega)]
        omega
      · rw[if_neg hq]at i1
        rw[if_neg (by omega)]
        omega
def newE (E:Nat->Nat×Nat) (K:Nat->Bool) (n i:Nat):Bool:=K i&&decide ((cls E K n i).getD (E i).1 0≠(cls E K n i).getD (E i).2 0)
theorem rt_cntZ {E:Nat->Nat×Nat} {K:Nat->Bool} {n m:Nat} (hE:∀ i,i<m->(E i).1<n/\(E i).2<n):rt (cls E K n m) n+cntZ (newE E K n) m=n:=by
 induction m with
 |zero=>simp[cls,incl,mers,cntZ,rt_all n n (Nat.le_refl _)]
 |succ m ih=>
  have h1:=ih fun i hi=>hE i (by omega)
  have hL:=cls_least (E:=E) (K:=K) (n:=n) (m:=m) fun i hi=>hE i (by omega)
  simp only[cntZ]
  by_cases hk:K m=true
  · rw[cls_next hk]
    by_cases hne:(cls E K n m).getD (E m).1 0=(cls E K n m).getD (E m).2 0
    · rw[mer_same hne,if_neg (by simp[newE,hne,-List.getD_eq_getElem?_getD])]
      omega
    · have h2:=rt_mer hL (hE m (by omega)).1 (hE m (by omega)).2 hne n (Nat.le_refl _)
      rw[if_pos (by have:=hL.lt (hE m (by omega)).1;have:=hL.lt (hE m (by omega)).2;omega)]at h2
      rw[if_pos (by simp[newE,hk,hne,-List.getD_eq_getElem?_getD])]
      omega
  · rw[cls_skip hk,if_neg (by simp[newE,hk])]
    omega
theorem even_forest {E : Nat → Nat × Nat} {K B : Nat → Bool} {n m : Nat} (hE : ∀ i, i < m → (E i).1 < n ∧ (E i).2 < n) (hF : ∀ i, i < m → K i = true → newE E K n i = true) (hB : ∀ i, i < m → B i = true → K i = true)
    (hev:∀ S:Nat->Bool,xs (fun i=>B i&&xor (S (E i).1) (S (E i).2)) m=false):∀ i,i<m->B i=false:=by
 have key:∀ d i,i<m->m<=i+d->B i=false:=by
  intro d
  induction d with
  |zero=>intro i h1 h2;omega
  |succ d ih=>
   intro i h1 h2
   by_cases hb:B i=true
   · exfalso
     have hn:=hF i h1 (hB i h1 hb)
     have hL:=cls_least (E:=E) (K:=K) (n:=n) (m:=i) fun j hj=>hE j (by omega)
     have h3 := xs_last (g := fun j => B j && xor (decide ((cls E K n i).getD (E j).1 0 = (cls E K n i).getD (E i).1 0)) (decide ((cls E K n i).getD (E j).2 0 = (cls E K n i).getD (E i).1 0))) h1 (by
      simp only[newE,Bool.and_eq_true,decide_eq_true_eq]at hn
      have:¬ (cls E K n i).getD (E i).2 0=(cls E K n i).getD (E i).1 0:=fun e=>hn.2 e.symm
      simp[hb,this,-List.getD_eq_getElem?_getD]) (fun j hj=>by
      by_cases hbj:B j=true
      · have hs:(cls E K n i).getD (E j).1 0=(cls E K n i).getD (E j).2 0:=(hL.same (hE j (by omega)).1 (hE j (by omega)).2).2 (Con.edge (incl_mem.2 ⟨j,hj,hB j (by omega) hbj,rfl⟩))
        simp only[hs,Bool.xor_self,Bool.and_false]
      · simp[hbj]) (fun j h4 h5=>by
      rw[ih j h5 (by omega)];rfl)
     have h4:=hev fun v=>decide ((cls E K n i).getD v 0=(cls E K n i).getD (E i).1 0)
     rw[h3]at h4
     cases h4
   · simpa using hb
 exact fun i hi=>key m i hi (by omega)
theorem greedy {E:Nat->Nat×Nat} {n:Nat} {K:Nat->Bool} (hK:∀ i,K i=newE E (fun _=>true) n i):∀ m,cls E K n m=cls E (fun _=>true) n m:=by
 intro m
 induction m with
 |zero=>rfl
 |succ m ih=>
  rw[cls_next (K:=fun _=>true) rfl]
  by_cases hk:K m=true
  · rw[cls_next hk,ih]
  · rw[cls_skip hk,ih]
    rw[hK m]at hk
    simp only[newE,Bool.true_and,decide_eq_true_eq,Classical.not_not]at hk
    exact(mer_same hk).symm
theorem con_all {E:Nat->Nat×Nat} {K:Nat->Bool} {m:Nat} (h:∀ i,i<m->Con (incl E K m) (E i).1 (E i).2) {x y:Nat}:Con (incl E K m) x y↔Con (incl E (fun _=>true) m) x y:=by
 constructor
 · intro hc S hS hx
   exact hc S (fun e he => hS e (by
    obtain⟨i,h1,-,h3⟩:=incl_mem.1 he
    exact incl_mem.2 ⟨i,h1,rfl,h3⟩)) hx
 · intro hc S hS hx
   refine hc S (fun e he=>?_) hx
   obtain⟨i,h1,-,rfl⟩:=incl_mem.1 he
   exact⟨fun q=>h i h1 S hS q,fun q=>(h i h1).symm S hS q⟩
theorem sphere_even {E D : Nat → Nat × Nat} {m n f : Nat} (hE : ∀ i, i < m → (E i).1 < n ∧ (E i).2 < n) (hD : ∀ i, i < m → (D i).1 < f ∧ (D i).2 < f)
    (hX:∀ S g:Nat->Bool,xs (fun i=>xor (S (E i).1) (S (E i).2)&&xor (g (D i).1) (g (D i).2)) m=false)
    (hEu:m+rt (cls E (fun _=>true) n m) n+rt (cls D (fun _=>true) f m) f<=n+f)
    (A:Nat->Bool) (hA:∀ S:Nat->Bool,xs (fun i=>A i&&xor (S (E i).1) (S (E i).2)) m=false):
    ∃ g:Nat->Bool,∀ i,i<m->A i=xor (g (D i).1) (g (D i).2):=by
 obtain⟨T,hT⟩:∃ T:Nat->Bool,∀ i,T i=newE D (fun _=>true) f i:=⟨_,fun _=>rfl⟩
 have hg:=greedy hT
 have hTF:∀ i,i<m->T i=true->newE D T f i=true:=fun i _ h=>by
  have h2:=h
  rw[hT i]at h2
  simp only[newE,Bool.true_and]at h2
  simp only[newE,h,Bool.true_and]
  rw[hg i]
  exact h2
 -- the faces along the forest
 have step:∀ k,k<=m->∃ g:Nat->Bool,∀ i,i<k->T i=true->A i=xor (g (D i).1) (g (D i).2):=by
  intro k
  induction k with
  |zero=>intro _;exact⟨fun _=>false,fun i hi=>by omega⟩
  |succ k ih=>
   intro hk
   obtain⟨g,hgk⟩:=ih (by omega)
   by_cases hq:T k=true/\A k≠xor (g (D k).1) (g (D k).2)
   · have hn:=hTF k (by omega) hq.1
     simp only[newE,hq.1,Bool.true_and,decide_eq_true_eq]at hn
     have hL:=cls_least (E:=D) (K:=T) (n:=f) (m:=k) fun j hj=>hD j (by omega)
     refine⟨fun v=>xor (g v) (decide ((cls D T f k).getD v 0=(cls D T f k).getD (D k).2 0)),fun i hi ht=>?_⟩
     by_cases e:i=k
     · subst e
       have h2:=hq.2
       simp only[hn,decide_false,decide_true]
       revert h2
       cases A i<;>cases g (D i).1<;>cases g (D i).2<;>simp
     · have hs:(cls D T f k).getD (D i).1 0=(cls D T f k).getD (D i).2 0:=(hL.same (hD i (by omega)).1 (hD i (by omega)).2).2 (Con.edge (incl_mem.2 ⟨i,by omega,ht,rfl⟩))
       have h1:=hgk i (by omega) ht
       simp only[hs]
       rw[h1]
       cases g (D i).1<;>cases g (D i).2<;>cases (decide ((cls D T f k).getD (D i).2 0=(cls D T f k).getD (D k).2 0))<;>rfl
   · refine⟨g,fun i hi ht=>?_⟩
     by_cases e:i=k
     · subst e
       exact Classical.byContradiction fun h=>hq ⟨ht,h⟩
     · exact hgk i (by omega) ht
 obtain⟨g,hgm⟩:=step m (Nat.le_refl _)
 refine⟨g,?_⟩
 -- the others join all corners
 have hcon:∀ i,i<m->(cls E (fun j=>!T j) n m).getD (E i).1 0=(cls E (fun j=>!T j) n m).getD (E i).2 0:=by
  intro i hi
  have hL:=cls_least (E:=E) (K:=fun j=>!T j) (n:=n) (m:=m) hE
  refine Classical.byContradiction fun hne=>?_
  have h1 := even_forest (E := D) (K := T) (B := fun j => xor (decide ((cls E (fun j => !T j) n m).getD (E j).1 0 = (cls E (fun j => !T j) n m).getD (E i).1 0)) (decide ((cls E (fun j => !T j) n m).getD (E j).2 0 = (cls E (fun j => !T j) n m).getD (E i).1 0))) hD hTF (fun j hj hb => by
   refine Classical.byContradiction fun ht=>?_
   have hs:(cls E (fun j=>!T j) n m).getD (E j).1 0=(cls E (fun j=>!T j) n m).getD (E j).2 0:=(hL.same (hE j hj).1 (hE j hj).2).2 (Con.edge (incl_mem.2 ⟨j,hj,by simpa using ht,rfl⟩))
   simp only[hs,Bool.xor_self]at hb
   cases hb) (fun S=>hX (fun v=>decide ((cls E (fun j=>!T j) n m).getD v 0=(cls E (fun j=>!T j) n m).getD (E i).1 0)) S) i hi
  have:¬ (cls E (fun j=>!T j) n m).getD (E i).2 0=(cls E (fun j=>!T j) n m).getD (E i).1 0:=fun e=>hne e.symm
  simp[this,-List.getD_eq_getElem?_getD]at h1
 have hLK:=cls_least (E:=E) (K:=fun j=>!T j) (n:=n) (m:=m) hE
 have hLA:=cls_least (E:=E) (K:=fun _=>true) (n:=n) (m:=m) hE
 have heq:cls E (fun j=>!T j) n m=cls E (fun _=>true) n m:=by
  have hc:∀ {x y:Nat},Con (incl E (fun j=>!T j) m) x y↔Con (incl E (fun _=>true) m) x y:=fun {x y}=>con_all fun i hi=>(hLK.same (hE i hi).1 (hE i hi).2).1 (hcon i hi)
  refine Least.eq (E:=incl E (fun _=>true) m) (n:=n) ⟨hLK.1,fun v hv=>⟨hc.1 (hLK.2 v hv).1,fun u hu=>(hLK.2 v hv).2 u (hc.2 hu)⟩⟩ hLA
 -- so they are a forest
 have c1:=rt_cntZ (E:=E) (K:=fun j=>!T j) (n:=n) (m:=m) hE
 have c2:=rt_cntZ (E:=D) (K:=fun _=>true) (n:=f) (m:=m) hD
 have c3:=cntZ_not T m
 have c4:cntZ (newE D (fun _=>true) f) m=cntZ T m:=by
  have:newE D (fun _=>true) f=T:=funext fun i=>(hT i).symm
  rw[this]
 rw[heq]at c1
 have hKF : ∀ i, i < m → (!T i) = true → newE E (fun j => !T j) n i = true := cntZ_same (fun i _ h => by
  simp only[newE,Bool.and_eq_true]at h
  exact h.1) (by omega)
 have hz := even_forest (E := E) (K := fun j => !T j) (B := fun i => xor (A i) (xor (g (D i).1) (g (D i).2))) hE hKF (fun i hi hb => by
  by_cases ht:T i=true
  · rw[hgm i hi ht]at hb
    simp at hb
  · simpa using ht) (fun S=>by
  have h1:=hA S
  have h2:=hX S g
  have h3:=xs_xor (fun i=>A i&&xor (S (E i).1) (S (E i).2)) (fun i=>xor (S (E i).1) (S (E i).2)&&xor (g (D i).1) (g (D i).2)) m
  rw[h1,h2]at h3
  rw[<-show xor false false=false from rfl,<-h3]
  refine xs_congr fun i _=>?_
  cases A i<;>cases g (D i).1<;>cases g (D i).2<;>cases S (E i).1<;>cases S (E i).2<;>rfl)
 intro i hi
 have:=hz i hi
 revert this
 cases A i<;>cases g (D i).1<;>cases g (D i).2<;>simp
end Go.Proofs.Ytgagenmkpmmpfaa
/- A drawing in a world; the walks of Drawing.Above, Drawing.Leaving and Drawing.Ahead. -/
namespace Go.Proofs.Ytgagenmkpmmpfaa
open Go.RowKit
set_option maxHeartbeats 4000000
set_option maxRecDepth 100000
theorem alloc_at {w:World} {o:Obj} {k:Nat} (h:k=w.heap.size):(w.alloc o).heap[k]?=some o:=by
 rw[h]
 exact Array.getElem?_push_size
theorem alloc_old {w:World} {o p:Obj} {k:Nat} (h:w.heap[k]?=some p):(w.alloc o).heap[k]?=some p:=by
 have hk:k<w.heap.size:=(Array.getElem?_eq_some_iff.1 h).1
 exact((World.grownBy_alloc w o none).block k hk (by simp)).trans h
structure Dr (w:World) (a:Option Addr) (cap:Nat) (C:List Cr) (gF gT:Nat):Prop where
 crs:Crs w w.heap.size (.slice a C.length cap) C
 ltF:gF<w.heap.size
 ltT:gT<w.heap.size
 from_:TermsAt w gF 0 (ends C false C.length 0)
 to:TermsAt w gT 0 (ends C true C.length 0)
theorem Crs.on {w w':World} {B:Nat} {v:Value} {C:List Cr} (h:Crs w B v C) (hb:Below B w w'):Crs w' B v C:=by
 obtain⟨a,cap,rfl,hn,g⟩:=h
 refine⟨a,cap,rfl,hn,fun h0=>?_⟩
 obtain⟨b,off,rfl,hlt,hC⟩:=g h0
 exact⟨b,off,rfl,hlt,hC.on hb hlt⟩
theorem Crs.mono {w:World} {B B':Nat} {v:Value} {C:List Cr} (h:Crs w B v C) (hB:B<=B'):Crs w B' v C:=by
 obtain⟨a,cap,rfl,hn,g⟩:=h
 refine⟨a,cap,rfl,hn,fun h0=>?_⟩
 obtain⟨b,off,rfl,hlt,hC⟩:=g h0
 exact⟨b,off,rfl,Nat.lt_of_lt_of_le hlt hB,hC⟩
theorem Crs.up {w w':World} {v:Value} {C:List Cr} (h:Crs w w.heap.size v C) (hb:Below w.heap.size w w'):Crs w' w'.heap.size v C:=(h.on hb).mono hb.size
theorem Dr.on {w w':World} {a:Option Addr} {cap:Nat} {C:List Cr} {gF gT:Nat} (h:Dr w a cap C gF gT) (hb:Below w.heap.size w w'):Dr w' a cap C gF gT:=
 ⟨h.crs.up hb,Nat.lt_of_lt_of_le h.ltF hb.size,Nat.lt_of_lt_of_le h.ltT hb.size,h.from_.on hb h.ltF,h.to.on hb h.ltT⟩
theorem Dr.cross {w:World} {a:Option Addr} {cap:Nat} {C:List Cr} {gF gT:Nat} (h:Dr w a cap C gF gT) (hp:0<C.length):∃ b off,a=some ⟨b,off,none⟩/\b<w.heap.size/\CrossAt w b off C:=by
 obtain⟨a',cap',e,_,g⟩:=h.crs
 injection e with e1 e2 e3
 obtain⟨b,off,h1,h2,h3⟩:=g hp
 exact⟨b,off,by rw[e1,h1],h2,h3⟩
theorem Dr.toAt {w : World} {a : Option Addr} {cap : Nat} {C : List Cr} {gF gT : Nat} {loops : Int} (h : Dr w a cap C gF gT) (hm : mayD C loops = true) (x : Nat) (h1 : 1 ≤ x) (h2 : x ≤ 2 * C.length) :
    w.cell? ⟨gT,x*2,none⟩=some (.int .i64 (toC C x:Nat))/\w.cell? ⟨gT,x*2+1,none⟩=some (.int .i64 (toS C x:Nat)):=by
 have hT:=h.to x (by rw[ends_length];omega)
 rw[ends_at C true C.length 0 x h1 h2,Nat.zero_add]at hT
 have e:endAh C x true C.length 0=endTo C x true C.length:=rfl
 rw[e,(to_may hm x h1 h2).1]at hT
 exact hT
def drV (a:Option Addr) (cap:Nat) (C:List Cr) (loops:Int) (gF cF gT cT:Nat):Value:=.agg #[.slice a C.length cap,.int .i64 loops,.slice (some ⟨gF,0,none⟩) (2*C.length+1) cF,.slice (some ⟨gT,0,none⟩) (2*C.length+1) cT]
theorem across_any (i : Int) (k : Nat) (w : World) (hk : k < 4) :
    Calls Try.prog 44 #[.agg #[.int .i64 i,.int .i64 k]] w fun e w'=>e=.returned (.agg #[.int .i64 i,.int .i64 ((k+2)%4:Nat)])/\Below w.heap.size w w':=by
 obtain⟨k2,hk2⟩:∃ k2:Nat,k2=(k+2)%4:=⟨_,rfl⟩
 have e1:IntKind.i64.wrap ((k:Int)+2)=(k:Int)+2:=IntWalk.i64_in _ (by omega)
 have e2:((k:Int)+2).tmod 4=(k2:Int):=by rw[Int.tmod_eq_emod_of_nonneg (by omega)];omega
 rw[<-hk2]
 clear hk2
 have hB:Below w.heap.size w ((w.alloc (.cells #[.int .i64 i,.int .i64 k] 66)).alloc (.cells #[.int .i64 i,.int .i64 k2] 66)):=below2 _ _ _
 have hG:((w.alloc (.cells #[.int .i64 i,.int .i64 k] 66)).alloc (.cells #[.int .i64 i,.int .i64 k2] 66)).heap[w.heap.size+1]?=some (.cells #[.int .i64 i,.int .i64 k2] 66 (0,0)):=alloc_at (by simp)
 have x0:=block_cell (i:=0) (v:=.int .i64 i) hG rfl
 have x1:=block_cell (i:=1) (v:=.int .i64 k2) hG rfl
 have HB:=hidB hB
 clear hB hG
 go_enter Try.func44,Try.ntmps44
 go_wp2
 exact bodyPost_ret (v:=.agg #[.int .i64 i,.int .i64 k2]) (by simp[results,Try.results44,go_sem,x0,x1]) rfl ⟨rfl,HB.out⟩
theorem spotAbove_any (i : Int) (k : Nat) (w : World) (hk : k < 4) :
    Calls Try.prog 46 #[.agg #[.int .i64 i,.int .i64 k]] w fun e w'=>e=.returned (.bool (decide (k%2=1)))/\Below w.heap.size w w':=by
 go_enter Try.func46,Try.ntmps46
 go_wp2
 · go_ret
   have hk1:k=1:=by omega
   subst hk1
   exact⟨rfl,(Below.refl _ _).alloc (Nat.le_refl _) _⟩
 · go_ret
   refine⟨?_,(Below.refl _ _).alloc (Nat.le_refl _) _⟩
   have hk5:k=0∨k=1∨k=2∨k=3:=by omega
   rcases hk5 with rfl|rfl|rfl|rfl<;>rfl
theorem leaving_any (b off cap : Nat) (C : List Cr) (loops : Int) (vF vT : Value) (i k : Nat) (w : World) (hi : i < C.length) (hk : k < 4) (hbw : b < w.heap.size) (hC : CrossAt w b off C) :
    Calls Try.prog 59 #[.agg #[.slice (some ⟨b,off,none⟩) C.length cap,.int .i64 loops,vF,vT],.agg #[.int .i64 i,.int .i64 k]] w fun e w'=>e=.returned (.agg #[.int .i64 ((C.getD i Cr.none).arc k),.bool ((C.getD i Cr.none).comes k)])/\Below w.heap.size w w':=by
 obtain⟨c0,c1,c2,c3,c4⟩:=hC i hi
 clear hC
 generalize C.getD i Cr.none=x at c0 c1 c2 c3 c4
 have hB3:Below w.heap.size w (((w.alloc (.cells #[.slice (some ⟨b,off,none⟩) C.length cap,.int .i64 loops,vF,vT] 52)).alloc (.cells #[.int .i64 i,.int .i64 k] 66)).alloc (.cells #[.int .i64 0,.bool false] 90)):=below3 _ _ _ _
 have e0:=bcell hB3 hbw c0
 have e1:=bcell hB3 hbw c1
 have e2:=bcell hB3 hbw c2
 have e3:=bcell hB3 hbw c3
 have e4:=bcell hB3 hbw c4
 clear hB3 c0 c1 c2 c3 c4
 go_enter Try.func59,Try.ntmps59
 go_wp2
 clear e0 e1 e2 e3 e4
 obtain⟨W0,hW0⟩:∃ W0,W0=(((w.alloc (.cells #[.slice (some ⟨b,off,none⟩) C.length cap,.int .i64 loops,vF,vT] 52)).alloc (.cells #[.int .i64 i,.int .i64 k] 66)).alloc (.cells #[.int .i64 0,.bool false] 90)).alloc (.cells #[.int .i64 x.a,.int .i64 x.b,.int .i64 x.c,.int .i64 x.d,.bool x.plus] 78):=⟨_,rfl⟩
 rw[<-hW0]
 have hs0:W0.heap.size=w.heap.size+4:=by rw[hW0];simp
 have HB0:Hid (Below w.heap.size w W0):=(by rw[hW0];exact(below3 _ _ _ _).alloc (by simp;omega) _:Below w.heap.size w W0)
 have HT1:Hid (W0.heap[w.heap.size+1]?=some (.cells #[.int .i64 i,.int .i64 k] 66 (0,0))):=(by rw[hW0];exact alloc_old (alloc_old (alloc_at (by simp))):W0.heap[w.heap.size+1]?=some (.cells #[.int .i64 i,.int .i64 k] 66 (0,0)))
 have HT2:Hid (W0.heap[w.heap.size+1+1]?=some (.cells #[.int .i64 0,.bool false] 90 (0,0))):=(by rw[hW0];exact alloc_old (alloc_at (by simp)):W0.heap[w.heap.size+1+1]?=some (.cells #[.int .i64 0,.bool false] 90 (0,0)))
 have HT3:Hid (W0.heap[w.heap.size+1+1+1]?=some (.cells #[.int .i64 x.a,.int .i64 x.b,.int .i64 x.c,.int .i64 x.d,.bool x.plus] 78 (0,0))):=(by rw[hW0];exact alloc_at (by simp):W0.heap[w.heap.size+1+1+1]?=some (.cells #[.int .i64 x.a,.int .i64 x.b,.int .i64 x.c,.int .i64 x.d,.bool x.plus] 78 (0,0)))
 clear hW0
 have HF:Hid (∀ w',Below W0.heap.size W0 w'->w'.cell? ⟨w.heap.size+1+1+1,0,none⟩=some (.int .i64 x.a)/\w'.cell? ⟨w.heap.size+1+1+1,1,none⟩=some (.int .i64 x.b)/\w'.cell? ⟨w.heap.size+1+1+1,2,none⟩=some (.int .i64 x.c)/\w'.cell? ⟨w.heap.size+1+1+1,3,none⟩=some (.int .i64 x.d)/\w'.cell? ⟨w.heap.size+1+1+1,4,none⟩=some (.bool x.plus)/\w'.cell? ⟨w.heap.size+1,1,none⟩=some (.int .i64 k)):=fun w' hb=>by
  have g3:=(hb.block _ (by omega)).trans HT3.out
  have g1:=(hb.block _ (by omega)).trans HT1.out
  exact⟨block_cell g3 rfl,block_cell g3 rfl,block_cell g3 rfl,block_cell g3 rfl,block_cell g3 rfl,block_cell g1 rfl⟩
 have HFS:Hid (∀ wX u v,Below W0.heap.size W0 wX->(fun w'=>w'.cell? ⟨w.heap.size+1+1+1,0,none⟩=some (.int .i64 x.a)/\w'.cell? ⟨w.heap.size+1+1+1,1,none⟩=some (.int .i64 x.b)/\w'.cell? ⟨w.heap.size+1+1+1,2,none⟩=some (.int .i64 x.c)/\w'.cell? ⟨w.heap.size+1+1+1,3,none⟩=some (.int .i64 x.d)/\w'.cell? ⟨w.heap.size+1+1+1,4,none⟩=some (.bool x.plus)/\w'.cell? ⟨w.heap.size+1,1,none⟩=some (.int .i64 k)) (st2 wX (w.heap.size+1+1) 0 u v)):=fun wX u v hb=>by
  have hg:=st2_grown wX (w.heap.size+1+1) 0 u v
  have hsz:=hb.size
  have g3:=(hg.block (w.heap.size+1+1+1) (by omega) (fun e=>by have:=Option.some.inj e;omega)).trans ((hb.block _ (by omega)).trans HT3.out)
  have g1:=(hg.block (w.heap.size+1) (by omega) (fun e=>by have:=Option.some.inj e;omega)).trans ((hb.block _ (by omega)).trans HT1.out)
  exact⟨block_cell g3 rfl,block_cell g3 rfl,block_cell g3 rfl,block_cell g3 rfl,block_cell g3 rfl,block_cell g1 rfl⟩
 have HZ:Hid (∀ wX,Below W0.heap.size W0 wX->wX.cell? ⟨w.heap.size+1+1,0,none⟩=some (.int .i64 0)/\wX.cell? ⟨w.heap.size+1+1,1,none⟩=some (.bool false)/\wX.frozen? ⟨w.heap.size+1+1,0,none⟩=false/\wX.frozen? ⟨w.heap.size+1+1,1,none⟩=false):=fun wX hb=>by
  have g2:=(hb.block _ (by omega)).trans HT2.out
  exact⟨block_cell g2 rfl,block_cell g2 rfl,block_frozen g2,block_frozen g2⟩
 have HD0:Hid (Below W0.heap.size W0 W0.drew):=(Below.refl _ _).drew
 obtain⟨t0,t1,t2,t3,t4,t5⟩:=HF.out W0 (Below.refl _ _)
 have hix:=index_arr x k hk
 go_region_held3 (fun w' => w'.cell? ⟨w.heap.size + 1 + 1 + 1, 0, none⟩ = some (.int .i64 x.a) ∧ w'.cell? ⟨w.heap.size + 1 + 1 + 1, 1, none⟩ = some (.int .i64 x.b) ∧ w'.cell? ⟨w.heap.size + 1 + 1 + 1, 2, none⟩ = some (.int .i64 x.c) ∧ w'.cell? ⟨w.heap.size + 1 + 1 + 1, 3, none⟩ = some (.int .i64 x.d) ∧ w'.cell? ⟨w.heap.size + 1 + 1 + 1, 4, none⟩ = some (.bool x.plus) ∧ w'.cell? ⟨w.heap.size + 1, 1, none⟩ = some (.int .i64 k)) (first | exact HF.out _ HY.out | exact HF.out _ HA.out | exact HF.out _ HD0.out | exact HF.out _ (Below.refl _ _) | exact HFS.out _ _ _ HY.out | exact HFS.out _ _ _ HA.out) (first
  | (go_at_call 31; refine (arcs_any x _).mono ?_; rintro e9 wA ⟨rfl, hbA⟩
     first
      |have HA:Hid (Below W0.heap.size W0 wA):=HY.out.trans (hbA.mono HY.out.size)
      |have HA:Hid (Below W0.heap.size W0 wA):=HD0.out.trans hbA
     obtain⟨a0,a1,a2,a3,a4,a5⟩:=HF.out wA HA.out
     obtain⟨b0,b1,b2,b3⟩:=HZ.out wA HA.out
     clear hbA)
  | (go_at_call 32; refine (comesIn_any x k _ hk).mono ?_; rintro e9 wC ⟨rfl, hbC⟩
     first
      |have HY:Hid (Below W0.heap.size W0 wC):=HA.out.trans (hbC.mono HA.out.size)
      |have HY:Hid (Below W0.heap.size W0 wC):=HD0.out.trans hbC
     obtain⟨p0,p1,p2,p3,p4,p5⟩:=HF.out wC HY.out
     obtain⟨q0,q1,q2,q3⟩:=HZ.out wC HY.out
     clear hbC))
 all_goals first
  | (have hX := set_block (i := 1) (u := .bool (x.comes k)) (set_block (i := 0) (u := .int .i64 (x.arc k)) ((HY.out.block _ (by omega)).trans HT2.out))
     have x0:=block_cell (i:=0) (v:=.int .i64 (x.arc k)) hX rfl
     have x1:=block_cell (i:=1) (v:=.bool (x.comes k)) hX rfl
     go_wp2
     exact bodyPost_ret (v:=.agg #[.int .i64 (x.arc k),.bool (x.comes k)]) (by simp[results,Try.results59,go_sem,x0,x1]) rfl ⟨rfl,(HB0.out.trans (HY.out.mono (by omega))).grown (st2_grown wC (w.heap.size+1+1) 0 (.int .i64 (x.arc k)) (.bool (x.comes k))) (by have:=HY.out.size;omega) (fun q hq=>by have:=Option.some.inj hq;omega)⟩)
  | (have hX := set_block (i := 1) (u := .bool (x.comes k)) (set_block (i := 0) (u := .int .i64 (x.arc k)) ((HA.out.block _ (by omega)).trans HT2.out))
     have x0:=block_cell (i:=0) (v:=.int .i64 (x.arc k)) hX rfl
     have x1:=block_cell (i:=1) (v:=.bool (x.comes k)) hX rfl
     go_wp2
     exact bodyPost_ret (v:=.agg #[.int .i64 (x.arc k),.bool (x.comes k)]) (by simp[results,Try.results59,go_sem,x0,x1]) rfl ⟨rfl,(HB0.out.trans (HA.out.mono (by omega))).grown (st2_grown wA (w.heap.size+1+1) 0 (.int .i64 (x.arc k)) (.bool (x.comes k))) (by have:=HA.out.size;omega) (fun q hq=>by have:=Option.some.inj hq;omega)⟩)
theorem field_dart (a:Int) (p:Bool) (w:World):(Instr.field 90 (.agg #[.int .i64 a,.bool p]) 0).run Try.prog w=.ok (.int .i64 a) w:=by
 simp[Instr.field,run_underlying Try.underlying90,go_sem,asAgg]
theorem ahead_any (a : Option Addr) (cap : Nat) (C : List Cr) (loops : Int) (gF cF gT cT : Nat) (x : Nat) (w : World) (hm : mayD C loops = true) (h1 : 1 ≤ x) (h2 : x ≤ 2 * C.length) (hD : Dr w a cap C gF gT) :
    Calls Try.prog 41 #[drV a cap C loops gF cF gT cT,.int .i64 x] w fun e w'=>e=.returned (.int .i64 (nx C x:Nat))/\Below w.heap.size w w':=by
 obtain⟨b,off,rfl,hbw,hC⟩:=hD.cross (by omega)
 unfold drV
 have hT:=hD.toAt hm x h1 h2
 have c0:=hT.1
 have c1:=hT.2
 have hlt:=hD.ltT
 obtain⟨-,hi,hk,-,-⟩:=to_may hm x h1 h2
 have HNX:Hid ((C.getD (toC C x) Cr.none).arc ((toS C x+2)%4)=(nx C x:Int)):=(nx_may hm x h1 h2).1
 have HC:Hid (CrossAt w b off C):=hC
 clear hT hD hm hC
 generalize toS C x=k at c1 hk HNX
 generalize toC C x=i at c0 hi HNX
 generalize nx C x=z at HNX
 have hx:x<2*C.length+1:=by omega
 obtain⟨k2,hk2⟩:∃ k2:Nat,k2=(k+2)%4:=⟨_,rfl⟩
 have e1:IntKind.i64.wrap ((k:Int)+2)=(k:Int)+2:=IntWalk.i64_in _ (by omega)
 have e2:((k:Int)+2).tmod 4=(k2:Int):=by rw[Int.tmod_eq_emod_of_nonneg (by omega)];omega
 have hk24:k2<4:=by omega
 rw[<-hk2]at HNX
 have hfd:=field_dart (z:Int)
 obtain⟨X,hX⟩:∃ X,X=w.alloc (.cells #[.slice (some ⟨b,off,none⟩) C.length cap,.int .i64 loops,.slice (some ⟨gF,0,none⟩) (2*C.length+1) cF,.slice (some ⟨gT,0,none⟩) (2*C.length+1) cT] 52):=⟨_,rfl⟩
 have HX:Hid (X=w.alloc (.cells #[.slice (some ⟨b,off,none⟩) C.length cap,.int .i64 loops,.slice (some ⟨gF,0,none⟩) (2*C.length+1) cF,.slice (some ⟨gT,0,none⟩) (2*C.length+1) cT] 52)):=hX
 have hsX:X.heap.size=w.heap.size+1:=by rw[hX];simp
 have HB1:Hid (Below w.heap.size w X):=(by rw[hX];exact(Below.refl _ _).alloc (Nat.le_refl _) _:Below w.heap.size w X)
 have HG1:Hid (X.heap[w.heap.size]?=some (.cells #[.slice (some ⟨b,off,none⟩) C.length cap,.int .i64 loops,.slice (some ⟨gF,0,none⟩) (2*C.length+1) cF,.slice (some ⟨gT,0,none⟩) (2*C.length+1) cT] 52 (0,0))):=(by rw[hX];exact alloc_at rfl:X.heap[w.heap.size]?=some (.cells #[.slice (some ⟨b,off,none⟩) C.length cap,.int .i64 loops,.slice (some ⟨gF,0,none⟩) (2*C.length+1) cF,.slice (some ⟨gT,0,none⟩) (2*C.length+1) cT] 52 (0,0)))
 clear hX
 have HK:Hid (∀ w',Below X.heap.size X w'->w'.cell? ⟨w.heap.size,0,none⟩=some (.slice (some ⟨b,off,none⟩) C.length cap)/\w'.cell? ⟨w.heap.size,1,none⟩=some (.int .i64 loops)/\w'.cell? ⟨w.heap.size,2,none⟩=some (.slice (some ⟨gF,0,none⟩) (2*C.length+1) cF)/\w'.cell? ⟨w.heap.size,3,none⟩=some (.slice (some ⟨gT,0,none⟩) (2*C.length+1) cT)/\w'.cell? ⟨gT,x*2,none⟩=some (.int .i64 i)/\w'.cell? ⟨gT,x*2+1,none⟩=some (.int .i64 k)):=fun w' hb=>by
  have g:=(hb.block _ (by omega)).trans HG1.out
  have hb2:=HB1.out.trans (hb.mono (by omega))
  exact⟨block_cell g rfl,block_cell g rfl,block_cell g rfl,block_cell g rfl,bcell hb2 hlt c0,bcell hb2 hlt c1⟩
 have HD0:Hid (Below X.heap.size X X.drew):=(Below.refl _ _).drew
 have HAC:Hid (∀ W:World,Calls Try.prog 44 #[.agg #[.int .i64 i,.int .i64 k]] W fun e w'=>e=.returned (.agg #[.int .i64 i,.int .i64 (k2:Nat)])/\Below W.heap.size W w'):=fun W=>(by rw[hk2];exact across_any i k W hk)
 clear hk2 c0 c1
 obtain⟨t0,t1,t2,t3,t4,t5⟩:=HK.out X (Below.refl _ _)
 have hx0:(0:Int)<=(x:Int):=by omega
 have hx9:(x:Int)<2*(C.length:Int)+1:=by omega
 go_enter Try.func41,Try.ntmps41
 go_wp2
 rw[<-HX.out]
 go_region_held3 (fun w' => w'.cell? ⟨w.heap.size, 0, none⟩ = some (.slice (some ⟨b, off, none⟩) C.length cap) ∧ w'.cell? ⟨w.heap.size, 1, none⟩ = some (.int .i64 loops) ∧ w'.cell? ⟨w.heap.size, 2, none⟩ = some (.slice (some ⟨gF, 0, none⟩) (2 * C.length + 1) cF) ∧ w'.cell? ⟨w.heap.size, 3, none⟩ = some (.slice (some ⟨gT, 0, none⟩) (2 * C.length + 1) cT) ∧ w'.cell? ⟨gT, x * 2, none⟩ = some (.int .i64 i) ∧ w'.cell? ⟨gT, x * 2 + 1, none⟩ = some (.int .i64 k)) (first | exact HK.out _ HD0.out | exact HK.out _ HL.out | exact HK.out _ HA.out) (first
  | (go_at_call 59; refine (leaving_any b off cap C loops _ _ i k2 _ hi hk24 hb9 HC3.out).mono ?_; rw [HNX.out]; rintro e9 w4 ⟨rfl, hb4⟩
     have HL:Hid (Below X.heap.size X w4):=HA.out.trans (hb4.mono HA.out.size))
  | (go_at_call 44; refine (HAC.out _).mono ?_; rintro e9 w3 ⟨rfl, hb3⟩
     have HA:Hid (Below X.heap.size X w3):=HD0.out.trans (hb3.mono HD0.out.size)
     have HC3:Hid (CrossAt w3 b off C):=HC.out.on (HB1.out.trans (HA.out.mono (by omega))) hbw
     have hb9:b<w3.heap.size:=Nat.lt_of_lt_of_le hbw (HB1.out.trans (HA.out.mono (by omega))).size
     clear hb3))
 all_goals
  go_wp2
  go_ret
  exact⟨rfl,HB1.out.trans (HL.out.mono (by omega))⟩
end Go.Proofs.Ytgagenmkpmmpfaa
/- Lists of numbers that a call owns; the walk of Drawing.Walks. -/
namespace Go.Proofs.Ytgagenmkpmmpfaa
open Go.RowKit
set_option maxHeartbeats 8000000
set_option maxRecDepth 100000
def nats (l:List Nat):List Value:=l.map fun x=>.int .i64 (x:Nat)
def bools (l:List Bool):List Value:=l.map fun x=>.bool x
theorem nats_len (l:List Nat):(nats l).length=l.length:=by simp[nats]
theorem nats_get (l:List Nat) (i:Nat) (h:i<l.length):(nats l)[i]?=some (.int .i64 (l.getD i 0:Nat)):=by simp[nats,List.getD,h]
theorem bools_get (l:List Bool) (i:Nat) (h:i<l.length):(bools l)[i]?=some (.bool (l.getD i true)):=by simp[bools,List.getD,h]
theorem bools_set (l:List Bool) (i:Nat) (b:Bool):(bools l).set i (.bool b)=bools (l.set i b):=by simp[bools,List.map_set]
theorem nats_app (l:List Nat) (x:Nat):nats (l++[x])=nats l++[.int .i64 (x:Nat)]:=by simp[nats]
def NatsOwn (w:World) (B:Nat) (v:Value) (L:List (List Nat)):Prop:=
 ∃ ys:List Value,ys.length=L.length/\w.ownsRow B 22 1 v ys.length ys/\∀ j,j<L.length->w.ownsRow B 3 1 (ys.getD j (.bool false)) (L.getD j []).length (nats (L.getD j []))
theorem NatsOwn.any {w w':World} {B:Nat} {v:Value} {L:List (List Nat)} (h:NatsOwn w B v L) (hg:w.grownBy w' none):NatsOwn w' B v L:=by
 obtain⟨ys,h1,h2,h3⟩:=h
 exact⟨ys,h1,own_any h2 hg,fun j hj=>own_any (h3 j hj) hg⟩
theorem NatsOwn.low {w:World} {B B':Nat} {v:Value} {L:List (List Nat)} (h:NatsOwn w B v L) (hB:B'<=B):NatsOwn w B' v L:=by
 obtain⟨ys,h1,h2,h3⟩:=h
 exact⟨ys,h1,own_low h2 hB,fun j hj=>own_low (h3 j hj) hB⟩
theorem grown_none {w w':World} {row:Option Nat} (h:w.grownBy w' none):w.grownBy w' row:=⟨h.os,h.tape,h.output,h.size,fun k hk _=>h.block k hk (by simp)⟩
theorem grown_new {W X Y:World} {row r2:Option Nat} (h:W.grownBy X row) (g:X.grownBy Y r2) (hr:∀ k,r2=some k->W.heap.size<=k):W.grownBy Y row:=
 ⟨g.os.trans h.os,g.tape.trans h.tape,g.output.trans h.output,Nat.le_trans h.size g.size,fun k hk hn=>(g.block k (Nat.lt_of_lt_of_le hk h.size) (fun e=>by have:=hr k e.symm;omega)).trans (h.block k hk hn)⟩
def lenOf:Value->Nat
 |.slice _ n _=>n
 |_=>0
theorem infoInt:(Try.prog.info? 3).map (fun i=>(i.zero,i.size,i.bytes))=some (some (.int .i64 0),1,8):=by kernel_rfl
theorem infoBool:(Try.prog.info? 4).map (fun i=>(i.zero,i.size,i.bytes))=some (some (.bool false),1,1):=by kernel_rfl
theorem infoInts:(Try.prog.info? 22).map (fun i=>(i.zero,i.size,i.bytes))=some (some (.slice none 0 0),1,24):=by kernel_rfl
theorem int_one (x:Int):∀ u∈[Value.int .i64 x],u.oneCell'=true:=by
 intro u hu
 simp only[List.mem_singleton]at hu
 subst hu
 rfl
theorem made_false (n:Nat):(madeCells (Value.bool false).cells (n*1)).toList=bools (List.replicate n false):=by
 have e:(Value.bool false).cells=#[Value.bool false]:=rfl
 rw[e,toList_madeCells_one,Nat.mul_one]
 simp[bools]
structure WkAt (w:World) (gS cS:Nat) (box:Array Value) (tb:TypeId) (n:Nat) (R:List (List Nat)×List Bool) (v3:Value) (zs:List Value) (wr:World):Prop where
 box:wr.heap[w.heap.size]?=some (.cells box tb (0,0))
 seen:wr.ownsRow (w.heap.size+1) 4 1 (.slice (some ⟨gS,0,none⟩) (n+1) cS) (n+1) (bools R.2)
 len:zs.length=R.1.length
 rows:wr.ownsRow (w.heap.size+1) 22 1 v3 zs.length zs
 each:∀ j,j<zs.length->wr.ownsRow (w.heap.size+1) 3 1 (zs.getD j (.bool false)) (R.1.getD j []).length (nats (R.1.getD j []))
 bel:Below w.heap.size w wr
theorem walksTo_next {f:Nat->Nat} {n i:Nat} {acc:List Nat} {seen:List Bool} (h:walkF f (n+1) (walksTo f n i).2 (i+1) []=(acc,seen)):walksTo f n (i+1)=(if acc=[] then(walksTo f n i).1 else(walksTo f n i).1++[acc],seen):=by
 simp only[walksTo]
 rw[h]
theorem arcRings_ahead (a : Option Addr) (cap : Nat) (C : List Cr) (loops : Int) (gF cF gT cT : Nat) (w : World) (hm : mayD C loops = true) (hD : Dr w a cap C gF gT) :
    Calls Try.prog 40 #[drV a cap C loops gF cF gT cT,.func (.func 41) #[drV a cap C loops gF cF gT cT] #[]] w fun e w'=>∃ v,e=.returned v/\NatsOwn w' w.heap.size v (walksM C)/\Below w.heap.size w w':=by
 obtain⟨s1,-,-,-⟩:=sizeB_iff (may_size hm)
 obtain⟨i0,hi,hz0,hz1,hz2⟩:=info_parts infoInt
 obtain⟨i1,hj,hy0,hy1,hy2⟩:=info_parts infoInts
 obtain⟨i2,hk,hx0,hx1,hx2⟩:=info_parts infoBool
 unfold drV
 have HM:Hid (mayD C loops=true):=hm
 have HD:Hid (Dr w a cap C gF gT):=hD
 have HNX:Hid (∀ x,1<=x->x<=2*C.length->1<=nx C x/\nx C x<=2*C.length):=nx_closed hm
 have HWM:Hid (walksM C=(walksTo (nx C) (2*C.length) (2*C.length)).1):=(rfl:walksM C=(walksTo (nx C) (2*C.length) (2*C.length)).1)
 clear hm hD
 obtain⟨w0,hw0⟩:∃ w0,w0=w.alloc (.cells #[.slice a C.length cap,.int .i64 loops,.slice (some ⟨gF,0,none⟩) (2*C.length+1) cF,.slice (some ⟨gT,0,none⟩) (2*C.length+1) cT] 52):=⟨_,rfl⟩
 have HW0:Hid (w0=w.alloc (.cells #[.slice a C.length cap,.int .i64 loops,.slice (some ⟨gF,0,none⟩) (2*C.length+1) cF,.slice (some ⟨gT,0,none⟩) (2*C.length+1) cT] 52)):=hw0
 have hs0:w0.heap.size=w.heap.size+1:=by rw[hw0];simp
 have HB0:Hid (Below w.heap.size w w0):=(by rw[hw0];exact(Below.refl _ _).alloc (Nat.le_refl _) _:Below w.heap.size w w0)
 have HT0:Hid (w0.heap[w.heap.size]?=some (.cells #[.slice a C.length cap,.int .i64 loops,.slice (some ⟨gF,0,none⟩) (2*C.length+1) cF,.slice (some ⟨gT,0,none⟩) (2*C.length+1) cT] 52 (0,0))):=(by rw[hw0];exact alloc_at rfl:w0.heap[w.heap.size]?=some (.cells #[.slice a C.length cap,.int .i64 loops,.slice (some ⟨gF,0,none⟩) (2*C.length+1) cF,.slice (some ⟨gT,0,none⟩) (2*C.length+1) cT] 52 (0,0)))
 clear hw0
 go_enter Try.func40,Try.ntmps40
 go_wp2_with (first|(at_make;refine wpList_make_full _ rfl _ _ 121 rfl (w.heap.size+1) 4 i2 (.bool false) 1 Try.underlying121 hk hx0 hx1 .i64 .i64 _ _ (2*C.length+1) rfl rfl rfl rfl (by rw[hx2];omega) (by unfold maxLen;omega) (by simp) ?_;intro w1 hrow hg1;refine Hid.out ?_))
 refine Lib.hid ?_
 rw[<-HW0.out]at hrow hg1
 rw[made_false,hs0]at hrow
 have HK0:Hid (WkAt w (w.heap.size+1) (2*C.length+1) #[.slice a C.length cap,.int .i64 loops,.slice (some ⟨gF,0,none⟩) (2*C.length+1) cF,.slice (some ⟨gT,0,none⟩) (2*C.length+1) cT] 52 (2*C.length) (walksTo (nx C) (2*C.length) 0) (.slice none 0 0) [] w1):=
  ⟨(hg1.block _ (by omega) (by simp)).trans HT0.out,hrow,rfl,World.ownsRow_nil _ _ _ _,fun j hj=>absurd hj (Nat.not_lt_zero _),HB0.out.grown hg1 (by omega) (fun k hk=>by cases hk)⟩
 clear hrow hg1 HT0 HB0 hs0 HW0
 go_wp2
 go_loopw [5,7] (fun v3 v5 wr=>∃ (i j:Nat) (zs:List Value),i<=2*C.length/\Hid (j=i+1)/\v5=.int .i64 (j:Nat)/\WkAt w (w.heap.size+1) (2*C.length+1) #[.slice a C.length cap,.int .i64 loops,.slice (some ⟨gF,0,none⟩) (2*C.length+1) cF,.slice (some ⟨gT,0,none⟩) (2*C.length+1) cT] 52 (2*C.length) (walksTo (nx C) (2*C.length) i) v3 zs wr) (fun _ v5 _=>2*C.length+1-(intOf v5).toNat)
 case atStart=>exact⟨0,1,[],Nat.zero_le _,(rfl:1=0+1),rfl,HK0.out⟩
 case round=>
  clear HK0
  rename World=>W1
  obtain⟨i,j0,zs,hin,hji,rfl,hk⟩:=hrel
  have b3:W1.cell? ⟨w.heap.size,3,none⟩=some (.slice (some ⟨gT,0,none⟩) (2*C.length+1) cT):=block_cell hk.box rfl
  have HK:Hid (WkAt w (w.heap.size+1) (2*C.length+1) #[.slice a C.length cap,.int .i64 loops,.slice (some ⟨gF,0,none⟩) (2*C.length+1) cF,.slice (some ⟨gT,0,none⟩) (2*C.length+1) cT] 52 (2*C.length) (walksTo (nx C) (2*C.length) i) _ zs W1):=hk
  have hgS:=hk.seen.lt (w.heap.size+1) rfl
  have HSL:Hid ((walksTo (nx C) (2*C.length) i).2.length=2*C.length+1):=walksTo_len _ _ _
  have HCT:Hid ((walksTo (nx C) (2*C.length) i).1.length<=i):=walksTo_count _ _ _
  by_cases hil:i<2*C.length
  · have hsd:=hk.seen
    have hbl:=hk.bel
    have hj1:1<=j0:=by have:=hji.out;omega
    have hj2:j0<=2*C.length:=by have:=hji.out;omega
    have hdj:decide ((j0:Int)<2*(C.length:Int)+1)=true:=by simp;omega
    have hdj2:decide (j0<2*C.length+1)=true:=by simp;omega
    clear hk
    go_wp2
    go_loopw [8, 9] (fun v6 v7 ws => ∃ (f : Nat) (seen : List Bool) (x : Nat) (acc : List Nat), v7 = .int .i64 (x : Nat) ∧ 1 ≤ x ∧ x ≤ 2 * C.length ∧ Hid (walkF (nx C) (2 * C.length + 1) (walksTo (nx C) (2 * C.length) i).2 j0 [] = walkF (nx C) f seen x acc) ∧ Hid (unseen seen ≤ f) ∧ seen.length = 2 * C.length + 1 ∧ Hid (acc.length + unseen seen ≤ 2 * C.length + 1) ∧
        ws.ownsRow W1.heap.size 3 1 v6 acc.length (nats acc)/\ws.ownsRow (w.heap.size+1) 4 1 (.slice (some ⟨w.heap.size+1,0,none⟩) (2*C.length+1) (2*C.length+1)) (2*C.length+1) (bools seen)/\W1.grownBy ws (some (w.heap.size+1))/\Below w.heap.size w ws) (fun v6 _ _=>2*C.length+2-lenOf v6)
    case atStart=>exact⟨2*C.length+1,(walksTo (nx C) (2*C.length) i).2,j0,[],rfl,by omega,by omega,(rfl:walkF (nx C) (2*C.length+1) (walksTo (nx C) (2*C.length) i).2 j0 []=_),(by have:=unseen_le (walksTo (nx C) (2*C.length) i).2;rw[HSL.out]at this;exact this:unseen (walksTo (nx C) (2*C.length) i).2<=2*C.length+1),HSL.out,(by have:=unseen_le (walksTo (nx C) (2*C.length) i).2;rw[HSL.out]at this;simpa using this:([]:List Nat).length+unseen (walksTo (nx C) (2*C.length) i).2<=2*C.length+1),World.ownsRow_nil _ _ _ _,hsd,World.grownBy.refl _ _,hbl⟩
    case round=>
     clear hsd hbl b3
     rename World=>W3
     obtain⟨f,seen,x,acc,rfl,hx1,hx2,hwk,hun,hsl,hac,hown,hsd,hgr,hbl⟩:=hrel
     obtain⟨a6,c6,rfl⟩:=own_capS hown
     have e0:W3.cell? ⟨w.heap.size+1,x,none⟩=some (.bool (seen.getD x true)):=by
      rw[hsd.cellAt x (by omega)];exact bools_get seen x (by omega)
     have z0:W3.frozen? ⟨w.heap.size+1,x,none⟩=false:=hsd.frozenAt x
     have hszW:=hgr.size
     cases hbit:seen.getD x true with
     |false=>
      rw[hbit]at e0
      have hst:=hsd.stored x (.bool true)
      rw[bools_set]at hst
      have HSD:Hid ((W3.setCell ⟨w.heap.size+1,x,none⟩ (.bool true)).ownsRow (w.heap.size+1) 4 1 (.slice (some ⟨w.heap.size+1,0,none⟩) (2*C.length+1) (2*C.length+1)) (2*C.length+1) (bools (seen.set x true))):=hst.1
      have HGS:Hid (W3.grownBy (W3.setCell ⟨w.heap.size+1,x,none⟩ (.bool true)) (some (w.heap.size+1))):=hst.2
      have HOW:Hid ((W3.setCell ⟨w.heap.size+1,x,none⟩ (.bool true)).ownsRow W1.heap.size 3 1 (.slice a6 acc.length c6) acc.length (nats acc)):=hown.kept hst.2 (own_ne hown hsd (by decide))
      have HWK:Hid (walkF (nx C) f seen x acc=walkF (nx C) (f-1) (seen.set x true) (nx C x) (acc++[x])/\unseen (seen.set x true)<=f-1):=walkF_more hbit hun.out
      have HUS:Hid (unseen (seen.set x true)+1=unseen seen):=unseen_set hbit
      have hacl:acc.length<2*C.length+1:=by have:=hac.out;have:=HUS.out;omega
      have hs3:(W3.setCell ⟨w.heap.size+1,x,none⟩ (.bool true)).heap.size=W3.heap.size:=by simp
      have hlt3:w.heap.size+1<W3.heap.size:=by omega
      have HB3:Hid (Below w.heap.size w (W3.setCell ⟨w.heap.size+1,x,none⟩ (.bool true))):=hbl.grown hst.2 hbl.size (fun q hq=>by have:=Option.some.inj hq;omega)
      have HG3:Hid (W1.grownBy (W3.setCell ⟨w.heap.size+1,x,none⟩ (.bool true)) (some (w.heap.size+1))):=grown_trans hgr hst.2
      have HX:Hid (1<=nx C x/\nx C x<=2*C.length):=HNX.out x hx1 hx2
      clear hst hsd hown hgr hbl
      go_wp2_with (first
       |(at_builtin;refine wpList_append_own _ rfl _ _ 22 rfl W1.heap.size 3 i0 (.int .i64 0) 1 8 Try.underlying22 hi hz0 hz1 hz2 rfl (by decide) _ _ _ rfl (HOW.out.alloc _) ⟨W3.heap.size,0,none⟩ 1 1 [.int .i64 (x:Nat)] rfl rfl (by rw[<-hs3];exact new_cell1 _ _ _) (int_one _) (by unfold maxLen;omega) (by omega) (by simp;omega) ?_;intro v8 w8 hown8 hg8 _;refine Hid.out ?_))
      refine Lib.hid ?_
      have HG8:Hid (((W3.setCell ⟨w.heap.size+1,x,none⟩ (.bool true)).alloc (.cells #[.int .i64 (x:Nat)] 3)).grownBy w8 (Value.slice a6 acc.length c6).ownBlock):=hg8
      have HO8:Hid (w8.ownsRow W1.heap.size 3 1 v8 (acc++[x]).length (nats (acc++[x]))):=(by rw[List.length_append,nats_app];exact hown8:w8.ownsRow W1.heap.size 3 1 v8 (acc++[x]).length (nats (acc++[x])))
      have hA:=HOW.out.alloc (.cells #[.int .i64 (x:Nat)] 3)
      have hS:=HSD.out.alloc (.cells #[.int .i64 (x:Nat)] 3)
      have HS8:Hid (w8.ownsRow (w.heap.size+1) 4 1 (.slice (some ⟨w.heap.size+1,0,none⟩) (2*C.length+1) (2*C.length+1)) (2*C.length+1) (bools (seen.set x true))):=hS.kept HG8.out (own_ne hS hA (by decide))
      have HG18:Hid (W1.grownBy w8 (some (w.heap.size+1))):=grown_new (grown_trans HG3.out (grown_none (World.grownBy_alloc _ _ none))) HG8.out (fun q hq=>(hA.lt q hq).1)
      have HB8:Hid (Below w.heap.size w w8):=(HB3.out.alloc (by rw[hs3];omega) _).grown HG8.out (by simp;omega) (fun q hq=>by have:=(hA.lt q hq).1;omega)
      have HX8:Hid (w8.heap[w.heap.size]?=some (.cells #[.slice a C.length cap,.int .i64 loops,.slice (some ⟨gF,0,none⟩) (2*C.length+1) cF,.slice (some ⟨gT,0,none⟩) (2*C.length+1) cT] 52 (0,0))):=(HG18.out.block _ (by omega) (fun e=>by have:=Option.some.inj e;omega)).trans HK.out.box
      have HD8:Hid (Dr w8 a cap C gF gT):=HD.out.on HB8.out
      clear hA hS hg8 hown8 e0 z0
      go_wp2_with (go_at_call 41;refine(ahead_any a cap C loops gF cF gT cT x _ HM.out hx1 hx2 HD8.out).mono ?_;rintro e9 w9 ⟨rfl,hb9⟩;refine Hid.out ?_)
      refine Lib.hid ?_
      have HB9:Hid (Below w8.heap.size w8 w9):=hb9
      clear hb9
      obtain⟨hn1,hn2⟩:=HX.out
      obtain⟨y,hy⟩:∃ y,nx C x=y:=⟨_,rfl⟩
      rw[hy]at hn1 hn2 HWK ⊢
      have hg9:w8.grownBy w9 none:=grown_below HB9.out none
      go_wp2
      go_roundw
      case rel=>exact⟨f - 1,seen.set x true,y,acc++[x],rfl,hn1,hn2,(hwk.out.trans HWK.out.1:walkF (nx C) (2*C.length+1) (walksTo (nx C) (2*C.length) i).2 j0 []=_),HWK.out.2,by simpa using hsl,(by have:=hac.out;have:=HUS.out;rw[List.length_append];simp only[List.length_cons,List.length_nil];omega:(acc++[x]).length+unseen (seen.set x true)<=2*C.length+1),own_any HO8.out hg9,own_any HS8.out hg9,grown_new HG18.out hg9 (fun q hq=>by cases hq),HB8.out.trans (HB9.out.mono HB8.out.size)⟩
      case measure=>
       obtain⟨a8,c8,e8⟩:=own_capS HO8.out
       rw[e8]
       simp only[lenOf,List.length_append,List.length_cons,List.length_nil]
       omega
     |true=>
      rw[hbit]at e0
      have HWT:Hid (walksTo (nx C) (2*C.length) (i+1)=(if acc=[] then(walksTo (nx C) (2*C.length) i).1 else(walksTo (nx C) (2*C.length) i).1++[acc],seen)):=walksTo_next (by rw[<-hji.out];exact hwk.out.trans (walkF_seen hbit))
      have hlz:zs.length<=i:=by rw[HK.out.len];exact HCT.out
      have HX3:Hid (W3.heap[w.heap.size]?=some (.cells #[.slice a C.length cap,.int .i64 loops,.slice (some ⟨gF,0,none⟩) (2*C.length+1) cF,.slice (some ⟨gT,0,none⟩) (2*C.length+1) cT] 52 (0,0))):=(hgr.block _ (by omega) (fun e=>by have:=Option.some.inj e;omega)).trans HK.out.box
      have hrows:=HK.out.rows.kept hgr (own_ne HK.out.rows HK.out.seen (by decide))
      have HEA:Hid (∀ j,j<zs.length->W3.ownsRow (w.heap.size+1) 3 1 (zs.getD j (.bool false)) ((walksTo (nx C) (2*C.length) i).1.getD j []).length (nats ((walksTo (nx C) (2*C.length) i).1.getD j []))):=fun j hj=>(HK.out.each j hj).kept hgr (own_ne (HK.out.each j hj) HK.out.seen (by decide))
      have hlen:=HK.out.len
      by_cases hz:acc=[]
      · subst hz
        rw[if_pos rfl]at HWT
        go_wp2
        go_roundw
        case rel=>
         refine⟨i+1,j0+1,zs,by omega,(by have:=hji.out;omega:j0+1=i+1+1),by go_num,?_⟩
         rw[HWT.out]
         exact⟨HX3.out,hsd,hlen,hrows,HEA.out,hbl⟩
        case measure=>simp only[intOf];omega
      · rw[if_neg hz]at HWT
        have hpos:0<acc.length:=List.length_pos_iff.2 hz
        have HON:Hid (∀ u∈[Value.slice a6 acc.length c6],u.oneCell'=true):=own_oneS hown
        have HRW:Hid (W3.ownsRow (w.heap.size+1) 22 1 _ zs.length zs):=hrows
        have HOW:Hid (W3.ownsRow (w.heap.size+1) 3 1 (.slice a6 acc.length c6) acc.length (nats acc)):=own_low hown (by omega)
        have HSD:Hid (W3.ownsRow (w.heap.size+1) 4 1 (.slice (some ⟨w.heap.size+1,0,none⟩) (2*C.length+1) (2*C.length+1)) (2*C.length+1) (bools seen)):=hsd
        have HBL:Hid (Below w.heap.size w W3):=hbl
        clear hrows hown hsd hbl
        have hdp:decide (0<(acc.length:Int))=true:=by simp;omega
        have hdp2:decide (0<acc.length)=true:=by simp;omega
        go_wp2_with (first
         |(at_builtin;refine wpList_append_own _ rfl _ _ 36 rfl (w.heap.size+1) 22 i1 (.slice none 0 0) 1 24 Try.underlying36 hj hy0 hy1 hy2 rfl (by decide) _ _ _ rfl (HRW.out.alloc _) ⟨W3.heap.size,0,none⟩ 1 1 [Value.slice a6 acc.length c6] rfl rfl (new_cell1 _ _ _) HON.out (by unfold maxLen;omega) (by omega) (by simp;omega) ?_;intro v8 w8 hown8 hg8 _;go_frame))
        go_roundw
        case rel=>
         have hR:=HRW.out.alloc (.cells #[Value.slice a6 acc.length c6] 22)
         have hO:=HOW.out.alloc (.cells #[Value.slice a6 acc.length c6] 22)
         have hS:=HSD.out.alloc (.cells #[Value.slice a6 acc.length c6] 22)
         refine⟨i+1,j0+1,zs++[Value.slice a6 acc.length c6],by omega,(by have:=hji.out;omega:j0+1=i+1+1),by go_num,?_⟩
         rw[HWT.out]
         refine⟨?_,hS.kept hg8 (own_ne hS hR (by decide)),by simp[hlen],by rw[List.length_append];exact hown8,fun j hjl=>?_,(HBL.out.alloc (by omega) _).grown hg8 (by simp;omega) (fun q hq=>by have:=(hR.lt q hq).1;omega)⟩
         · refine(hg8.block _ (by simp;omega) (fun e=>by have:=(hR.lt _ e.symm).1;omega)).trans (alloc_old HX3.out)
         · by_cases hjk:j<zs.length
           · have e1:((walksTo (nx C) (2*C.length) i).1++[acc]).getD j []=(walksTo (nx C) (2*C.length) i).1.getD j []:=by rw[List.getD_eq_getElem?_getD,List.getD_eq_getElem?_getD,List.getElem?_append_left (by omega)]
             rw[getD_left zs _ j hjk,e1]
             have h1:=(HEA.out j hjk).alloc (.cells #[Value.slice a6 acc.length c6] 22)
             exact h1.kept hg8 (own_ne h1 hR (by decide))
           · have ej:j=zs.length:=by simp at hjl;omega
             have e1:((walksTo (nx C) (2*C.length) i).1++[acc]).getD j []=acc:=by rw[ej,hlen];simp[List.getD]
             have e2:(zs++[Value.slice a6 acc.length c6]).getD j (.bool false)=Value.slice a6 acc.length c6:=by rw[ej];exact getD_last zs _
             rw[e1,e2]
             exact hO.kept hg8 (own_ne hO hR (by decide))
        case measure=>simp only[intOf];omega
  · obtain rfl:i=2*C.length:=by omega
    obtain rfl:j0=2*C.length+1:=hji.out
    go_wp2
    go_ret
    exact⟨_,rfl,⟨zs,by rw[HWM.out];exact HK.out.len,own_low HK.out.rows (by omega),fun j hj=>by rw[HWM.out]at hj ⊢;exact own_low (HK.out.each j (by rw[HK.out.len];exact hj)) (by omega)⟩,HK.out.bel⟩
theorem walks_any (a : Option Addr) (cap : Nat) (C : List Cr) (loops : Int) (gF cF gT cT : Nat) (w : World) (hm : mayD C loops = true) (hD : Dr w a cap C gF gT) :
    Calls Try.prog 21 #[drV a cap C loops gF cF gT cT] w fun e w'=>∃ v,e=.returned v/\NatsOwn w' w.heap.size v (walksM C)/\Below w.heap.size w w':=by
 have hmf:∀ (fn:Fn) (first cap:Array Value) (w:World),(Instr.makeFunc fn first cap).run Try.prog w=.ok (.func fn first cap) w:=fun _ _ _ _=>rfl
 have HM:Hid (mayD C loops=true):=hm
 have HB0:Hid (Below w.heap.size w (w.alloc (.cells #[.slice a C.length cap,.int .i64 loops,.slice (some ⟨gF,0,none⟩) (2*C.length+1) cF,.slice (some ⟨gT,0,none⟩) (2*C.length+1) cT] 52))):=(Below.refl _ _).alloc (Nat.le_refl _) _
 have HD:Hid (Dr (w.alloc (.cells #[.slice a C.length cap,.int .i64 loops,.slice (some ⟨gF,0,none⟩) (2*C.length+1) cF,.slice (some ⟨gT,0,none⟩) (2*C.length+1) cT] 52)) a cap C gF gT):=hD.on HB0.out
 clear hm hD
 unfold drV
 go_enter Try.func21,Try.ntmps21
 go_wp2_with (go_at_call 40;refine(arcRings_ahead a cap C loops gF cF gT cT _ HM.out HD.out).mono ?_;rintro e9 w4 ⟨v,rfl,hn4,hb4⟩)
 go_ret
 exact⟨v,rfl,hn4.low (by simp),HB0.out.trans (hb4.mono (by simp))⟩
end Go.Proofs.Ytgagenmkpmmpfaa
/- The walks of ref.DiagramOf and gauss.Strands; rows that are the same. -/
namespace Go.Proofs.Ytgagenmkpmmpfaa
open Go.RowKit
set_option maxHeartbeats 2000000
set_option maxRecDepth 100000
def crossCells (C:List Cr):List Value:=C.flatMap fun x=>[.int .i64 x.a,.int .i64 x.b,.int .i64 x.c,.int .i64 x.d,.bool x.plus]
theorem cells_length (C:List Cr):(crossCells C).length=C.length*5:=by
 induction C with
 |nil=>rfl
 |cons t l ih=>simp[crossCells]at *;omega
theorem cells_get (C:List Cr) (i:Nat) (hi:i<C.length):(crossCells C)[i*5]?=some (.int .i64 (C.getD i Cr.none).a)/\(crossCells C)[i*5+1]?=some (.int .i64 (C.getD i Cr.none).b)/\(crossCells C)[i*5+2]?=some (.int .i64 (C.getD i Cr.none).c)/\(crossCells C)[i*5+3]?=some (.int .i64 (C.getD i Cr.none).d)/\(crossCells C)[i*5+4]?=some (.bool (C.getD i Cr.none).plus):=by
 induction C generalizing i with
 |nil=>simp at hi
 |cons t l ih=>
  have e:crossCells (t::l)=.int .i64 t.a::.int .i64 t.b::.int .i64 t.c::.int .i64 t.d::.bool t.plus::crossCells l:=rfl
  cases i with
  |zero=>rw[e];exact⟨rfl,rfl,rfl,rfl,rfl⟩
  |succ i=>
   have:=ih i (by simpa using hi)
   have e1:(i+1)*5=i*5+1+1+1+1+1:=by omega
   rw[e,e1]
   exact this
theorem crs_own {w:World} {B e:Nat} {v:Value} {C:List Cr} (h:w.ownsRow B e 5 v C.length (crossCells C)) (hn:C.length<=maxLen):Crs w w.heap.size v C:=by
 have h0:=h
 rcases h.2 with⟨rfl,h1⟩|⟨g,cap,cur,rfl,_,_,_⟩
 · exact⟨none,0,by rw[h1],hn,fun hp=>by omega⟩
 · refine⟨some ⟨g,0,none⟩,cap,rfl,hn,fun _=>⟨g,0,rfl,(h0.lt g rfl).2,fun i hi=>?_⟩⟩
   have g0:=cells_get C i hi
   rw[Nat.zero_add]
   exact⟨(h0.cellAt (i*5) (by omega)).trans g0.1,(h0.cellAt (i*5+1) (by omega)).trans g0.2.1,(h0.cellAt (i*5+2) (by omega)).trans g0.2.2.1,(h0.cellAt (i*5+3) (by omega)).trans g0.2.2.2.1,(h0.cellAt (i*5+4) (by omega)).trans g0.2.2.2.2⟩
def CrsW (w:World) (B:Nat) (v:Value) (C:List Cr):Prop:=
 (v=.slice none 0 0/\C=[])∨(∃ ad cap,v=.slice (some ad) 0 cap/\C=[])∨∃ b off cap,v=.slice (some ⟨b,off,none⟩) C.length cap/\b<B/\CrossAt w b off C
theorem CrsW.crs {w:World} {B:Nat} {v:Value} {C:List Cr} (h:CrsW w B v C) (hn:C.length<=maxLen):Crs w B v C:=by
 rcases h with⟨rfl,rfl⟩|⟨ad,cap,rfl,rfl⟩|⟨b,off,cap,rfl,hlt,hC⟩
 · exact⟨none,0,rfl,hn,fun hp=>by simp at hp⟩
 · exact⟨some ad,cap,rfl,hn,fun hp=>by simp at hp⟩
 · exact⟨some ⟨b,off,none⟩,cap,rfl,hn,fun _=>⟨b,off,rfl,hlt,hC⟩⟩
theorem CrsW.up {w w':World} {v:Value} {C:List Cr} (h:CrsW w w.heap.size v C) (hb:Below w.heap.size w w'):CrsW w' w'.heap.size v C:=by
 rcases h with h|h|⟨b,off,cap,hv,hlt,hC⟩
 · exact Or.inl h
 · exact Or.inr (Or.inl h)
 · exact Or.inr (Or.inr ⟨b,off,cap,hv,Nat.lt_of_lt_of_le hlt hb.size,hC.on hb hlt⟩)
theorem infoCross:(Try.prog.info? 78).map (fun i=>(i.zero,i.size,i.bytes))=some (some (.agg #[.int .i64 0,.int .i64 0,.int .i64 0,.int .i64 0,.bool false]),5,40):=by kernel_rfl
theorem own_terms {w:World} {B e n g c:Nat} {l:List (Int×Int)} (h:w.ownsRow B e 2 (.slice (some ⟨g,0,none⟩) n c) n (flat l)) (hl:l.length=n):TermsAt w g 0 l:=by
 intro i hi
 have g0:=flat_get l i hi
 rw[Nat.zero_add]
 exact⟨(h.cellAt (i*2) (by omega)).trans g0.1,(h.cellAt (i*2+1) (by omega)).trans g0.2⟩
theorem Drawn.dr {w w' : World} {a : Option Addr} {cap : Nat} {loops : Int} {C : List Cr} {D : Value} (h : Drawn w w' w.heap.size (.slice a C.length cap) loops C D) (hm : mayD C loops = true) (hb : Below w.heap.size w w') (hC : Crs w w.heap.size (.slice a C.length cap) C) :
    ∃ gF cF gT cT,D=drV a cap C loops gF cF gT cT/\Dr w' a cap C gF gT:=by
 obtain⟨gF,cF,gT,cT,rfl,h1,h2⟩:=h.yes hm
 exact⟨gF,cF,gT,cT,rfl,hC.up hb,(h1.lt gF rfl).2,(h2.lt gT rfl).2,own_terms h1 (ends_length _ _ _ _),own_terms h2 (ends_length _ _ _ _)⟩
theorem strands_yes (v : Value) (C : List Cr) (loops : Int) (w : World) (hm : mayD C loops = true) (h : Crs w w.heap.size v C) :
    Calls Try.prog 9 #[.agg #[v,.int .i64 loops]] w fun e w'=>∃ r,e=.returned (.tuple #[r,.int .i64 0])/\NatsOwn w' w.heap.size r (walksM C)/\Below w.heap.size w w':=by
 have HC:Hid (Crs w w.heap.size v C):=h
 have HM:Hid (mayD C loops=true):=hm
 obtain⟨a,cap,rfl,hn,-⟩:=h
 have HB1:Hid (Below w.heap.size w (w.alloc (.cells #[.slice a C.length cap,.int .i64 loops] 29))):=(Below.refl _ _).alloc (Nat.le_refl _) _
 go_enter Try.func9,Try.ntmps9
 go_wp2_with (go_at_call 17;refine(of_any _ C loops _ (HC.out.up HB1.out)).mono ?_;rw[hm];rintro e9 w2 ⟨d,rfl,hb2,hd⟩;obtain⟨gF,cF,gT,cT,rfl,hdr⟩:=hd.dr HM.out hb2 (HC.out.up HB1.out);refine Hid.out ?_)
 refine Lib.hid ?_
 have HDR:Hid (Dr w2 a cap C gF gT):=hdr
 unfold drV
 have HB2:Hid (Below w.heap.size w w2):=HB1.out.trans (hb2.mono HB1.out.size)
 have HBA:Hid (Below w2.heap.size w2 (w2.alloc (.cells #[.slice a C.length cap,.int .i64 loops,.slice (some ⟨gF,0,none⟩) (2*C.length+1) cF,.slice (some ⟨gT,0,none⟩) (2*C.length+1) cT] 52))):=(Below.refl _ _).alloc (Nat.le_refl _) _
 clear hb2 hd hdr hm
 go_wp2_with (go_at_call 21;refine(walks_any a cap C loops gF cF gT cT _ HM.out (HDR.out.on HBA.out)).mono ?_;rintro e9 w3 ⟨r,rfl,hr,hb3⟩;refine Hid.out ?_)
 refine Lib.hid ?_
 have HR:Hid (NatsOwn w3 w.heap.size r (walksM C)):=hr.low (by have:=HB2.out.size;simp;omega)
 have HB3:Hid (Below w.heap.size w w3):=(HB2.out.trans (HBA.out.mono HB2.out.size)).trans (hb3.mono (by have:=HB2.out.size;simp;omega))
 clear hr hb3
 go_wp2
 go_ret2
 exact⟨_,rfl,HR.out,HB3.out⟩
end Go.Proofs.Ytgagenmkpmmpfaa
/- Visits: lists of them that a call owns; the walks of gauss.visits and gauss.signs. -/
namespace Go.Proofs.Ytgagenmkpmmpfaa
open Go.RowKit
def vflat (V:List (Nat×Bool)):List Value:=V.flatMap fun t=>[.int .i64 (t.1:Nat),.bool t.2]
theorem vflat_append (l m:List (Nat×Bool)):vflat (l++m)=vflat l++vflat m:=by simp[vflat]
theorem vflat_get (l:List (Nat×Bool)) (i:Nat) (hi:i<l.length):(vflat l)[i*2]?=some (.int .i64 ((l.getD i (0,false)).1:Nat))/\(vflat l)[i*2+1]?=some (.bool (l.getD i (0,false)).2):=by
 induction l generalizing i with
 |nil=>simp at hi
 |cons t l ih=>
  have e:vflat (t::l)=.int .i64 (t.1:Nat)::.bool t.2::vflat l:=rfl
  cases i with
  |zero=>rw[e];exact⟨rfl,rfl⟩
  |succ i=>
   have:=ih i (by simpa using hi)
   rw[e,show(i+1)*2=i*2+1+1 by omega]
   exact this
theorem vflat_one (l:List (Nat×Bool)):∀ u∈vflat l,u.oneCell'=true:=by
 intro u hu
 simp only[vflat,List.mem_flatMap]at hu
 obtain⟨t,_,ht⟩:=hu
 simp at ht
 rcases ht with rfl|rfl<;>rfl
def WksAt (w:World) (v:Value) (L:List (List Nat)):Prop:=∃ ys:List Value,ys.length=L.length/\Slots w w.heap.size v ys/\∀ j,j<L.length->Slots w w.heap.size (ys.getD j (.bool false)) (nats (L.getD j []))
theorem WksAt.on {w w':World} {v:Value} {L:List (List Nat)} (h:WksAt w v L) (hb:Below w.heap.size w w'):WksAt w' v L:=by
 obtain⟨ys,h1,h2,h3⟩:=h
 exact⟨ys,h1,(h2.on hb).mono hb.size,fun j hj=>((h3 j hj).on hb).mono hb.size⟩
end Go.Proofs.Ytgagenmkpmmpfaa
/- The walk of gauss.signs; rows of visits and of signs that are the same. -/
namespace Go.Proofs.Ytgagenmkpmmpfaa
open Go.RowKit
def VS (w:World) (v:Value) (V:List (Nat×Bool)):Prop:=∃ a cap,v=.slice a V.length cap/\(0<V.length->∃ b off,a=some ⟨b,off,none⟩/\b<w.heap.size/\∀ i,i<V.length->w.cell? ⟨b,off+i*2,none⟩=some (.int .i64 ((V.getD i (0,false)).1:Nat))/\w.cell? ⟨b,off+i*2+1,none⟩=some (.bool (V.getD i (0,false)).2))
def VsAt (w:World) (v:Value) (L:List (List (Nat×Bool))):Prop:=∃ ys:List Value,ys.length=L.length/\Slots w w.heap.size v ys/\∀ j,j<L.length->VS w (ys.getD j (.bool false)) (L.getD j [])
theorem VS.on {w w':World} {v:Value} {V:List (Nat×Bool)} (h:VS w v V) (hb:Below w.heap.size w w'):VS w' v V:=by
 obtain⟨a,cap,rfl,g⟩:=h
 refine⟨a,cap,rfl,fun hp=>?_⟩
 obtain⟨b,off,rfl,hlt,hc⟩:=g hp
 exact⟨b,off,rfl,Nat.lt_of_lt_of_le hlt hb.size,fun i hi=>⟨bcell hb hlt (hc i hi).1,bcell hb hlt (hc i hi).2⟩⟩
theorem VsAt.on {w w':World} {v:Value} {L:List (List (Nat×Bool))} (h:VsAt w v L) (hb:Below w.heap.size w w'):VsAt w' v L:=by
 obtain⟨ys,h1,h2,h3⟩:=h
 exact⟨ys,h1,(h2.on hb).mono hb.size,fun j hj=>(h3 j hj).on hb⟩
end Go.Proofs.Ytgagenmkpmmpfaa
/- Lists of whole numbers that a call owns; the walk of gauss.evenNumbers. -/
namespace Go.Proofs.Ytgagenmkpmmpfaa
open Go.RowKit
def intsV (l:List Int):List Value:=l.map fun x=>.int .i64 x
theorem intsV_len (l:List Int):(intsV l).length=l.length:=by simp[intsV]
theorem intsV_get (l:List Int) (i:Nat) (h:i<l.length):(intsV l)[i]?=some (.int .i64 (l.getD i 0)):=by simp[intsV,List.getD,h]
theorem intsV_set (l:List Int) (i:Nat) (x:Int):(intsV l).set i (.int .i64 x)=intsV (l.set i x):=by simp[intsV,List.map_set]
theorem made_zero (n:Nat):(madeCells (Value.int .i64 0).cells (n*1)).toList=intsV (List.replicate n 0):=by
 have e:(Value.int .i64 0).cells=#[Value.int .i64 0]:=rfl
 rw[e,toList_madeCells_one,Nat.mul_one]
 simp[intsV]
end Go.Proofs.Ytgagenmkpmmpfaa
/- Slices that are read; lists of numbers that stand in a function's values; which walk an arc lies in. -/
namespace Go.Proofs.Ytgagenmkpmmpfaa
open Go.RowKit
def RdAt (w:World) (B size:Nat) (v:Value) (n:Nat) (xs:List Value):Prop:=∃ a cap,v=.slice a n cap/\(0<n->∃ b off,a=some ⟨b,off,none⟩/\b<B/\∀ j,j<n*size->w.cell? ⟨b,off+j,none⟩=xs[j]?)
theorem RdAt.on {w w':World} {B size n:Nat} {v:Value} {xs:List Value} (h:RdAt w B size v n xs) (hb:Below B w w'):RdAt w' B size v n xs:=by
 obtain⟨a,cap,rfl,f⟩:=h
 refine⟨a,cap,rfl,fun h0=>?_⟩
 obtain⟨b,off,rfl,hlt,hc⟩:=f h0
 exact⟨b,off,rfl,hlt,fun j hj=>bcell hb hlt (hc j hj)⟩
theorem RdAt.mono {w:World} {B B' size n:Nat} {v:Value} {xs:List Value} (h:RdAt w B size v n xs) (hB:B<=B'):RdAt w B' size v n xs:=by
 obtain⟨a,cap,rfl,f⟩:=h
 refine⟨a,cap,rfl,fun h0=>?_⟩
 obtain⟨b,off,rfl,hlt,hc⟩:=f h0
 exact⟨b,off,rfl,Nat.lt_of_lt_of_le hlt hB,hc⟩
theorem own_rd {w:World} {B e size n:Nat} {v:Value} {xs:List Value} (h:w.ownsRow B e size v n xs):RdAt w w.heap.size size v n xs:=by
 have h0:=h
 rcases h.2 with⟨rfl,h1⟩|⟨g,cap,cur,rfl,_,_,_⟩
 · exact⟨none,0,by rw[h1],fun hp=>by omega⟩
 · exact⟨some ⟨g,0,none⟩,cap,rfl,fun _=>⟨g,0,rfl,(h0.lt g rfl).2,fun j hj=>by rw[Nat.zero_add];exact h0.cellAt j hj⟩⟩
def NatsRd (w:World) (B:Nat) (v:Value) (L:List (List Nat)):Prop:=∃ ys:List Value,ys.length=L.length/\RdAt w B 1 v L.length ys/\∀ j,j<L.length->RdAt w B 1 (ys.getD j (.bool false)) (L.getD j []).length (nats (L.getD j []))
theorem NatsRd.on {w w':World} {B:Nat} {v:Value} {L:List (List Nat)} (h:NatsRd w B v L) (hb:Below B w w'):NatsRd w' B v L:=by
 obtain⟨ys,hy,h1,h2⟩:=h
 exact⟨ys,hy,h1.on hb,fun j hj=>(h2 j hj).on hb⟩
theorem NatsRd.mono {w:World} {B B':Nat} {v:Value} {L:List (List Nat)} (h:NatsRd w B v L) (hB:B<=B'):NatsRd w B' v L:=by
 obtain⟨ys,hy,h1,h2⟩:=h
 exact⟨ys,hy,h1.mono hB,fun j hj=>(h2 j hj).mono hB⟩
theorem NatsRd.up {w w':World} {v:Value} {L:List (List Nat)} (h:NatsRd w w.heap.size v L) (hb:Below w.heap.size w w'):NatsRd w' w'.heap.size v L:=(h.on hb).mono hb.size
theorem NatsOwn.rd {w:World} {B:Nat} {v:Value} {L:List (List Nat)} (h:NatsOwn w B v L):NatsRd w w.heap.size v L:=by
 obtain⟨ys,hy,h1,h2⟩:=h
 exact⟨ys,hy,by rw[<-hy];exact own_rd h1,fun j hj=>own_rd (h2 j hj)⟩
theorem NatsRd.len {w:World} {B:Nat} {v:Value} {L:List (List Nat)} (h:NatsRd w B v L):∃ a cap,v=.slice a L.length cap:=by
 obtain⟨ys,hy,⟨a,cap,e,-⟩,h2⟩:=h
 exact⟨a,cap,e⟩
theorem NatsRd.row {w : World} {B : Nat} {a : Option Addr} {cap : Nat} {L : List (List Nat)} (h : NatsRd w B (.slice a L.length cap) L) (j : Nat) (hj : j < L.length) :
    ∃ b off ar cr,a=some ⟨b,off,none⟩/\b<B/\w.cell? ⟨b,off+j,none⟩=some (.slice ar (L.getD j []).length cr)/\RdAt w B 1 (.slice ar (L.getD j []).length cr) (L.getD j []).length (nats (L.getD j [])):=by
 obtain⟨ys,hy,⟨a',cap',e,f⟩,h2⟩:=h
 injection e with e1 e2 e3
 obtain⟨b,off,eb,hlt,hc⟩:=f (by omega)
 have hr:=h2 j hj
 obtain⟨ar,cr,er,-⟩:=hr
 have hr:=h2 j hj
 rw[er]at hr
 refine⟨b,off,ar,cr,e1.trans eb,hlt,?_,hr⟩
 rw[hc j (by omega),<-er]
 simp[List.getD,hy,hj]
def mapI (m:Nat) (f:Nat->Int):List Int:=(List.range m).map f
theorem mapI_len (m:Nat) (f:Nat->Int):(mapI m f).length=m:=by simp[mapI]
theorem mapI_get (m:Nat) (f:Nat->Int) (i:Nat) (h:i<m):(mapI m f)[i]?=some (f i):=by simp[mapI,h]
theorem mapI_at (m:Nat) (f:Nat->Int) (i:Nat) (h:i<m):(mapI m f).getD i 0=f i:=by rw[List.getD_eq_getElem?_getD,mapI_get m f i h];rfl
theorem mapI_set (m:Nat) (f g:Nat->Int) (i:Nat) (x:Int) (h:∀ j,j<m->g j=if j=i then x else f j):(mapI m f).set i x=mapI m g:=by
 apply List.ext_getElem?
 intro j
 by_cases hj:j<m
 · rw[mapI_get m g j hj,h j hj,List.getElem?_set]
   by_cases e:i=j
   · subst e;simp[mapI_len,hj]
   · rw[if_neg e,if_neg (fun h=>e h.symm),mapI_get m f j hj]
 · rw[List.getElem?_eq_none (by simp[mapI_len];omega),List.getElem?_eq_none (by simp[mapI_len];omega)]
theorem mapI_zero (m:Nat) (f:Nat->Int) (h:∀ j,j<m->f j=0):mapI m f=List.replicate m 0:=by
 apply List.ext_getElem?
 intro j
 by_cases hj:j<m
 · rw[mapI_get m f j hj,h j hj];simp[hj]
 · rw[List.getElem?_eq_none (by simp[mapI_len];omega),List.getElem?_eq_none (by simp;omega)]
theorem mapI_congr (m:Nat) (f g:Nat->Int) (h:∀ j,j<m->f j=g j):mapI m f=mapI m g:=List.map_congr_left fun j hj=>h j (List.mem_range.1 hj)
def pt (L:List (List Nat)) (a:Nat):Nat:=L.findIdx fun l=>decide (a∈l)
theorem two_rows (a:Nat):∀ (L:List (List Nat)) (i j:Nat),i<j->j<L.length->a∈L.getD i []->a∈L.getD j []->2<=L.flatten.count a
 |[],i,j,_,h,_,_=>absurd h (by simp)
 |x::t,0,j+1,_,hj,h1,h2=>by
  have h3:1<=x.count a:=List.one_le_count_iff.2 (by simpa using h1)
  have hj':j<t.length:=by simpa using hj
  have h4:a∈t.flatten:=by
   refine List.mem_flatten.2 ⟨t.getD j [],?_,by simpa using h2⟩
   rw[List.getD_eq_getElem?_getD,List.getElem?_eq_getElem hj']
   exact List.getElem_mem hj'
  have h5:1<=t.flatten.count a:=List.one_le_count_iff.2 h4
  rw[List.flatten_cons,List.count_append]
  omega
 |x::t,i+1,j+1,hij,hj,h1,h2=>by
  have:=two_rows a t i j (by omega) (by simpa using hj) (by simpa using h1) (by simpa using h2)
  rw[List.flatten_cons,List.count_append]
  omega
theorem pt_is {L:List (List Nat)} {a i:Nat} (h1:L.flatten.count a=1) (hi:i<L.length) (ha:a∈L.getD i []):pt L a=i:=by
 have hle:pt L a<=i:=by
  refine Classical.byContradiction fun hc=>?_
  have:=List.not_of_lt_findIdx (p:=fun l=>decide (a∈l)) (xs:=L) (i:=i) (by unfold pt at hc;omega)
  rw[List.getD_eq_getElem?_getD,List.getElem?_eq_getElem hi]at ha
  simp at this
  exact this (by simpa using ha)
 rcases Nat.lt_or_ge (pt L a) i with h|h
 · have hl:pt L a<L.length:=by omega
   have hm:=List.findIdx_getElem (p:=fun l=>decide (a∈l)) (xs:=L) (w:=hl)
   have hm2:a∈L.getD (pt L a) []:=by
    rw[List.getD_eq_getElem?_getD,List.getElem?_eq_getElem hl]
    exact of_decide_eq_true hm
   have:=two_rows a L (pt L a) i h hi hm2 ha
   omega
 · omega
theorem pt_lt {L:List (List Nat)} {a:Nat} (h1:L.flatten.count a=1):pt L a<L.length:=by
 have:a∈L.flatten:=List.one_le_count_iff.1 (by omega)
 obtain⟨l,hl,ha⟩:=List.mem_flatten.1 this
 exact List.findIdx_lt_length_of_exists ⟨l,hl,by simpa using ha⟩
theorem pt_mem {L:List (List Nat)} {a i:Nat} (h1:L.flatten.count a=1) (hi:i<L.length):a∈L.getD i []↔pt L a=i:=by
 constructor
 · exact pt_is h1 hi
 · intro e
   have hl:pt L a<L.length:=by omega
   have hm:=List.findIdx_getElem (p:=fun l=>decide (a∈l)) (xs:=L) (w:=hl)
   rw[<-e,List.getD_eq_getElem?_getD,List.getElem?_eq_getElem hl]
   exact of_decide_eq_true hm
end Go.Proofs.Ytgagenmkpmmpfaa
/- Plain mathematics: rings of a renaming are closed; in which face a dart lies. -/
namespace Go.Proofs.Ytgagenmkpmmpfaa
theorem un_le (l:List Bool) (y:Nat):un l y<=1:=by unfold un;split<;>omega
theorem unseen_none {l:List Bool} (h:unseen l=0) (x:Nat):l.getD x true=true:=by
 cases e:l.getD x true with
 |true=>rfl
 |false=>have:=unseen_pos e;omega
theorem walkF_chain (f : Nat → Nat) : ∀ (m : Nat) (seen : List Bool) (x : Nat) (acc : List Nat), unseen seen ≤ m → (∀ i, i + 1 < acc.length → acc.getD (i + 1) 0 = f (acc.getD i 0)) → (0 < acc.length → x = f (acc.getD (acc.length - 1) 0)) →
    (∀ i,i+1<(walkF f m seen x acc).1.length->(walkF f m seen x acc).1.getD (i+1) 0=f ((walkF f m seen x acc).1.getD i 0))/\(0<(walkF f m seen x acc).1.length->un (walkF f m seen x acc).2 (f ((walkF f m seen x acc).1.getD ((walkF f m seen x acc).1.length-1) 0))=0):=by
 intro m
 induction m with
 |zero=>
  intro seen x acc hu hc hx
  refine⟨hc,fun h0=>?_⟩
  show un seen (f (acc.getD (acc.length-1) 0))=0
  rw[<-hx h0]
  unfold un
  rw[if_pos (unseen_none (by omega) x)]
 |succ m ih=>
  intro seen x acc hu hc hx
  by_cases hs:seen.getD x true=true
  · rw[walkF_seen hs]
    refine⟨hc,fun h0=>?_⟩
    show un seen (f (acc.getD (acc.length-1) 0))=0
    rw[<-hx h0]
    unfold un
    rw[if_pos hs]
  · have hs':seen.getD x true=false:=by simpa using hs
    obtain⟨e,hu2⟩:=walkF_more (f:=f) (acc:=acc) hs' hu
    rw[e]
    refine ih _ _ _ hu2 (fun i hi=>?_) (fun _=>?_)
    · rw[List.length_append,List.length_singleton]at hi
      by_cases hi2:i+1<acc.length
      · have e1:(acc++[x]).getD (i+1) 0=acc.getD (i+1) 0:=by simp[List.getD_eq_getElem?_getD,List.getElem?_append_left hi2]
        have e2:(acc++[x]).getD i 0=acc.getD i 0:=by simp[List.getD_eq_getElem?_getD,List.getElem?_append_left (show i<acc.length by omega)]
        rw[e1,e2]
        exact hc i hi2
      · have hl:acc.length=i+1:=by omega
        have e1:(acc++[x]).getD (i+1) 0=x:=by rw[<-hl];simp[List.getD_eq_getElem?_getD]
        have e2:(acc++[x]).getD i 0=acc.getD i 0:=by simp[List.getD_eq_getElem?_getD,List.getElem?_append_left (show i<acc.length by omega)]
        rw[e1,e2,hx (by omega),hl]
        rfl
    · have e1:(acc++[x]).getD ((acc++[x]).length-1) 0=x:=by simp[List.getD_eq_getElem?_getD]
      rw[e1]
theorem mem_atZ {l:List Nat} {y:Nat} (h:y∈l):∃ i,i<l.length/\l.getD i 0=y:=by
 obtain⟨i,hi,e⟩:=List.getElem_of_mem h
 exact⟨i,hi,by rw[List.getD_eq_getElem?_getD,List.getElem?_eq_getElem hi];exact e⟩
theorem at_mem {l:List Nat} {i:Nat} (h:i<l.length):l.getD i 0∈l:=by
 rw[List.getD_eq_getElem?_getD,List.getElem?_eq_getElem h]
 exact List.getElem_mem h
theorem at_ne {l:List Nat} (h:∀ y,l.count y<=1) {i j:Nat} (hij:i<j) (hj:j<l.length):l.getD i 0≠l.getD j 0:=by
 have hn:l.Nodup:=List.nodup_iff_count.2 h
 have:=List.pairwise_iff_getElem.1 hn i j (by omega) hj hij
 rw[List.getD_eq_getElem?_getD,List.getElem?_eq_getElem (by omega),List.getD_eq_getElem?_getD,List.getElem?_eq_getElem hj]
 exact this
theorem rings_closed {f : Nat → Nat} {n : Nat} (hf : ∀ a, 1 ≤ a → a ≤ n → 1 ≤ f a ∧ f a ≤ n) (hi : ∀ a b, 1 ≤ a → a ≤ n → 1 ≤ b → b ≤ n → f a = f b → a = b) : ∀ a, a ≤ n →
    (∀ l,l∈(walksTo f n a).1->∀ y,y∈l->f y∈l)/\(∀ y,1<=y->y<=n->un (walksTo f n a).2 (f y)=0->un (walksTo f n a).2 y=0)/\
    (∀ l,l∈(walksTo f n a).1->(∀ i,i+1<l.length->l.getD (i+1) 0=f (l.getD i 0))/\f (l.getD (l.length-1) 0)=l.getD 0 0):=by
 intro a
 induction a with
 |zero=>
  intro _
  refine⟨fun l hl=>absurd hl (by simp[walksTo]),fun y h1 h2 h3=>?_,fun l hl=>absurd hl (by simp[walksTo])⟩
  have h4:=hf y h1 h2
  exfalso
  have:un (walksTo f n 0).2 (f y)=1:=by
   simp[walksTo,un,List.getD_eq_getElem?_getD,show f y<n+1 by omega]
  omega
 |succ a ih=>
  intro ha
  obtain⟨i1,i2,i3⟩:=ih (by omega)
  have hin:=walksTo_mem hf a (by omega)
  generalize hr:walksTo f n a=r at i1 i2 i3 hin
  have hlen:r.2.length=n+1:=by rw[<-hr];exact walksTo_len f n a
  have hch:=walkF_chain f (n+1) r.2 (a+1) [] (by have:=unseen_le r.2;omega) (fun i hi=>by simp at hi) (fun h0=>by simp at h0)
  have hmem:=walkF_mem hf (n+1) r.2 (a+1) [] (by omega) ha (fun y hy=>by cases hy)
  have hcnt:=walkF_count f (n+1) r.2 (a+1) []
  have hkeep:=walkF_keep f (n+1) r.2 (a+1) []
  have e:walksTo f n (a+1)=(if(walkF f (n+1) r.2 (a+1) []).1=[] then r.1 else r.1++[(walkF f (n+1) r.2 (a+1) []).1],(walkF f (n+1) r.2 (a+1) []).2):=by simp only[walksTo,hr]
  rw[e]
  generalize walkF f (n+1) r.2 (a+1) []=s at hch hmem hcnt hkeep
  obtain⟨l,sn⟩:=s
  simp only[List.count_nil,Nat.zero_add]at hch hmem hcnt hkeep ⊢
  have hc1:∀ y,l.count y<=1:=fun y=>by have:=hcnt y;have:=un_le r.2 y;omega
  have hin1:∀ y,y∈l->un r.2 y=1/\un sn y=0:=fun y hy=>by
   have h1:1<=l.count y:=List.one_le_count_iff.2 hy
   have h2:=hcnt y
   have h3:=un_le r.2 y
   omega
  -- what stands behind the last is the first
  have hend:0<l.length->f (l.getD (l.length-1) 0)=l.getD 0 0:=fun h0=>by
   have hlast:=at_mem (l:=l) (i:=l.length-1) (by omega)
   have hb:=hmem _ hlast
   have hz:=hch.2 h0
   have hnz:un r.2 (f (l.getD (l.length-1) 0))≠0:=fun q=>by
    have:=i2 _ hb.1 hb.2 q
    have:=(hin1 _ hlast).1
    omega
   have hz1:f (l.getD (l.length-1) 0)∈l:=by
    have h2:=hcnt (f (l.getD (l.length-1) 0))
    refine List.one_le_count_iff.1 ?_
    omega
   obtain⟨j,hj,ej⟩:=mem_atZ hz1
   cases j with
   |zero=>exact ej.symm
   |succ j=>
    exfalso
    have h5:=hch.1 j hj
    rw[ej]at h5
    have hbj:=hmem _ (at_mem (l:=l) (i:=j) (by omega))
    have h6:=hi _ _ hb.1 hb.2 hbj.1 hbj.2 h5
    exact at_ne hc1 (i:=j) (j:=l.length-1) (by omega) (by omega) h6.symm
  refine⟨?_,fun y h1 h2 h3=>?_,fun l' hl'=>?_⟩
  · intro l' hl' y hy
    by_cases hnil:l=[]
    · rw[if_pos hnil]at hl'
      exact i1 l' hl' y hy
    · rw[if_neg hnil]at hl'
      rcases List.mem_append.1 hl' with h|h
      · exact i1 l' h y hy
      · obtain rfl:=List.mem_singleton.1 h
        obtain⟨i,hil,rfl⟩:=mem_atZ hy
        by_cases hlast:i+1<l'.length
        · rw[<-hch.1 i hlast]
          exact at_mem hlast
        · have hi1:i=l'.length-1:=by omega
          rw[hi1,hend (by omega)]
          exact at_mem (by omega)
  · by_cases hq:un r.2 (f y)=0
    · exact hkeep y (i2 y h1 h2 hq)
    · have hmy:f y∈l:=List.one_le_count_iff.1 (by have:=hcnt (f y);omega)
      obtain⟨j,hj,ej⟩:=mem_atZ hmy
      cases j with
      |zero=>
       have hlast:=at_mem (l:=l) (i:=l.length-1) (by omega)
       have hb:=hmem _ hlast
       have:=hi y _ h1 h2 hb.1 hb.2 (by rw[hend (by omega),ej])
       rw[this]
       exact(hin1 _ hlast).2
      |succ j=>
       have h5:=hch.1 j hj
       rw[ej]at h5
       have hbj:=hmem _ (at_mem (l:=l) (i:=j) (by omega))
       have:=hi y _ h1 h2 hbj.1 hbj.2 h5
       rw[this]
       exact(hin1 _ (at_mem (by omega))).2
  · by_cases hnil:l=[]
    · rw[if_pos hnil]at hl'
      exact i3 l' hl'
    · rw[if_neg hnil]at hl'
      rcases List.mem_append.1 hl' with h|h
      · exact i3 l' h
      · obtain rfl:=List.mem_singleton.1 h
        have h0:0<l'.length:=by
         cases l' with
         |nil=>exact absurd rfl hnil
         |cons=>simp
        exact⟨hch.1,hend h0⟩
theorem fd_inj {C:List Cr} {loops:Int} (hm:mayD C loops=true) (i j:Nat) (h1:1<=i) (h2:i<=4*C.length) (h3:1<=j) (h4:j<=4*C.length) (e:fd C i=fd C j):i=j:=by
 obtain⟨p1,p2,p3⟩:=d_may hm i h1 h2
 obtain⟨q1,q2,q3⟩:=d_may hm j h3 h4
 obtain⟨a1,a2,a3,a4⟩:=fd_may hm i h1 h2
 obtain⟨b1,b2,b3,b4⟩:=fd_may hm j h3 h4
 rw[e]at a1 a2
 have hA:=dA_le b3 b4
 have e1:=end_one hm _ hA.1 hA.2 _ _ _ p2 (Nat.mod_lt _ (by decide)) a1 a2
 have e2:=end_one hm _ hA.1 hA.2 _ _ _ q2 (Nat.mod_lt _ (by decide)) b1 b2
 rw[e1]at e2
 have hcc:dC C i=dC C j:=by have:=congrArg Prod.fst e2;simp only at this;omega
 have hss:dS C i=dS C j:=by have:=congrArg Prod.snd e2;simp only at this;omega
 have u:=en_may hm (dA i) (!dB i) (dA_le h1 h2).1 (dA_le h1 h2).2
 have v:=en_may hm (dA j) (!dB j) (dA_le h3 h4).1 (dA_le h3 h4).2
 have u1:(C.getD (dC C i) Cr.none).arc (dS C i)=(dA i:Int):=u.2.2.2.1
 have v1:(C.getD (dC C j) Cr.none).arc (dS C j)=(dA j:Int):=v.2.2.2.1
 have u2:(C.getD (dC C i) Cr.none).comes (dS C i)=(!dB i):=u.2.2.2.2
 have v2:(C.getD (dC C j) Cr.none).comes (dS C j)=(!dB j):=v.2.2.2.2
 rw[hcc,hss]at u1 u2
 have h5:dA i=dA j:=by omega
 have h6:dB i=dB j:=by
  rw[u2]at v2
  revert v2
  cases dB i<;>cases dB j<;>simp
 rw[<-mk_d h1,<-mk_d h3,h5,h6]
def fo (C:List Cr) (j:Nat):Nat:=pt (facesM C) j
theorem fo_lt {C:List Cr} (j:Nat) (h1:1<=j) (h2:j<=4*C.length):fo C j<(facesM C).length:=pt_lt (walks_once (fd C) (4*C.length) j h1 h2)
theorem fo_fd {C:List Cr} {loops:Int} (hm:mayD C loops=true) (j:Nat) (h1:1<=j) (h2:j<=4*C.length):fo C (fd C j)=fo C j:=by
 have hc:=fd_closed hm j h1 h2
 have hl:=fo_lt j h1 h2
 have hj:j∈(facesM C).getD (fo C j) []:=(pt_mem (walks_once (fd C) (4*C.length) j h1 h2) hl).2 rfl
 have hin:(facesM C).getD (fo C j) []∈facesM C:=by
  rw[List.getD_eq_getElem?_getD,List.getElem?_eq_getElem hl]
  exact List.getElem_mem hl
 have h3:=(rings_closed (fd_closed hm) (fun a b p q r s t=>fd_inj hm a b p q r s t) (4*C.length) (Nat.le_refl _)).1 _ hin j hj
 exact pt_is (walks_once (fd C) (4*C.length) _ hc.1 hc.2) hl h3
end Go.Proofs.Ytgagenmkpmmpfaa
/- A row that is taken from at its head and appended to at its end: in the world, and the step of append upon it. -/
namespace Go.Proofs.Ytgagenmkpmmpfaa
open Go.RowKit
def QueAt (w:World) (base:Nat) (e:TypeId) (v:Value) (xs:List Value):Prop:=
 ∃ g off cap cur,v=.slice (some ⟨g,off,none⟩) xs.length cap/\base<=g/\w.heap[g]?=some (.cells cur e (0,0))/\xs.length<=cap/\cap<=maxLen/\off+cap<=cur.size/\(cur.toList.drop off).take xs.length=xs
theorem QueAt.kept {w w':World} {base:Nat} {e:TypeId} {v:Value} {xs:List Value} {row:Option Nat} (h:QueAt w base e v xs) (hg:w.grownBy w' row) (hne:v.ownBlock≠row):QueAt w' base e v xs:=by
 obtain⟨g,off,cap,cur,rfl,hb,hgg,rest⟩:=h
 refine⟨g,off,cap,cur,rfl,hb,?_,rest⟩
 rw[hg.block g (Array.getElem?_eq_some_iff.1 hgg).1 (by simpa[Value.ownBlock] using hne)]
 exact hgg
theorem QueAt.lt {w:World} {base:Nat} {e:TypeId} {v:Value} {xs:List Value} (h:QueAt w base e v xs):∀ k,v.ownBlock=some k->base<=k/\k<w.heap.size:=by
 intro k hk
 obtain⟨g,off,cap,cur,rfl,hb,hgg,rest⟩:=h
 have e:=Option.some.inj hk
 have e2:g=k:=e
 subst e2
 exact⟨hb,(Array.getElem?_eq_some_iff.1 hgg).1⟩
theorem QueAt.shape {w:World} {base:Nat} {e:TypeId} {v:Value} {xs:List Value} (h:QueAt w base e v xs):∃ g off cap,v=.slice (some ⟨g,off,none⟩) xs.length cap/\xs.length<=cap:=by
 obtain⟨g,off,cap,cur,rfl,_,_,h2,_⟩:=h
 exact⟨g,off,cap,rfl,h2⟩
theorem QueAt.size {w:World} {base g off n cap:Nat} {e:TypeId} {xs:List Value} (h:QueAt w base e (.slice (some ⟨g,off,none⟩) n cap) xs):n=xs.length/\n<=cap/\cap<=maxLen/\base<=g/\g<w.heap.size:=by
 obtain⟨g',off',cap',cur,ev,hb,hgg,h1,h2,_⟩:=h
 injection ev with e1 e2 e3
 injection e1 with e1
 injection e1 with e4 e5
 subst e4 e2 e3
 exact⟨rfl,h1,h2,hb,(Array.getElem?_eq_some_iff.1 hgg).1⟩
theorem QueAt.cell {w:World} {base g off n cap:Nat} {e:TypeId} {xs:List Value} (h:QueAt w base e (.slice (some ⟨g,off,none⟩) n cap) xs) (j:Nat) (u:Value) (hj:xs[j]?=some u):w.cell? ⟨g,off+j,none⟩=some u:=by
 obtain⟨g',off',cap',cur,ev,hb,hgg,h1,h2,h3,h4⟩:=h
 injection ev with e1 e2 e3
 injection e1 with e1
 injection e1 with e4 e5
 subst e4 e5
 rw[cell_of_row w g _ cur e (0,0) hgg]
 rw[<-h4,List.getElem?_take]at hj
 split at hj
 · rw[List.getElem?_drop]at hj
   simpa using hj
 · cases hj
theorem QueAt.tail {w:World} {base g off n cap:Nat} {e:TypeId} {x:Value} {xs:List Value} (h:QueAt w base e (.slice (some ⟨g,off,none⟩) n cap) (x::xs)):QueAt w base e (.slice (some ⟨g,off+1,none⟩) (n-1) (cap-1)) xs:=by
 obtain⟨g',off',cap',cur,ev,hb,hgg,h1,h2,h3,h4⟩:=h
 injection ev with e1 e2 e3
 injection e1 with e1
 injection e1 with e4 e5
 subst e4 e5 e3
 simp only[List.length_cons]at e2 h1 h4
 refine⟨g,off+1,cap-1,cur,by rw[e2];simp,hb,hgg,by omega,by omega,by omega,?_⟩
 have h5:((cur.toList.drop off).take (xs.length+1)).drop 1=xs:=by rw[h4];rfl
 rw[List.drop_take,List.drop_drop]at h5
 simpa using h5
theorem QueAt.tail1 {w:World} {base g off n:Nat} {e:TypeId} {x:Value} {xs:List Value} (h:QueAt w base e (.slice (some ⟨g,off,none⟩) n 1) (x::xs)):QueAt w base e (.slice (some ⟨g,off,none⟩) (n-1) 0) xs/\xs=[]:=by
 obtain⟨g',off',cap',cur,ev,hb,hgg,h1,h2,h3,h4⟩:=h
 injection ev with e1 e2 e3
 injection e1 with e1
 injection e1 with e4 e5
 subst e4 e5 e3
 simp only[List.length_cons]at e2 h1 h4
 have hx:xs=[]:=List.length_eq_zero_iff.1 (by omega)
 subst hx
 exact⟨⟨g,off,0,cur,by rw[e2];simp,hb,hgg,Nat.zero_le _,Nat.zero_le _,by omega,by simp⟩,rfl⟩
theorem QueAt.made {w:World} {base g n cap:Nat} {e:TypeId} {xs:List Value} (h:w.ownsRow base e 1 (.slice (some ⟨g,0,none⟩) n cap) n xs):QueAt w base e (.slice (some ⟨g,0,none⟩) n cap) xs:=by
 obtain⟨hl,h⟩:=h
 rcases h with⟨h,_⟩|⟨g',cap',cur,ev,hb,hgg,h1,h2,h3,h4⟩
 · cases h
 · injection ev with e1 e2 e3
   injection e1 with e1
   injection e1 with e4
   subst e4 e3
   rw[Nat.mul_one]at hl h3 h4
   exact⟨g,0,cap,cur,by rw[hl],hb,hgg,by omega,h2,by omega,by rw[hl];simpa using h4⟩
theorem run_append_que {P : Program} (w : World) (base : Nat) (t ty e : TypeId) (i : TypeInfo) (z : Value) (bytes : Nat) (ht : P.underlying t = some (.slice e)) (hi : P.info? e = some i) (hz : i.zero = some z)
    (hsize:i.size=1) (hby:i.bytes=bytes) (hzs:z.cells.size=1)
    (v:Value) (xs:List Value) (hown:QueAt w base e v xs)
    (a:Addr) (c:Nat) (u:Value) (hnews:w.cell? a=some u) (h1:u.oneCell'=true)
    (h63:xs.length+1<=maxLen) (hbytes:(xs.length+1)*bytes<=140737488355328) (hbase:base<=w.heap.size):
    ∃ v' w',(Builtin.append_ #[t,t] ty #[v,.slice (some a) 1 c]).run P w=.ok v' w'/\QueAt w' base e v' (xs++[u])/\w.grownBy w' v.ownBlock:=by
 subst hby
 have hsmall:xs.length+1<=9223372036854775807:=by simp only[maxLen]at h63;omega
 have hl:[u].length=1*i.size:=by rw[hsize];rfl
 have hcells:∀ j v,[u][j]?=some v->w.cell? (a.add j)=some v:=by
  intro j v hj
  cases j with
  |zero=>
   have e:v=u:=by simpa using hj.symm
   subst e
   have ha:a.add 0=a:=by unfold Addr.add;split<;>simp_all
   rw[ha]
   exact hnews
  |succ j=>simp at hj
 obtain⟨g,off,cap,cur,rfl,hb,hgg,hnc,hcm,hcs,htake⟩:=hown
 by_cases hroom:xs.length+1<=cap
 · have hf:=run_firstCells_some (P:=P) w i.size 1 a 1 c [u] hl hcells
   have hst:=run_storeCells_at P g (off+xs.length) e [u] 0 cur w hgg (by simp;omega) (by simpa using h1)
   simp only[Nat.add_zero]at hst
   refine⟨.slice (some ⟨g,off,none⟩) (xs.length+1) cap,w.setRow g (cur.toList.take (off+xs.length)++[u]++cur.toList.drop (off+xs.length+[u].length)).toArray,?_,⟨g,off,cap,_,by simp,hb,setRow_heap w g cur _ e _ hgg,by simpa using hroom,hcm,?_,?_⟩,⟨rfl,rfl,rfl,by simp,fun k _ hk=>setRow_other w g k _ (fun e=>hk (by simp[Value.ownBlock,e]))⟩⟩
   · rw[hsize]at hf
     simp[Builtin.append_,run_underlying ht,sizeOf,typeInfo,hi,hsize,Builtin.lenOf,hroom,hf,Addr.add_lit]
     simp at hst
     simp[hst]
   · simp only[List.size_toArray,List.length_append,List.length_take,List.length_drop,Array.length_toList,List.length_cons,List.length_nil]
     omega
   · have h5:(cur.toList.take (off+xs.length)).drop off=xs:=by rw[List.drop_take,Nat.add_sub_cancel_left];exact htake
     simp only[List.append_assoc]
     rw[List.drop_append_of_le_length (by simp;omega),h5,<-List.append_assoc]
     exact List.take_left
 · have holds : ∀ j v, xs[j]? = some v → w.cell? ((⟨g, off, none⟩ : Addr).add j) = some v := fun j v hj => by
     have hadd:(⟨g,off,none⟩:Addr).add j=⟨g,off+j,none⟩:=by unfold Addr.add;split<;>simp_all
     rw[hadd]
     exact QueAt.cell (⟨g,off,cap,cur,rfl,hb,hgg,hnc,hcm,hcs,htake⟩:QueAt w base e (.slice (some ⟨g,off,none⟩) xs.length cap) xs) j v hj
   have hr:=run_append_grow (P:=P) w t ty e i z ht hi hz ⟨g,off,none⟩ xs.length cap xs (by rw[hsize,Nat.mul_one]) holds a 1 c [u] hl hcells (by omega) (by omega) (growslice_fits (by omega) hbytes)
   have hge:=grownCap_ge w (xs.length+1) cap e
   refine⟨_,_,hr,⟨w.heap.size,0,_,_,by simp,hbase,heap_alloc_new w.drew _,by simpa using hge,grownCap_le_maxLen w (xs.length+1) cap e h63,?_,?_⟩,⟨rfl,rfl,rfl,by simp,fun k hk _=>Array.getElem?_push_lt hk▸(Array.getElem?_eq_getElem hk).symm⟩⟩
   · simp only[Array.size_append,List.size_toArray,size_zeroCells,hzs,List.length_cons,List.length_nil]
     omega
   · simp only[Array.toList_append,List.drop_zero]
     exact List.take_left
theorem wpList_append_que {P : Program} (w : World) {ops : Array Oper} {rest : List Oper} {o : Oper} {a : Act} {Q : Exit → Act → World → Prop} (hgd : o.guard = none) (s x : Operand) (t : TypeId)
    (ho:o.op=.call { callee:=.builtin .append,args:=#[s,x],argTypes:=#[t,t] })
    (base:Nat) (e:TypeId) (i:TypeInfo) (z:Value) (bytes:Nat) (ht:P.underlying t=some (.slice e)) (hi:P.info? e=some i) (hz:i.zero=some z)
    (hsize:i.size=1) (hby:i.bytes=bytes) (hzs:z.cells.size=1)
    (v:Value) (xs:List Value) (hs:a.eval s=v) (hown:QueAt w base e v xs)
    (ad:Addr) (c:Nat) (u:Value) (hx:a.eval x=.slice (some ad) 1 c) (hnews:w.cell? ad=some u) (h1:u.oneCell'=true)
    (h63:xs.length+1<=maxLen) (hbytes:(xs.length+1)*bytes<=140737488355328) (hbase:base<=w.heap.size)
    (h:∀ v' w',QueAt w' base e v' (xs++[u])->w.grownBy w' v.ownBlock->wpList P ops Q rest (a.put o.dst v') w'):wpList P ops Q (o::rest) a w:=by
 refine wpList_plain hgd fun _ hK=>?_
 obtain⟨v',w',hr,h2,h3⟩:=run_append_que (P:=P) w base t o.type e i z bytes ht hi hz hsize hby hzs v xs hown ad c u hnews h1 h63 hbytes hbase
 unfold Oper.wp execOp
 simp only[ho,resolve,invoke,builtin,Sem.run_bind,Sem.run_pure,Result.andThen_ok,List.map_toArray,List.map_cons,List.map_nil,hs,hx,hr]
 exact hK _ _ (h v' w' h2 h3)
end Go.Proofs.Ytgagenmkpmmpfaa
/- Plain mathematics: labels merged place by place. -/
namespace Go.Proofs.Ytgagenmkpmmpfaa
open Go.RowKit
theorem cut_one {T G:Prop} (h:Hid T->G) (hT:T):G:=h hT
def merTo (W:List Nat) (x y k:Nat):List Nat:=(List.range W.length).map fun v=>if v<k then(mer W x y).getD v 0 else W.getD v 0
theorem merTo_len (W:List Nat) (x y k:Nat):(merTo W x y k).length=W.length:=by simp[merTo]
theorem merTo_at (W:List Nat) (x y k v:Nat) (hv:v<W.length):(merTo W x y k).getD v 0=if v<k then(mer W x y).getD v 0 else W.getD v 0:=by simp[merTo,List.getD_eq_getElem?_getD,hv]
theorem getD_ext {l m:List Nat} (h:l.length=m.length) (g:∀ v,v<l.length->l.getD v 0=m.getD v 0):l=m:=by
 refine List.ext_getElem h fun i h1 h2=>?_
 have:=g i h1
 simpa[List.getD_eq_getElem?_getD,h1,h2] using this
theorem merTo_zero (W:List Nat) (x y:Nat):merTo W x y 0=W:=getD_ext (merTo_len _ _ _ _) fun v hv=>by
 rw[merTo_len]at hv;rw[merTo_at _ _ _ _ _ hv,if_neg (by omega)]
theorem merTo_all (W:List Nat) (x y:Nat):merTo W x y W.length=mer W x y:=getD_ext (by rw[merTo_len,mer_len]) fun v hv=>by
 rw[merTo_len]at hv;rw[merTo_at _ _ _ _ _ hv,if_pos hv]
theorem merTo_next (W:List Nat) (x y k z:Nat) (hk:k<W.length) (hz:(mer W x y).getD k 0=z):(merTo W x y k).set k z=merTo W x y (k+1):=getD_ext (by simp[merTo_len]) fun v hv=>by
 have hv':v<W.length:=by simpa[merTo_len] using hv
 rw[getD_set _ _ _ _ (by rw[merTo_len];exact hk),merTo_at _ _ _ _ _ hv',merTo_at _ _ _ _ _ hv']
 by_cases e:v=k
 · subst e;rw[if_pos rfl,if_pos (by omega),hz]
 · rw[if_neg e]
   by_cases h2:v<k
   · rw[if_pos h2,if_pos (by omega)]
   · rw[if_neg h2,if_neg (by omega)]
theorem merTo_same (W:List Nat) (x y k:Nat) (hk:k<W.length) (hz:(mer W x y).getD k 0=W.getD k 0):merTo W x y k=merTo W x y (k+1):=getD_ext (by simp[merTo_len]) fun v hv=>by
 have hv':v<W.length:=by simpa[merTo_len] using hv
 rw[merTo_at _ _ _ _ _ hv',merTo_at _ _ _ _ _ hv']
 by_cases e:v=k
 · subst e;rw[if_neg (by omega),if_pos (by omega),hz]
 · by_cases h2:v<k
   · rw[if_pos h2,if_pos (by omega)]
   · rw[if_neg h2,if_neg (by omega)]
theorem mers_len (E:List (Nat×Nat)):∀ W:List Nat,(mers W E).length=W.length:=by
 induction E with
 |nil=>intro W;rfl
 |cons e E ih=>intro W;rw[mers,ih,mer_len]
end Go.Proofs.Ytgagenmkpmmpfaa
/- Fractions that may be handed in: the walks of tangle.divisor, ref.divisorOf, tangle.proper and ref.LowestIs. -/
namespace Go.Proofs.Ytgagenmkpmmpfaa
open Go.RowKit
set_option maxHeartbeats 4000000
set_option maxRecDepth 100000
def lowB (p q:Int):Bool:=decide ((p=1/\q=1)∨(p<=1000/\0<q/\q<p/\Nat.gcd p.toNat q.toNat=1))
theorem lowB_one:lowB 1 1=true:=by decide
theorem lowB_no {p q:Int} (h1:¬ (p=1/\q=1)) (h2:¬ (p<=1000/\0<q/\q<p)):lowB p q=false:=by
 unfold lowB
 rw[decide_eq_false_iff_not]
 intro h
 rcases h with h|⟨a,b,c,-⟩
 · exact h1 h
 · exact h2 ⟨a,b,c⟩
theorem lowB_gcd {p q:Int} (h1:p≠1) (h2:p<=1000) (h3:0<q) (h4:q<p):lowB p q=(Nat.gcd p.toNat q.toNat==1):=by
 unfold lowB
 by_cases h:Nat.gcd p.toNat q.toNat=1
 · rw[beq_iff_eq.2 h,decide_eq_true (Or.inr ⟨h2,h3,h4,h⟩)]
 · rw[beq_eq_false_iff_ne.2 h,decide_eq_false]
   intro hc
   rcases hc with hc|hc
   · exact h1 hc.1
   · exact h hc.2.2.2
theorem lowB_yes {p q:Int} (h:lowB p q=true):1<=p/\p<=1000/\1<=q/\q<=p/\Nat.gcd p.toNat q.toNat=1:=by
 unfold lowB at h
 have h:=of_decide_eq_true h
 rcases h with⟨rfl,rfl⟩|⟨a,b,c,d⟩
 · decide
 · exact⟨by omega,by omega,by omega,by omega,d⟩
theorem divisor_any (p q : Nat) (w : World) (hp : p ≤ 1000) (hq : q ≤ 1000) :
    Calls Try.prog 42 #[.int .i64 (p:Nat),.int .i64 (q:Nat)] w fun e w'=>e=.returned (.int .i64 (Nat.gcd p q:Nat))/\Below w.heap.size w w':=by
 have HB:Hid (Below w.heap.size w w):=Below.refl _ _
 obtain⟨g,hg⟩:∃ g,Nat.gcd p q=g:=⟨_,rfl⟩
 have HG:Hid (Nat.gcd p q=g):=hg
 rw[hg]
 clear hg
 go_enter Try.func42,Try.ntmps42
 go_wp2
 go_loopw [0,1] (fun v0 v1 wr=>∃ a b:Nat,a<=1000/\b<=1000/\v0=.int .i64 (a:Nat)/\v1=.int .i64 (b:Nat)/\Hid (Nat.gcd a b=g)/\Hid (Below w.heap.size w wr)) (fun _ v1 _=>(intOf v1).toNat)
 case atStart=>exact⟨p,q,hp,hq,rfl,rfl,HG.out,HB.out⟩
 case round=>
  clear HB HG hp hq
  rename World=>W1
  obtain⟨a,b,ha,hbb,rfl,rfl,hgc,hb⟩:=hrel
  by_cases h0:b=0
  · subst h0
    obtain rfl:a=g:=by have:=hgc.out;rwa [Nat.gcd_zero_right]at this
    go_wp2
    go_ret
    exact⟨rfl,hb.out⟩
  · have er:(a:Int).tmod (b:Int)=((a%b:Nat):Int):=rfl
    have hf0:((b:Int)==0)=false:=by simp;omega
    have hfn:(b:Int)≠0:=by omega
    have hlt:a%b<b:=Nat.mod_lt _ (by omega)
    obtain⟨r,hr⟩:∃ r,a%b=r:=⟨_,rfl⟩
    have HG2:Hid (Nat.gcd b r=g):=(by rw[<-hr,Nat.gcd_comm,<-Nat.gcd_rec,Nat.gcd_comm];exact hgc.out:Nat.gcd b r=g)
    rw[hr]at er hlt
    clear hr hgc
    have HBD:Hid (∀ n,Below w.heap.size w (W1.drewN n)):=below_drewN hb.out
    go_wp2
    go_quiet (fail)
    go_wp2
    go_roundw
    case rel=>exact⟨b,r,by omega,by omega,rfl,rfl,HG2.out,HBD.out _⟩
    case measure=>simp only[intOf];omega
theorem proper_any (p q : Int) (w : World) :
    Calls Try.prog 22 #[.int .i64 p,.int .i64 q] w fun e w'=>e=.returned (.bool (lowB p q))/\Below w.heap.size w w':=by
 have HB:Hid (Below w.heap.size w w):=Below.refl _ _
 by_cases h1:p=1/\q=1
 · obtain⟨rfl,rfl⟩:=h1
   rw[lowB_one]
   go_enter Try.func22,Try.ntmps22
   go_wp2
   go_ret
   exact⟨rfl,HB.out⟩
 · by_cases h2:p<=1000/\0<q/\q<p
   · obtain⟨h3,h4,h5⟩:=h2
     have hp1:(p==1)=false:=by simp;omega
     rw[lowB_gcd (by omega) h3 h4 h5]
     obtain⟨m,rfl⟩:∃ m:Nat,p=(m:Int):=⟨p.toNat,by omega⟩
     obtain⟨n,rfl⟩:∃ n:Nat,q=(n:Int):=⟨q.toNat,by omega⟩
     rw[Int.toNat_natCast,Int.toNat_natCast]
     have HD:Hid (∀ W,Calls Try.prog 42 #[.int .i64 (m:Nat),.int .i64 (n:Nat)] W fun e w'=>e=.returned (.int .i64 (Nat.gcd m n:Nat))/\Below W.heap.size W w'):=fun W=>divisor_any m n W (by omega) (by omega)
     generalize Nat.gcd m n=g at HD
     clear h1 HB
     go_enter Try.func22,Try.ntmps22
     go_wp2_with (go_at_call 42;refine(HD.out _).mono ?_;rintro e9 w2 ⟨rfl,hb2⟩;refine Hid.out ?_)
     refine Lib.hid ?_
     have HB2:Hid (Below w.heap.size w w2):=hb2
     clear hb2
     by_cases hg:g=1
     · subst hg
       go_wp2
       go_ret
       exact⟨by rfl,HB2.out⟩
     · have hgz:((g:Int)==1)=false:=by simp;omega
       have HX:Hid ((g==1)=false):=beq_eq_false_iff_ne.2 hg
       go_wp2
       go_ret
       exact⟨ret_bool HX.out,HB2.out⟩
   · rw[lowB_no h1 h2]
     by_cases hp:p=1
     · subst hp
       have hq1:(q==1)=false:=by simp;omega
       clear h1 h2
       by_cases h4:0<q
       · have hq2:¬ q<1:=by omega
         go_enter Try.func22,Try.ntmps22
         go_wp2
         go_ret
         exact⟨rfl,HB.out⟩
       · go_enter Try.func22,Try.ntmps22
         go_wp2
         go_ret
         exact⟨rfl,HB.out⟩
     · have hp1:(p==1)=false:=by simp;omega
       by_cases h3:p<=1000
       · by_cases h4:0<q
         · have h5:¬ q<p:=by omega
           clear h1 h2
           go_enter Try.func22,Try.ntmps22
           go_wp2
           go_ret
           exact⟨rfl,HB.out⟩
         · clear h1 h2
           go_enter Try.func22,Try.ntmps22
           go_wp2
           go_ret
           exact⟨rfl,HB.out⟩
       · clear h1 h2
         go_enter Try.func22,Try.ntmps22
         go_wp2
         go_ret
         exact⟨rfl,HB.out⟩
end Go.Proofs.Ytgagenmkpmmpfaa
/- The arc on which the other strand goes on; the walk of Drawing.Aside. -/
namespace Go.Proofs.Ytgagenmkpmmpfaa
open Go.RowKit
def sxS (C:List Cr) (a:Nat):Nat:=if toS C a≠0 then 2 else if(C.getD (toC C a) Cr.none).plus=true then 1 else 3
def sx (C:List Cr) (a:Nat):Nat:=((C.getD (toC C a) Cr.none).arc (sxS C a)).toNat
end Go.Proofs.Ytgagenmkpmmpfaa
