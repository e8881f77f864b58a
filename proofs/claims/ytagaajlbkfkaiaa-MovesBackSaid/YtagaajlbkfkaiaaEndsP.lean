/- Several texts of the proof, one behind the other. -/
import Derived.Test.YtagaajlbkfkaiaaBaseP
/- Where arcs begin and end; walks along strands; Dowker's numbers. Plain mathematics: no program is named here. -/
namespace Go.Proofs.Ytagaajlbkfkaiaa
def sideEnd (x:Cr) (i:Nat) (a:Int) (p:Bool) (z:Int×Int):Nat->Int×Int
 |0=>z
 |k+1=>if x.arc k=a/\x.comes k=p then((i:Int),(k:Int)) else sideEnd x i a p z k
def endTo (C:List Cr) (a:Int) (p:Bool):Nat->Int×Int
 |0=>(-1,0)
 |i+1=>sideEnd (C.getD i Cr.none) i a p (endTo C a p i) 4
def endAh (C:List Cr) (a:Int) (p:Bool) (i k:Nat):Int×Int:=sideEnd (C.getD i Cr.none) i a p (endTo C a p i) k
theorem endAh_next (C:List Cr) (a:Int) (p:Bool) (i k:Nat):endAh C a p i (k+1)=if(C.getD i Cr.none).arc k=a/\(C.getD i Cr.none).comes k=p then((i:Int),(k:Int)) else endAh C a p i k:=rfl
theorem sideEnd_cases (x:Cr) (i:Nat) (a:Int) (p:Bool) (z:Int×Int) (k:Nat):(sd x a p k=0/\sideEnd x i a p z k=z)∨(0<sd x a p k/\∃ j,j<k/\x.arc j=a/\x.comes j=p/\sideEnd x i a p z k=((i:Int),(j:Int))):=by
 induction k with
 |zero=>exact Or.inl ⟨rfl,rfl⟩
 |succ k ih=>
  by_cases h:x.arc k=a/\x.comes k=p
  · refine Or.inr ⟨?_,k,by omega,h.1,h.2,?_⟩
    · simp only[sd];rw[if_pos h];omega
    · simp only[sideEnd];rw[if_pos h]
  · have e1:sd x a p (k+1)=sd x a p k:=by simp only[sd];rw[if_neg h];rfl
    have e2:sideEnd x i a p z (k+1)=sideEnd x i a p z k:=by simp only[sideEnd];rw[if_neg h]
    rw[e1,e2]
    rcases ih with ih|⟨h1,j,h2,h3⟩
    · exact Or.inl ih
    · exact Or.inr ⟨h1,j,by omega,h3⟩
theorem endTo_cases (C:List Cr) (a:Int) (p:Bool) (n:Nat):(sdTo C a p n=0/\endTo C a p n=(-1,0))∨(0<sdTo C a p n/\∃ i j,i<n/\j<4/\(C.getD i Cr.none).arc j=a/\(C.getD i Cr.none).comes j=p/\endTo C a p n=((i:Int),(j:Int))):=by
 induction n with
 |zero=>exact Or.inl ⟨rfl,rfl⟩
 |succ n ih=>
  simp only[sdTo,endTo]
  rcases sideEnd_cases (C.getD n Cr.none) n a p (endTo C a p n) 4 with⟨h1,h2⟩|⟨h1,j,h2,h3,h4,h5⟩
  · rw[h1,h2]
    rcases ih with ih|⟨h1,i,j,h2,h3⟩
    · exact Or.inl ih
    · exact Or.inr ⟨h1,i,j,by omega,h3⟩
  · exact Or.inr ⟨by omega,n,j,by omega,h2,h3,h4,h5⟩
theorem endAh_cases (C:List Cr) (a:Int) (p:Bool) (i k:Nat) (hk:k<=4):(ahd C a p i k=0/\endAh C a p i k=(-1,0))∨(0<ahd C a p i k/\∃ i' j:Nat,j<4/\endAh C a p i k=((i':Int),(j:Int))):=by
 simp only[ahd,endAh]
 rcases sideEnd_cases (C.getD i Cr.none) i a p (endTo C a p i) k with⟨h1,h2⟩|⟨h1,j,h2,h3,h4,h5⟩
 · rw[h1,h2]
   rcases endTo_cases C a p i with h|⟨h1,i',j,h2,h3,h4,h5,h6⟩
   · exact Or.inl h
   · exact Or.inr ⟨h1,i',j,h3,h6⟩
 · exact Or.inr ⟨by omega,i,j,by omega,h5⟩
theorem endAh_free (C:List Cr) (a:Int) (p:Bool) (i k:Nat) (hk:k<=4):(endAh C a p i k).1 = -1↔ahd C a p i k=0:=by
 rcases endAh_cases C a p i k hk with⟨h1,h2⟩|⟨h1,i',j,h2,h3⟩
 · rw[h1,h2];simp
 · rw[h3]
   constructor
   · intro h
     have:(i':Int) = -1:=h
     omega
   · intro h;omega
def ends (C:List Cr) (p:Bool) (i k:Nat):List (Int×Int):=(List.range (2*C.length+1)).map fun a=>if a=0 then(-1,0) else endAh C (a:Nat) p i k
theorem ends_length (C:List Cr) (p:Bool) (i k:Nat):(ends C p i k).length=2*C.length+1:=by simp[ends]
theorem ends_at (C:List Cr) (p:Bool) (i k a:Nat) (h1:1<=a) (h2:a<=2*C.length):(ends C p i k).getD a (0,0)=endAh C a p i k:=by
 unfold ends
 rw[List.getD_eq_getElem?_getD,List.getElem?_map,List.getElem?_range (by omega)]
 simp
 omega
theorem ends_start (C:List Cr) (p:Bool):ends C p 0 0=List.replicate (2*C.length+1) (-1,0):=by
 apply List.ext_getElem
 · simp[ends]
 · intro j h1 h2
   simp only[ends,List.getElem_map,List.getElem_range,List.getElem_replicate]
   split<;>rfl
theorem ends_keep (C:List Cr) (p:Bool) (i k:Nat) (h:(C.getD i Cr.none).comes k≠p):ends C p i (k+1)=ends C p i k:=by
 unfold ends
 apply List.map_congr_left
 intro a _
 have e:endAh C (a:Nat) p i (k+1)=endAh C (a:Nat) p i k:=by rw[endAh_next,if_neg (fun e=>h e.2)]
 simp only[e]
theorem ends_set (C:List Cr) (p:Bool) (i k a:Nat) (h1:1<=a) (hc:(C.getD i Cr.none).comes k=p) (ha:(C.getD i Cr.none).arc k=(a:Int)):(ends C p i k).set a ((i:Int),(k:Int))=ends C p i (k+1):=by
 apply List.ext_getElem
 · simp[ends]
 · intro j h2 h3
   rw[List.getElem_set]
   simp only[ends,List.getElem_map,List.getElem_range]
   by_cases e:a=j
   · subst e
     rw[if_pos rfl,if_neg (by omega),endAh_next,if_pos ⟨ha,hc⟩]
   · have e2:endAh C (j:Nat) p i (k+1)=endAh C (j:Nat) p i k:=by rw[endAh_next,if_neg (fun h=>e (by have:=h.1;rw[ha]at this;omega))]
     rw[if_neg e,e2]
theorem end_may {C:List Cr} {loops:Int} (hm:mayD C loops=true) (a:Nat) (h1:1<=a) (h2:a<=2*C.length) (p:Bool):∃ i k:Nat,i<C.length/\k<4/\(C.getD i Cr.none).arc k=(a:Int)/\(C.getD i Cr.none).comes k=p/\endTo C a p C.length=((i:Int),(k:Int)):=by
 have ho:=once_sd (may_once hm a h1 h2) p
 rcases endTo_cases C a p C.length with⟨h,_⟩|⟨_,i,j,h3,h4,h5,h6,h7⟩
 · omega
 · exact⟨i,j,h3,h4,h5,h6,h7⟩
theorem sd_at (x:Cr) (a:Int) (p:Bool) (k n:Nat) (hk:k<n) (h:x.arc k=a/\x.comes k=p):0<sd x a p n:=by
 have:=sd_mono x a p (k+1) n (by omega)
 simp only[sd]at this
 rw[if_pos h]at this
 omega
theorem sd_two (x:Cr) (a:Int) (p:Bool) (j k n:Nat) (hj:j<k) (hk:k<n) (h:x.arc j=a/\x.comes j=p) (h2:x.arc k=a/\x.comes k=p):2<=sd x a p n:=by
 have h3:=sd_at x a p j k hj h
 have:=sd_mono x a p (k+1) n (by omega)
 simp only[sd]at this
 rw[if_pos h2]at this
 omega
theorem end_one {C:List Cr} {loops:Int} (hm:mayD C loops=true) (a:Nat) (h1:1<=a) (h2:a<=2*C.length) (p:Bool) (i k:Nat) (hi:i<C.length) (hk:k<4) (ha:(C.getD i Cr.none).arc k=(a:Int)) (hc:(C.getD i Cr.none).comes k=p):endTo C a p C.length=((i:Int),(k:Int)):=by
 have ho:=once_sd (may_once hm a h1 h2) p
 obtain⟨i',k',h3,h4,h5,h6,h7⟩:=end_may hm a h1 h2 p
 rw[h7]
 have row:∀ u v s t:Nat,u<v->v<C.length->s<4->t<4->(C.getD u Cr.none).arc s=(a:Int)->(C.getD u Cr.none).comes s=p->(C.getD v Cr.none).arc t=(a:Int)->(C.getD v Cr.none).comes t=p->False:=by
  intro u v s t huv hv hs ht e1 e2 e3 e4
  have g1:=sd_at (C.getD u Cr.none) a p s 4 hs ⟨e1,e2⟩
  have g2:=sd_at (C.getD v Cr.none) a p t 4 ht ⟨e3,e4⟩
  have g3:=sdTo_mono C a p (u+1) v (by omega)
  have g4:=sdTo_mono C a p (v+1) C.length (by omega)
  simp only[sdTo]at g3 g4
  omega
 have col:∀ u s t:Nat,s<t->u<C.length->t<4->(C.getD u Cr.none).arc s=(a:Int)->(C.getD u Cr.none).comes s=p->(C.getD u Cr.none).arc t=(a:Int)->(C.getD u Cr.none).comes t=p->False:=by
  intro u s t hst hu ht e1 e2 e3 e4
  have g2:=sd_two (C.getD u Cr.none) a p s t 4 hst ht ⟨e1,e2⟩ ⟨e3,e4⟩
  have g4:=sdTo_mono C a p (u+1) C.length (by omega)
  simp only[sdTo]at g4
  omega
 rcases Nat.lt_trichotomy i i' with h|h|h
 · exact(row i i' k k' h h3 hk h4 ha hc h5 h6).elim
 · subst h
   rcases Nat.lt_trichotomy k k' with h|h|h
   · exact(col i k k' h hi h4 ha hc h5 h6).elim
   · subst h;rfl
   · exact(col i k' k h hi hk h5 h6 ha hc).elim
 · exact(row i' i k' k h hi h4 hk h5 h6 ha hc).elim
theorem may_fit {C:List Cr} {loops:Int} (hm:mayD C loops=true) (i k:Nat) (hi:i<C.length) (hk:k<4):fit C i k:=by
 refine Classical.byContradiction fun h=>?_
 rw[unfit_no hi hk h]at hm
 cases hm
def toC (C:List Cr) (a:Nat):Nat:=(endTo C a true C.length).1.toNat
def toS (C:List Cr) (a:Nat):Nat:=(endTo C a true C.length).2.toNat
def nx (C:List Cr) (a:Nat):Nat:=((C.getD (toC C a) Cr.none).arc ((toS C a+2)%4)).toNat
theorem to_may {C:List Cr} {loops:Int} (hm:mayD C loops=true) (a:Nat) (h1:1<=a) (h2:a<=2*C.length):endTo C a true C.length=((toC C a:Int),(toS C a:Int))/\toC C a<C.length/\toS C a<4/\(C.getD (toC C a) Cr.none).arc (toS C a)=(a:Int)/\(C.getD (toC C a) Cr.none).comes (toS C a)=true:=by
 obtain⟨i,k,h3,h4,h5,h6,h7⟩:=end_may hm a h1 h2 true
 have e1:toC C a=i:=by unfold toC;rw[h7];simp
 have e2:toS C a=k:=by unfold toS;rw[h7];simp
 rw[e1,e2]
 exact⟨h7,h3,h4,h5,h6⟩
theorem nx_may {C:List Cr} {loops:Int} (hm:mayD C loops=true) (a:Nat) (h1:1<=a) (h2:a<=2*C.length):(C.getD (toC C a) Cr.none).arc ((toS C a+2)%4)=(nx C a:Int)/\1<=nx C a/\nx C a<=2*C.length:=by
 obtain⟨h3,h4,h5,h6,h7⟩:=to_may hm a h1 h2
 have hf:=may_fit hm (toC C a) ((toS C a+2)%4) h4 (by omega)
 have g1:=hf.1
 have g2:=hf.2.1
 unfold nx
 omega
def walkF (f:Nat->Nat):Nat->List Bool->Nat->List Nat->List Nat×List Bool
 |0,seen,_,acc=>(acc,seen)
 |m+1,seen,x,acc=>if seen.getD x true=true then(acc,seen) else walkF f m (seen.set x true) (f x) (acc++[x])
def unseen (l:List Bool):Nat:=l.countP (fun b=>!b)
theorem unseen_set {l:List Bool} {x:Nat} (h:l.getD x true=false):unseen (l.set x true)+1=unseen l:=by
 induction l generalizing x with
 |nil=>simp at h
 |cons b l ih=>
  cases x with
  |zero=>
   have:b=false:=by simpa using h
   subst this
   simp[unseen]
  |succ x=>
   have:=ih (x:=x) (by simpa using h)
   simp only[unseen,List.set_cons_succ,List.countP_cons]at this ⊢
   omega
theorem unseen_pos {l:List Bool} {x:Nat} (h:l.getD x true=false):0<unseen l:=by have:=unseen_set h;omega
theorem walkF_seen {f:Nat->Nat} {m:Nat} {seen:List Bool} {x:Nat} {acc:List Nat} (h:seen.getD x true=true):walkF f m seen x acc=(acc,seen):=by
 cases m with
 |zero=>rfl
 |succ m=>simp only[walkF];rw[if_pos h]
theorem walkF_more {f:Nat->Nat} {m:Nat} {seen:List Bool} {x:Nat} {acc:List Nat} (h:seen.getD x true=false) (hm:unseen seen<=m):walkF f m seen x acc=walkF f (m-1) (seen.set x true) (f x) (acc++[x])/\unseen (seen.set x true)<=m-1:=by
 have h2:=unseen_set h
 cases m with
 |zero=>omega
 |succ m=>
  simp only[walkF]
  rw[if_neg (by rw[h];decide)]
  exact⟨rfl,by omega⟩
def walksTo (f:Nat->Nat) (n:Nat):Nat->List (List Nat)×List Bool
 |0=>([],List.replicate (n+1) false)
 |a+1=>let r:=walksTo f n a;let s:=walkF f (n+1) r.2 (a+1) [];(if s.1=[] then r.1 else r.1++[s.1],s.2)
def walksM (C:List Cr):List (List Nat):=(walksTo (nx C) (2*C.length) (2*C.length)).1
theorem walkF_len (f:Nat->Nat) (m:Nat) (seen:List Bool) (x:Nat) (acc:List Nat):(walkF f m seen x acc).2.length=seen.length:=by
 induction m generalizing seen x acc with
 |zero=>rfl
 |succ m ih=>
  simp only[walkF]
  split
  · rfl
  · rw[ih];simp
theorem unseen_le (l:List Bool):unseen l<=l.length:=List.countP_le_length
theorem walksTo_len (f:Nat->Nat) (n a:Nat):(walksTo f n a).2.length=n+1:=by
 induction a with
 |zero=>simp[walksTo]
 |succ a ih=>simp only[walksTo];rw[walkF_len,ih]
theorem walkF_mem {f:Nat->Nat} {n:Nat} (hf:∀ a,1<=a->a<=n->1<=f a/\f a<=n) (m:Nat) (seen:List Bool) (x:Nat) (acc:List Nat) (h1:1<=x) (h2:x<=n) (ha:∀ y,y∈acc->1<=y/\y<=n):∀ y,y∈(walkF f m seen x acc).1->1<=y/\y<=n:=by
 induction m generalizing seen x acc with
 |zero=>exact ha
 |succ m ih=>
  simp only[walkF]
  split
  · exact ha
  · refine ih _ _ _ (hf x h1 h2).1 (hf x h1 h2).2 fun y hy=>?_
    rcases List.mem_append.1 hy with hy|hy
    · exact ha y hy
    · rw[List.mem_singleton.1 hy];exact⟨h1,h2⟩
theorem walkF_size (f:Nat->Nat) (m:Nat) (seen:List Bool) (x:Nat) (acc:List Nat):(walkF f m seen x acc).1.length+unseen (walkF f m seen x acc).2=acc.length+unseen seen:=by
 induction m generalizing seen x acc with
 |zero=>rfl
 |succ m ih=>
  simp only[walkF]
  split
  · rfl
  · next h=>
    have h':seen.getD x true=false:=by cases hb:seen.getD x true with
     |true=>exact absurd hb h
     |false=>rfl
    have:=unseen_set h'
    rw[ih]
    simp only[List.length_append,List.length_cons,List.length_nil]
    omega
theorem walksTo_mem {f:Nat->Nat} {n:Nat} (hf:∀ a,1<=a->a<=n->1<=f a/\f a<=n) (a:Nat) (ha:a<=n):∀ l,l∈(walksTo f n a).1->l≠[]/\l.length<=n+1/\∀ y,y∈l->1<=y/\y<=n:=by
 induction a with
 |zero=>intro l hl;simp[walksTo]at hl
 |succ a ih=>
  intro l hl
  simp only[walksTo]at hl
  split at hl
  · exact ih (by omega) l hl
  · next he=>
    rcases List.mem_append.1 hl with hl|hl
    · exact ih (by omega) l hl
    · rw[List.mem_singleton.1 hl]
      refine⟨he,?_,walkF_mem hf _ _ _ _ (by omega) ha fun y hy=>by cases hy⟩
      have h1:=walkF_size f (n+1) (walksTo f n a).2 (a+1) []
      have h2:=unseen_le (walksTo f n a).2
      rw[walksTo_len]at h2
      simp only[List.length_nil]at h1
      omega
theorem walksTo_count (f:Nat->Nat) (n a:Nat):(walksTo f n a).1.length<=a:=by
 induction a with
 |zero=>exact Nat.le_refl _
 |succ a ih=>
  simp only[walksTo]
  split
  · omega
  · simp only[List.length_append,List.length_cons,List.length_nil];omega
theorem nx_closed {C:List Cr} {loops:Int} (hm:mayD C loops=true):∀ a,1<=a->a<=2*C.length->1<=nx C a/\nx C a<=2*C.length:=fun a h1 h2=>(nx_may hm a h1 h2).2
def cp (x:Nat->Nat) (c r:Nat):Nat->Nat
 |0=>0
 |m+1=>cp x c r m+(if x m=c/\m%2=r then 1 else 0)
def un (l:List Bool) (y:Nat):Nat:=if l.getD y true=true then 0 else 1
theorem un_set_same {l:List Bool} {x:Nat}:un (l.set x true) x=0:=by
 unfold un
 rw[if_pos]
 rw[List.getD_eq_getElem?_getD]
 by_cases h:x<l.length
 · simp[h]
 · rw[List.getElem?_eq_none (by simp;omega)];rfl
theorem un_set_other {l:List Bool} {x y:Nat} (h:x≠y):un (l.set x true) y=un l y:=by
 unfold un
 rw[List.getD_eq_getElem?_getD,List.getD_eq_getElem?_getD,List.getElem?_set_ne h]
theorem walkF_count (f:Nat->Nat) (m:Nat) (seen:List Bool) (x:Nat) (acc:List Nat) (y:Nat):(walkF f m seen x acc).1.count y+un (walkF f m seen x acc).2 y=acc.count y+un seen y:=by
 induction m generalizing seen x acc with
 |zero=>rfl
 |succ m ih=>
  simp only[walkF]
  split
  · rfl
  · next h=>
    rw[ih,List.count_append]
    by_cases e:x=y
    · subst e
      have e1:un seen x=1:=by unfold un;rw[if_neg h]
      rw[un_set_same,e1]
      simp
    · rw[un_set_other e,List.count_cons_of_ne e]
      simp
theorem walkF_keep (f:Nat->Nat) (m:Nat) (seen:List Bool) (x:Nat) (acc:List Nat) (y:Nat) (h:un seen y=0):un (walkF f m seen x acc).2 y=0:=by
 induction m generalizing seen x acc with
 |zero=>exact h
 |succ m ih=>
  simp only[walkF]
  split
  · exact h
  · apply ih
    by_cases e:x=y
    · subst e;exact un_set_same
    · rw[un_set_other e];exact h
theorem walkF_first (f:Nat->Nat) (m:Nat) (seen:List Bool) (x:Nat) (acc:List Nat):un (walkF f (m+1) seen x acc).2 x=0:=by
 simp only[walkF]
 split
 · next h=>unfold un;rw[if_pos h]
 · exact walkF_keep f m _ _ _ x un_set_same
theorem walksTo_seen (f:Nat->Nat) (n a:Nat):∀ y,1<=y->y<=a->un (walksTo f n a).2 y=0:=by
 induction a with
 |zero=>intro y h1 h2;omega
 |succ a ih=>
  intro y h1 h2
  simp only[walksTo]
  by_cases e:y=a+1
  · subst e;exact walkF_first f n _ _ _
  · exact walkF_keep f (n+1) _ _ _ y (ih y h1 (by omega))
theorem walksTo_one (f:Nat->Nat) (n a y:Nat) (_h1:1<=y) (h2:y<=n):(walksTo f n a).1.flatten.count y+un (walksTo f n a).2 y=1:=by
 induction a with
 |zero=>
  have e:un (walksTo f n 0).2 y=1:=by
   have e2:(walksTo f n 0).2.getD y true=false:=by
    show(List.replicate (n+1) false).getD y true=false
    rw[List.getD_eq_getElem?_getD,List.getElem?_replicate,if_pos (by omega)]
    rfl
   unfold un
   rw[e2]
   rfl
  rw[e]
  rfl
 |succ a ih=>
  have hc:=walkF_count f (n+1) (walksTo f n a).2 (a+1) [] y
  simp only[walksTo]
  split
  · next he=>
    rw[he]at hc
    simp at hc
    omega
  · rw[List.flatten_append,List.count_append]
    simp at hc ⊢
    omega
theorem walks_once (f:Nat->Nat) (n y:Nat) (h1:1<=y) (h2:y<=n):(walksTo f n n).1.flatten.count y=1:=by
 have e1:=walksTo_one f n n y h1 h2
 have e2:=walksTo_seen f n n y h1 h2
 omega
end Go.Proofs.Ytagaajlbkfkaiaa
/- Plain mathematics: what edges join; labels that are levelled along edges, round by round, come to the least of what is joined. -/
namespace Go.Proofs.Ytagaajlbkfkaiaa
def Closed (E:List (Nat×Nat)) (S:Nat->Prop):Prop:=∀ e,e∈E->(S e.1↔S e.2)
def Con (E:List (Nat×Nat)) (x y:Nat):Prop:=∀ S,Closed E S->S x->S y
theorem Con.refl (E:List (Nat×Nat)) (x:Nat):Con E x x:=fun _ _ h=>h
theorem Con.trans {E:List (Nat×Nat)} {x y z:Nat} (h:Con E x y) (g:Con E y z):Con E x z:=fun S hS hx=>g S hS (h S hS hx)
theorem Con.symm {E:List (Nat×Nat)} {x y:Nat} (h:Con E x y):Con E y x:=fun S hS hy=>
 Classical.byContradiction fun hx=>h (fun z=>¬ S z) (fun e he=>not_congr (hS e he)) hx hy
theorem Con.edge {E:List (Nat×Nat)} {x y:Nat} (h:(x,y)∈E):Con E x y:=fun _ hS hx=>(hS (x,y) h).1 hx
theorem con_min (E:List (Nat×Nat)) (v:Nat):∃ m,Con E v m/\∀ u,Con E v u->m<=u:=by
 have key:∀ k x,x<=k->Con E v x->∃ m,Con E v m/\∀ u,Con E v u->m<=u:=by
  intro k
  induction k with
  |zero=>intro x hx h;exact⟨x,h,fun u _=>by omega⟩
  |succ k ih=>
   intro x hx h
   by_cases hs:∃ y,y<x/\Con E v y
   · obtain⟨y,hy,hc⟩:=hs
     exact ih y (by omega) hc
   · exact⟨x,h,fun u hu=>Nat.le_of_not_lt fun hlt=>hs ⟨u,hlt,hu⟩⟩
 exact key v v (Nat.le_refl _) (Con.refl E v)
def lev (W:List Nat) (x y:Nat):List Nat:=if W.getD x 0<W.getD y 0 then W.set y (W.getD x 0) else W.set x (W.getD y 0)
theorem lev_len (W:List Nat) (x y:Nat):(lev W x y).length=W.length:=by unfold lev;split<;>simp
theorem getD_set (W:List Nat) (i v z:Nat) (hi:i<W.length):(W.set i z).getD v 0=if v=i then z else W.getD v 0:=by
 simp only[List.getD_eq_getElem?_getD,List.getElem?_set]
 by_cases h:i=v
 · subst h;simp[hi]
 · simp[h,Ne.symm h]
structure Lab (E:List (Nat×Nat)) (n:Nat) (W:List Nat):Prop where
 len:W.length=n
 le:∀ v,v<n->W.getD v 0<=v
 con:∀ v,v<n->Con E v (W.getD v 0)
theorem lev_at {W:List Nat} {x y v:Nat} (hx:x<W.length) (hy:y<W.length):(lev W x y).getD v 0<=W.getD v 0/\((lev W x y).getD v 0=W.getD v 0∨(v=x/\(lev W x y).getD v 0=W.getD y 0)∨(v=y/\(lev W x y).getD v 0=W.getD x 0)):=by
 unfold lev
 split
 · rw[getD_set _ _ _ _ hy]
   split
   · subst v;exact⟨by omega,Or.inr (Or.inr ⟨rfl,rfl⟩)⟩
   · exact⟨Nat.le_refl _,Or.inl rfl⟩
 · rw[getD_set _ _ _ _ hx]
   split
   · subst v;exact⟨by omega,Or.inr (Or.inl ⟨rfl,rfl⟩)⟩
   · exact⟨Nat.le_refl _,Or.inl rfl⟩
theorem lev_both {W:List Nat} {x y:Nat} (hx:x<W.length) (hy:y<W.length):(lev W x y).getD x 0<=W.getD y 0/\(lev W x y).getD y 0<=W.getD x 0:=by
 unfold lev
 split
 · rename_i h
   rw[getD_set _ _ _ _ hy,getD_set _ _ _ _ hy,if_pos rfl]
   refine⟨?_,Nat.le_refl _⟩
   split<;>omega
 · rename_i h
   rw[getD_set _ _ _ _ hx,getD_set _ _ _ _ hx,if_pos rfl]
   refine⟨Nat.le_refl _,?_⟩
   split<;>omega
theorem Lab.lev {E:List (Nat×Nat)} {n:Nat} {W:List Nat} (h:Lab E n W) {x y:Nat} (hx:x<n) (hy:y<n) (he:Con E x y):Lab E n (lev W x y):=by
 have hl:=h.len
 refine⟨by rw[lev_len,hl],fun v hv=>?_,fun v hv=>?_⟩
 · have:=(lev_at (W:=W) (x:=x) (y:=y) (v:=v) (by omega) (by omega)).1
   have:=h.le v hv
   omega
 · rcases(lev_at (W:=W) (x:=x) (y:=y) (v:=v) (by omega) (by omega)).2 with e|⟨hvx,e⟩|⟨hvy,e⟩
   · rw[e];exact h.con v hv
   · rw[e,hvx];exact he.trans (h.con y hy)
   · rw[e,hvy];exact he.symm.trans (h.con x hx)
def levs (W:List Nat):List (Nat×Nat)->List Nat
 |[]=>W
 |e::E=>levs (lev W e.1 e.2) E
def Done (E:List (Nat×Nat)) (W:List Nat) (v:Nat):Prop:=∀ u,Con E v u->W.getD v 0<=u
theorem levs_lab {E:List (Nat×Nat)} {n:Nat} (F:List (Nat×Nat)) (hF:∀ e,e∈F->e.1<n/\e.2<n/\Con E e.1 e.2):∀ W,Lab E n W->Lab E n (levs W F)/\∀ v,(levs W F).getD v 0<=W.getD v 0:=by
 induction F with
 |nil=>intro W h;exact⟨h,fun v=>Nat.le_refl _⟩
 |cons e F ih=>
  intro W h
  obtain⟨h1,h2,h3⟩:=hF e (List.Mem.head _)
  have hl:=h.len
  have h':=h.lev h1 h2 h3
  obtain⟨g1,g2⟩:=ih (fun e' he'=>hF e' (List.Mem.tail _ he')) _ h'
  exact⟨g1,fun v=>Nat.le_trans (g2 v) (lev_at (by omega) (by omega)).1⟩
theorem levs_done {E:List (Nat×Nat)} {n:Nat} (F:List (Nat×Nat)) (hF:∀ e,e∈F->e.1<n/\e.2<n/\Con E e.1 e.2) (e:Nat×Nat) (he:e∈F):∀ W,Lab E n W->(Done E W e.1∨Done E W e.2)->Done E (levs W F) e.1/\Done E (levs W F) e.2:=by
 induction F with
 |nil=>cases he
 |cons f F ih=>
  intro W h hd
  obtain⟨h1,h2,h3⟩:=hF f (List.Mem.head _)
  have hl:=h.len
  have h':=h.lev h1 h2 h3
  have hF':∀ e,e∈F->e.1<n/\e.2<n/\Con E e.1 e.2:=fun e' he'=>hF e' (List.Mem.tail _ he')
  rcases List.mem_cons.1 he with rfl|he'
  · have g:∀ v,(levs W (e::F)).getD v 0<=(lev W e.1 e.2).getD v 0:=(levs_lab F hF' _ h').2
    have hb:=lev_both (W:=W) (x:=e.1) (y:=e.2) (by omega) (by omega)
    have ha1:=(lev_at (W:=W) (x:=e.1) (y:=e.2) (v:=e.1) (by omega) (by omega)).1
    have ha2:=(lev_at (W:=W) (x:=e.1) (y:=e.2) (v:=e.2) (by omega) (by omega)).1
    rcases hd with hd|hd
    · exact⟨fun u hu=>by have:=hd u hu;have:=g e.1;omega,fun u hu=>by have:=hd u (h3.trans hu);have:=g e.2;omega⟩
    · exact⟨fun u hu=>by have:=hd u (h3.symm.trans hu);have:=g e.1;omega,fun u hu=>by have:=hd u hu;have:=g e.2;omega⟩
  · refine ih hF' he' _ h' ?_
    rcases hd with hd|hd
    · exact Or.inl fun u hu=>Nat.le_trans (lev_at (by omega) (by omega)).1 (hd u hu)
    · exact Or.inr fun u hu=>Nat.le_trans (lev_at (by omega) (by omega)).1 (hd u hu)
def levR (W:List Nat) (E:List (Nat×Nat)):Nat->List Nat
 |0=>W
 |r+1=>levs (levR W E r) E
theorem levR_lab {E:List (Nat×Nat)} {n:Nat} (hE:∀ e,e∈E->e.1<n/\e.2<n) {W:List Nat} (h:Lab E n W) (r:Nat):Lab E n (levR W E r):=by
 induction r with
 |zero=>exact h
 |succ r ih=>exact(levs_lab E (fun e he=>⟨(hE e he).1,(hE e he).2,Con.edge he⟩) _ ih).1
theorem countP_more {p q:Nat->Bool} (l:List Nat) (h:∀ x,p x=true->q x=true) (y:Nat) (hy:y∈l) (h1:p y=false) (h2:q y=true):l.countP p<l.countP q:=by
 induction l with
 |nil=>cases hy
 |cons x l ih=>
  have hm:l.countP p<=l.countP q:=List.countP_mono_left (fun a _=>h a)
  rcases List.mem_cons.1 hy with rfl|hy'
  · simp[h1,h2];omega
  · have:=ih hy'
    simp only[List.countP_cons]
    have:(if p x=true then 1 else 0)<=(if q x=true then 1 else(0:Nat)):=by
     by_cases hp:p x=true
     · simp[hp,h x hp]
     · simp[hp]
    omega
open Classical in
theorem levR_done {E:List (Nat×Nat)} {n:Nat} (hE:∀ e,e∈E->e.1<n/\e.2<n) {W:List Nat} (h:Lab E n W) (r:Nat):(∀ v,v<n->Done E (levR W E r) v)∨r<=(List.range n).countP (fun v=>decide (Done E (levR W E r) v)):=by
 induction r with
 |zero=>exact Or.inr (Nat.zero_le _)
 |succ r ih=>
  have hF:∀ e,e∈E->e.1<n/\e.2<n/\Con E e.1 e.2:=fun e he=>⟨(hE e he).1,(hE e he).2,Con.edge he⟩
  have hl:=levR_lab hE h r
  have hg:=(levs_lab E hF _ hl).2
  have hmono:∀ v,Done E (levR W E r) v->Done E (levR W E (r+1)) v:=fun v hd u hu=>Nat.le_trans (hg v) (hd u hu)
  by_cases hall:∀ v,v<n->Done E (levR W E r) v
  · exact Or.inl fun v hv=>hmono v (hall v hv)
  · right
    have hr:r<=(List.range n).countP (fun v=>decide (Done E (levR W E r) v)):=by
     rcases ih with h1|h1
     · exact absurd h1 hall
     · exact h1
    obtain⟨v,hv⟩:=Classical.not_forall.1 hall
    have hvn:v<n:=Classical.byContradiction fun hc=>hv fun hh=>absurd hh hc
    have hvd:¬ Done E (levR W E r) v:=fun hd=>hv fun _=>hd
    obtain⟨m,hm1,hm2⟩:=con_min E v
    have hmn:m<n:=Nat.lt_of_le_of_lt (hm2 v (Con.refl E v)) hvn
    have hmd:Done E (levR W E r) m:=fun u hu=>Nat.le_trans (hl.le m hmn) (hm2 u (hm1.trans hu))
    -- a done and an undone end of an edge
    have hex:∃ e,e∈E/\((Done E (levR W E r) e.1/\¬ Done E (levR W E r) e.2)∨(¬ Done E (levR W E r) e.1/\Done E (levR W E r) e.2)):=Classical.byContradiction fun hno=>by
     have hcl:Closed E (fun z=>Done E (levR W E r) z):=fun e he=>by
      constructor
      · intro h1
        exact Classical.byContradiction fun h2=>hno ⟨e,he,Or.inl ⟨h1,h2⟩⟩
      · intro h1
        exact Classical.byContradiction fun h2=>hno ⟨e,he,Or.inr ⟨h2,h1⟩⟩
     exact hvd (hm1.symm _ hcl hmd)
    obtain⟨e,he,hone⟩:=hex
    have hb:=levs_done E hF e he _ hl (hone.elim (fun a=>Or.inl a.1) (fun a=>Or.inr a.2))
    refine Nat.lt_of_le_of_lt hr ?_
    rcases hone with⟨_,h2⟩|⟨h1,_⟩
    · exact countP_more _ (fun x hx=>by simp only[decide_eq_true_eq]at hx ⊢;exact hmono x hx) e.2 (List.mem_range.2 (hE e he).2) (by simp[h2]) (by simp;exact hb.2)
    · exact countP_more _ (fun x hx=>by simp only[decide_eq_true_eq]at hx ⊢;exact hmono x hx) e.1 (List.mem_range.2 (hE e he).1) (by simp[h1]) (by simp;exact hb.1)
def Least (E:List (Nat×Nat)) (n:Nat) (W:List Nat):Prop:=W.length=n/\∀ v,v<n->Con E v (W.getD v 0)/\∀ u,Con E v u->W.getD v 0<=u
theorem Least.eq {E:List (Nat×Nat)} {n:Nat} {W V:List Nat} (h:Least E n W) (g:Least E n V):W=V:=by
 refine List.ext_getElem (by rw[h.1,g.1]) fun i h1 h2=>?_
 have hi:i<n:=by rw[<-h.1];exact h1
 have a:=h.2 i hi
 have b:=g.2 i hi
 have e:W.getD i 0=V.getD i 0:=Nat.le_antisymm (a.2 _ b.1) (b.2 _ a.1)
 simpa[List.getD_eq_getElem?_getD,h1,h2] using e
theorem Least.lt {E:List (Nat×Nat)} {n:Nat} {W:List Nat} (h:Least E n W) {v:Nat} (hv:v<n):W.getD v 0<n:=Nat.lt_of_le_of_lt ((h.2 v hv).2 v (Con.refl E v)) hv
theorem Least.same {E:List (Nat×Nat)} {n:Nat} {W:List Nat} (h:Least E n W) {u v:Nat} (hu:u<n) (hv:v<n):W.getD u 0=W.getD v 0↔Con E u v:=by
 constructor
 · intro e
   have a:=(h.2 u hu).1
   rw[e]at a
   exact a.trans (h.2 v hv).1.symm
 · intro c
   exact Nat.le_antisymm ((h.2 u hu).2 _ (c.trans (h.2 v hv).1)) ((h.2 v hv).2 _ (c.symm.trans (h.2 u hu).1))
theorem levR_least {E:List (Nat×Nat)} {n:Nat} (hE:∀ e,e∈E->e.1<n/\e.2<n) (r:Nat) (hr:n<=r):Least E n (levR (List.range n) E r):=by
 have h0:Lab E n (List.range n):=⟨by simp,fun v hv=>by simp[List.getD_eq_getElem?_getD,hv],fun v hv=>by simp[List.getD_eq_getElem?_getD,hv,Con.refl]⟩
 have hl:=levR_lab hE h0 r
 have hall:∀ v,v<n->Done E (levR (List.range n) E r) v:=by
  rcases levR_done hE h0 r with h|h
  · exact h
  · intro v hv
    have hc:(List.range n).countP (fun v=>@decide (Done E (levR (List.range n) E r) v) (Classical.propDecidable _))=(List.range n).length:=Nat.le_antisymm List.countP_le_length (by simp;omega)
    have:=List.countP_eq_length.1 hc v (List.mem_range.2 hv)
    simpa using this
 exact⟨hl.len,fun v hv=>⟨hl.con v hv,hall v hv⟩⟩
end Go.Proofs.Ytagaajlbkfkaiaa
