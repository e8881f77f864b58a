/- Several texts of the proof, one behind the other. -/
import Derived.Test.YtefooihnoajnlaaH5P
/- Plain mathematics: what edges join; labels that are levelled along edges, round by round, come to the least of what is joined. -/
namespace Go.Proofs.Ytefooihnoajnlaa
def Closed (E:List (Nat×Nat)) (S:Nat->Prop):Prop:=∀ e,e∈E->(S e.1↔S e.2)
def Con (E:List (Nat×Nat)) (x y:Nat):Prop:=∀ S,Closed E S->S x->S y
theorem Con.refl (E:List (Nat×Nat)) (x:Nat):Con E x x:=fun _ _ h=>h
theorem Con.trans {E:List (Nat×Nat)} {x y z:Nat} (h:Con E x y) (g:Con E y z):Con E x z:=fun S hS hx=>g S hS (h S hS hx)
theorem Con.symm {E:List (Nat×Nat)} {x y:Nat} (h:Con E x y):Con E y x:=fun S hS hy=>
 Classical.byContradiction fun hx=>h (fun z=>¬ S z) (fun e he=>not_congr (hS e he)) hx hy
theorem Con.edge {E:List (Nat×Nat)} {x y:Nat} (h:(x,y)∈E):Con E x y:=fun _ hS hx=>(hS (x,y) h).1 hx
theorem con_min (E:List (Nat×Nat)) (v:Nat):∃ m,Con E v m/\∀ u,Con E v u->m<=u:=by
 have key:∀ k x,x<=k->Con E v x->∃ m,Con E v m/\∀ u,Con E v u->m<=u:=by
  intro k
  induction k with
  |zero=>intro x hx h;exact⟨x,h,fun u _=>by omega⟩
  |succ k ih=>
   intro x hx h
   by_cases hs:∃ y,y<x/\Con E v y
   · obtain⟨y,hy,hc⟩:=hs
     exact ih y (by omega) hc
   · exact⟨x,h,fun u hu=>Nat.le_of_not_lt fun hlt=>hs ⟨u,hlt,hu⟩⟩
 exact key v v (Nat.le_refl _) (Con.refl E v)
def lev (W:List Nat) (x y:Nat):List Nat:=if W.getD x 0<W.getD y 0 then W.set y (W.getD x 0) else W.set x (W.getD y 0)
theorem lev_len (W:List Nat) (x y:Nat):(lev W x y).length=W.length:=by unfold lev;split<;>simp
theorem getD_set (W:List Nat) (i v z:Nat) (hi:i<W.length):(W.set i z).getD v 0=if v=i then z else W.getD v 0:=by
 simp only[List.getD_eq_getElem?_getD,List.getElem?_set]
 by_cases h:i=v
 · subst h;simp[hi]
 · simp[h,Ne.symm h]
structure Lab (E:List (Nat×Nat)) (n:Nat) (W:List Nat):Prop where
 len:W.length=n
 le:∀ v,v<n->W.getD v 0<=v
 con:∀ v,v<n->Con E v (W.getD v 0)
theorem lev_at {W:List Nat} {x y v:Nat} (hx:x<W.length) (hy:y<W.length):(lev W x y).getD v 0<=W.getD v 0/\((lev W x y).getD v 0=W.getD v 0∨(v=x/\(lev W x y).getD v 0=W.getD y 0)∨(v=y/\(lev W x y).getD v 0=W.getD x 0)):=by
 unfold lev
 split
 · rw[getD_set _ _ _ _ hy]
   split
   · subst v;exact⟨by omega,Or.inr (Or.inr ⟨rfl,rfl⟩)⟩
   · exact⟨Nat.le_refl _,Or.inl rfl⟩
 · rw[getD_set _ _ _ _ hx]
   split
   · subst v;exact⟨by omega,Or.inr (Or.inl ⟨rfl,rfl⟩)⟩
   · exact⟨Nat.le_refl _,Or.inl rfl⟩
theorem lev_both {W:List Nat} {x y:Nat} (hx:x<W.length) (hy:y<W.length):(lev W x y).getD x 0<=W.getD y 0/\(lev W x y).getD y 0<=W.getD x 0:=by
 unfold lev
 split
 · rename_i h
   rw[getD_set _ _ _ _ hy,getD_set _ _ _ _ hy,if_pos rfl]
   refine⟨?_,Nat.le_refl _⟩
   split<;>omega
 · rename_i h
   rw[getD_set _ _ _ _ hx,getD_set _ _ _ _ hx,if_pos rfl]
   refine⟨Nat.le_refl _,?_⟩
   split<;>omega
theorem Lab.lev {E:List (Nat×Nat)} {n:Nat} {W:List Nat} (h:Lab E n W) {x y:Nat} (hx:x<n) (hy:y<n) (he:Con E x y):Lab E n (lev W x y):=by
 have hl:=h.len
 refine⟨by rw[lev_len,hl],fun v hv=>?_,fun v hv=>?_⟩
 · have:=(lev_at (W:=W) (x:=x) (y:=y) (v:=v) (by omega) (by omega)).1
   have:=h.le v hv
   omega
 · rcases(lev_at (W:=W) (x:=x) (y:=y) (v:=v) (by omega) (by omega)).2 with e|⟨hvx,e⟩|⟨hvy,e⟩
   · rw[e];exact h.con v hv
   · rw[e,hvx];exact he.trans (h.con y hy)
   · rw[e,hvy];exact he.symm.trans (h.con x hx)
def levs (W:List Nat):List (Nat×Nat)->List Nat
 |[]=>W
 |e::E=>levs (lev W e.1 e.2) E
theorem levs_app (W:List Nat) (E F:List (Nat×Nat)):levs W (E++F)=levs (levs W E) F:=by
 induction E generalizing W with
 |nil=>rfl
 |cons e E ih=>exact ih _
def Done (E:List (Nat×Nat)) (W:List Nat) (v:Nat):Prop:=∀ u,Con E v u->W.getD v 0<=u
theorem levs_lab {E:List (Nat×Nat)} {n:Nat} (F:List (Nat×Nat)) (hF:∀ e,e∈F->e.1<n/\e.2<n/\Con E e.1 e.2):∀ W,Lab E n W->Lab E n (levs W F)/\∀ v,(levs W F).getD v 0<=W.getD v 0:=by
 induction F with
 |nil=>intro W h;exact⟨h,fun v=>Nat.le_refl _⟩
 |cons e F ih=>
  intro W h
  obtain⟨h1,h2,h3⟩:=hF e (List.Mem.head _)
  have hl:=h.len
  have h':=h.lev h1 h2 h3
  obtain⟨g1,g2⟩:=ih (fun e' he'=>hF e' (List.Mem.tail _ he')) _ h'
  exact⟨g1,fun v=>Nat.le_trans (g2 v) (lev_at (by omega) (by omega)).1⟩
theorem levs_done {E:List (Nat×Nat)} {n:Nat} (F:List (Nat×Nat)) (hF:∀ e,e∈F->e.1<n/\e.2<n/\Con E e.1 e.2) (e:Nat×Nat) (he:e∈F):∀ W,Lab E n W->(Done E W e.1∨Done E W e.2)->Done E (levs W F) e.1/\Done E (levs W F) e.2:=by
 induction F with
 |nil=>cases he
 |cons f F ih=>
  intro W h hd
  obtain⟨h1,h2,h3⟩:=hF f (List.Mem.head _)
  have hl:=h.len
  have h':=h.lev h1 h2 h3
  have hF':∀ e,e∈F->e.1<n/\e.2<n/\Con E e.1 e.2:=fun e' he'=>hF e' (List.Mem.tail _ he')
  rcases List.mem_cons.1 he with rfl|he'
  · have g:∀ v,(levs W (e::F)).getD v 0<=(lev W e.1 e.2).getD v 0:=(levs_lab F hF' _ h').2
    have hb:=lev_both (W:=W) (x:=e.1) (y:=e.2) (by omega) (by omega)
    have ha1:=(lev_at (W:=W) (x:=e.1) (y:=e.2) (v:=e.1) (by omega) (by omega)).1
    have ha2:=(lev_at (W:=W) (x:=e.1) (y:=e.2) (v:=e.2) (by omega) (by omega)).1
    rcases hd with hd|hd
    · exact⟨fun u hu=>by have:=hd u hu;have:=g e.1;omega,fun u hu=>by have:=hd u (h3.trans hu);have:=g e.2;omega⟩
    · exact⟨fun u hu=>by have:=hd u (h3.symm.trans hu);have:=g e.1;omega,fun u hu=>by have:=hd u hu;have:=g e.2;omega⟩
  · refine ih hF' he' _ h' ?_
    rcases hd with hd|hd
    · exact Or.inl fun u hu=>Nat.le_trans (lev_at (by omega) (by omega)).1 (hd u hu)
    · exact Or.inr fun u hu=>Nat.le_trans (lev_at (by omega) (by omega)).1 (hd u hu)
def levR (W:List Nat) (E:List (Nat×Nat)):Nat->List Nat
 |0=>W
 |r+1=>levs (levR W E r) E
theorem levR_lab {E:List (Nat×Nat)} {n:Nat} (hE:∀ e,e∈E->e.1<n/\e.2<n) {W:List Nat} (h:Lab E n W) (r:Nat):Lab E n (levR W E r):=by
 induction r with
 |zero=>exact h
 |succ r ih=>exact(levs_lab E (fun e he=>⟨(hE e he).1,(hE e he).2,Con.edge he⟩) _ ih).1
theorem countP_more {p q:Nat->Bool} (l:List Nat) (h:∀ x,p x=true->q x=true) (y:Nat) (hy:y∈l) (h1:p y=false) (h2:q y=true):l.countP p<l.countP q:=by
 induction l with
 |nil=>cases hy
 |cons x l ih=>
  have hm:l.countP p<=l.countP q:=List.countP_mono_left (fun a _=>h a)
  rcases List.mem_cons.1 hy with rfl|hy'
  · simp[h1,h2];omega
  · have:=ih hy'
    simp only[List.countP_cons]
    have:(if p x=true then 1 else 0)<=(if q x=true then 1 else(0:Nat)):=by
     by_cases hp:p x=true
     · simp[hp,h x hp]
     · simp[hp]
    omega
open Classical in
theorem levR_done {E:List (Nat×Nat)} {n:Nat} (hE:∀ e,e∈E->e.1<n/\e.2<n) {W:List Nat} (h:Lab E n W) (r:Nat):(∀ v,v<n->Done E (levR W E r) v)∨r<=(List.range n).countP (fun v=>decide (Done E (levR W E r) v)):=by
 induction r with
 |zero=>exact Or.inr (Nat.zero_le _)
 |succ r ih=>
  have hF:∀ e,e∈E->e.1<n/\e.2<n/\Con E e.1 e.2:=fun e he=>⟨(hE e he).1,(hE e he).2,Con.edge he⟩
  have hl:=levR_lab hE h r
  have hg:=(levs_lab E hF _ hl).2
  have hmono:∀ v,Done E (levR W E r) v->Done E (levR W E (r+1)) v:=fun v hd u hu=>Nat.le_trans (hg v) (hd u hu)
  by_cases hall:∀ v,v<n->Done E (levR W E r) v
  · exact Or.inl fun v hv=>hmono v (hall v hv)
  · right
    have hr:r<=(List.range n).countP (fun v=>decide (Done E (levR W E r) v)):=by
     rcases ih with h1|h1
     · exact absurd h1 hall
     · exact h1
    obtain⟨v,hv⟩:=Classical.not_forall.1 hall
    have hvn:v<n:=Classical.byContradiction fun hc=>hv fun hh=>absurd hh hc
    have hvd:¬ Done E (levR W E r) v:=fun hd=>hv fun _=>hd
    obtain⟨m,hm1,hm2⟩:=con_min E v
    have hmn:m<n:=Nat.lt_of_le_of_lt (hm2 v (Con.refl E v)) hvn
    have hmd:Done E (levR W E r) m:=fun u hu=>Nat.le_trans (hl.le m hmn) (hm2 u (hm1.trans hu))
    -- a done and an undone end of an edge
    have hex:∃ e,e∈E/\((Done E (levR W E r) e.1/\¬ Done E (levR W E r) e.2)∨(¬ Done E (levR W E r) e.1/\Done E (levR W E r) e.2)):=Classical.byContradiction fun hno=>by
     have hcl:Closed E (fun z=>Done E (levR W E r) z):=fun e he=>by
      constructor
      · intro h1
        exact Classical.byContradiction fun h2=>hno ⟨e,he,Or.inl ⟨h1,h2⟩⟩
      · intro h1
        exact Classical.byContradiction fun h2=>hno ⟨e,he,Or.inr ⟨h2,h1⟩⟩
     exact hvd (hm1.symm _ hcl hmd)
    obtain⟨e,he,hone⟩:=hex
    have hb:=levs_done E hF e he _ hl (hone.elim (fun a=>Or.inl a.1) (fun a=>Or.inr a.2))
    refine Nat.lt_of_le_of_lt hr ?_
    rcases hone with⟨_,h2⟩|⟨h1,_⟩
    · exact countP_more _ (fun x hx=>by simp only[decide_eq_true_eq]at hx ⊢;exact hmono x hx) e.2 (List.mem_range.2 (hE e he).2) (by simp[h2]) (by simp;exact hb.2)
    · exact countP_more _ (fun x hx=>by simp only[decide_eq_true_eq]at hx ⊢;exact hmono x hx) e.1 (List.mem_range.2 (hE e he).1) (by simp[h1]) (by simp;exact hb.1)
def Least (E:List (Nat×Nat)) (n:Nat) (W:List Nat):Prop:=W.length=n/\∀ v,v<n->Con E v (W.getD v 0)/\∀ u,Con E v u->W.getD v 0<=u
theorem Least.eq {E:List (Nat×Nat)} {n:Nat} {W V:List Nat} (h:Least E n W) (g:Least E n V):W=V:=by
 refine List.ext_getElem (by rw[h.1,g.1]) fun i h1 h2=>?_
 have hi:i<n:=by rw[<-h.1];exact h1
 have a:=h.2 i hi
 have b:=g.2 i hi
 have e:W.getD i 0=V.getD i 0:=Nat.le_antisymm (a.2 _ b.1) (b.2 _ a.1)
 simpa[List.getD_eq_getElem?_getD,h1,h2] using e
theorem Least.lt {E:List (Nat×Nat)} {n:Nat} {W:List Nat} (h:Least E n W) {v:Nat} (hv:v<n):W.getD v 0<n:=Nat.lt_of_le_of_lt ((h.2 v hv).2 v (Con.refl E v)) hv
theorem Least.same {E:List (Nat×Nat)} {n:Nat} {W:List Nat} (h:Least E n W) {u v:Nat} (hu:u<n) (hv:v<n):W.getD u 0=W.getD v 0↔Con E u v:=by
 constructor
 · intro e
   have a:=(h.2 u hu).1
   rw[e]at a
   exact a.trans (h.2 v hv).1.symm
 · intro c
   exact Nat.le_antisymm ((h.2 u hu).2 _ (c.trans (h.2 v hv).1)) ((h.2 v hv).2 _ (c.symm.trans (h.2 u hu).1))
theorem levR_least {E:List (Nat×Nat)} {n:Nat} (hE:∀ e,e∈E->e.1<n/\e.2<n) (r:Nat) (hr:n<=r):Least E n (levR (List.range n) E r):=by
 have h0:Lab E n (List.range n):=⟨by simp,fun v hv=>by simp[List.getD_eq_getElem?_getD,hv],fun v hv=>by simp[List.getD_eq_getElem?_getD,hv,Con.refl]⟩
 have hl:=levR_lab hE h0 r
 have hall:∀ v,v<n->Done E (levR (List.range n) E r) v:=by
  rcases levR_done hE h0 r with h|h
  · exact h
  · intro v hv
    have hc:(List.range n).countP (fun v=>@decide (Done E (levR (List.range n) E r) v) (Classical.propDecidable _))=(List.range n).length:=Nat.le_antisymm List.countP_le_length (by simp;omega)
    have:=List.countP_eq_length.1 hc v (List.mem_range.2 hv)
    simpa using this
 exact⟨hl.len,fun v hv=>⟨hl.con v hv,hall v hv⟩⟩
end Go.Proofs.Ytefooihnoajnlaa
/- Plain mathematics: darts and the faces that they go around; pieces. -/
namespace Go.Proofs.Ytefooihnoajnlaa
def enC (C:List Cr) (a:Nat) (p:Bool):Nat:=(endTo C a p C.length).1.toNat
def enS (C:List Cr) (a:Nat) (p:Bool):Nat:=(endTo C a p C.length).2.toNat
theorem en_may {C:List Cr} {loops:Int} (hm:mayD C loops=true) (a:Nat) (p:Bool) (h1:1<=a) (h2:a<=2*C.length):endTo C a p C.length=((enC C a p:Int),(enS C a p:Int))/\enC C a p<C.length/\enS C a p<4/\(C.getD (enC C a p) Cr.none).arc (enS C a p)=(a:Int)/\(C.getD (enC C a p) Cr.none).comes (enS C a p)=p:=by
 obtain⟨i,k,h3,h4,h5,h6,h7⟩:=end_may hm a h1 h2 p
 have e1:enC C a p=i:=by unfold enC;rw[h7];simp
 have e2:enS C a p=k:=by unfold enS;rw[h7];simp
 rw[e1,e2]
 exact⟨h7,h3,h4,h5,h6⟩
def dA (j:Nat):Nat:=(j+1) / 2
def dB (j:Nat):Bool:=decide (j%2=0)
def mkD (a:Nat) (p:Bool):Nat:=if p=true then 2*a else 2*a-1
theorem dA_mk {a:Nat} {p:Bool} (h:1<=a):dA (mkD a p)=a:=by unfold dA mkD;split<;>omega
theorem dB_mk {a:Nat} {p:Bool} (h:1<=a):dB (mkD a p)=p:=by
 unfold dB mkD
 cases p
 · simp;omega
 · simp
theorem dA_le {j n:Nat} (h1:1<=j) (h:j<=4*n):1<=dA j/\dA j<=2*n:=by unfold dA;omega
theorem mk_le {a n:Nat} {p:Bool} (h1:1<=a) (h:a<=2*n):1<=mkD a p/\mkD a p<=4*n:=by unfold mkD;split<;>omega
def dC (C:List Cr) (j:Nat):Nat:=enC C (dA j) (!dB j)
def dS (C:List Cr) (j:Nat):Nat:=enS C (dA j) (!dB j)
def fd (C:List Cr) (j:Nat):Nat:=mkD ((C.getD (dC C j) Cr.none).arc ((dS C j+3)%4)).toNat ((C.getD (dC C j) Cr.none).comes ((dS C j+3)%4))
theorem d_may {C:List Cr} {loops:Int} (hm:mayD C loops=true) (j:Nat) (h1:1<=j) (h2:j<=4*C.length):endTo C (dA j) (!dB j) C.length=((dC C j:Int),(dS C j:Int))/\dC C j<C.length/\dS C j<4:=by
 have h:=dA_le h1 h2
 have g:=en_may hm (dA j) (!dB j) h.1 h.2
 exact⟨g.1,g.2.1,g.2.2.1⟩
theorem fd_may {C:List Cr} {loops:Int} (hm:mayD C loops=true) (j:Nat) (h1:1<=j) (h2:j<=4*C.length):(C.getD (dC C j) Cr.none).arc ((dS C j+3)%4)=(dA (fd C j):Int)/\(C.getD (dC C j) Cr.none).comes ((dS C j+3)%4)=dB (fd C j)/\1<=fd C j/\fd C j<=4*C.length:=by
 have g:=d_may hm j h1 h2
 have hf:=may_fit hm (dC C j) ((dS C j+3)%4) g.2.1 (by omega)
 have g1:=hf.1
 have g2:=hf.2.1
 unfold fd
 generalize (C.getD (dC C j) Cr.none).comes ((dS C j+3)%4)=p
 generalize (C.getD (dC C j) Cr.none).arc ((dS C j+3)%4)=x at g1 g2
 have hx:1<=x.toNat/\x.toNat<=2*C.length:=by omega
 rw[dA_mk hx.1,dB_mk hx.1]
 have:=mk_le (p:=p) hx.1 hx.2
 exact⟨by omega,rfl,this.1,this.2⟩
theorem fd_closed {C:List Cr} {loops:Int} (hm:mayD C loops=true):∀ j,1<=j->j<=4*C.length->1<=fd C j/\fd C j<=4*C.length:=fun j h1 h2=>(fd_may hm j h1 h2).2.2
def facesM (C:List Cr):List (List Nat):=(walksTo (fd C) (4*C.length) (4*C.length)).1
def nbC (C:List Cr) (k s:Nat):Nat:=enC C ((C.getD k Cr.none).arc s).toNat (!(C.getD k Cr.none).comes s)
def arcE (C:List Cr):List (Nat×Nat):=(List.range (2*C.length)).map fun i=>(enC C (i+1) true,enC C (i+1) false)
theorem en_one {C:List Cr} {loops:Int} (hm:mayD C loops=true) (k s:Nat) (hk:k<C.length) (hs:s<4):1<=((C.getD k Cr.none).arc s).toNat/\((C.getD k Cr.none).arc s).toNat<=2*C.length/\enC C ((C.getD k Cr.none).arc s).toNat ((C.getD k Cr.none).comes s)=k:=by
 have hf:=may_fit hm k s hk hs
 have g1:=hf.1
 have g2:=hf.2.1
 have ha:1<=((C.getD k Cr.none).arc s).toNat/\((C.getD k Cr.none).arc s).toNat<=2*C.length:=by omega
 refine⟨ha.1,ha.2,?_⟩
 have e:=end_one hm _ ha.1 ha.2 ((C.getD k Cr.none).comes s) k s hk hs (by omega) rfl
 unfold enC
 rw[e]
 rfl
theorem nb_lt {C:List Cr} {loops:Int} (hm:mayD C loops=true) (k s:Nat) (hk:k<C.length) (hs:s<4):nbC C k s<C.length:=by
 have h:=en_one hm k s hk hs
 exact(en_may hm _ _ h.1 h.2.1).2.1
theorem mem_arcE {C:List Cr} {a:Nat} (h1:1<=a) (h2:a<=2*C.length):(enC C a true,enC C a false)∈arcE C:=by
 unfold arcE
 refine List.mem_map.2 ⟨a-1,List.mem_range.2 (by omega),?_⟩
 rw[Nat.sub_add_cancel h1]
theorem nb_con {C:List Cr} {loops:Int} (hm:mayD C loops=true) (k s:Nat) (hk:k<C.length) (hs:s<4):Con (arcE C) k (nbC C k s):=by
 have h:=en_one hm k s hk hs
 have he:=Con.edge (mem_arcE h.1 h.2.1)
 unfold nbC
 cases hc:(C.getD k Cr.none).comes s with
 |true=>
  rw[hc]at h
  rw[h.2.2]at he
  exact he
 |false=>
  rw[hc]at h
  rw[h.2.2]at he
  exact he.symm
theorem edge_nb {C:List Cr} {loops:Int} (hm:mayD C loops=true) (e:Nat×Nat) (he:e∈arcE C):e.1<C.length/\e.2<C.length/\(∃ s,s<4/\nbC C e.1 s=e.2)/\∃ s,s<4/\nbC C e.2 s=e.1:=by
 obtain⟨i,hi,rfl⟩:=List.mem_map.1 he
 have hi':=List.mem_range.1 hi
 have h1:=en_may hm (i+1) true (by omega) (by omega)
 have h2:=en_may hm (i+1) false (by omega) (by omega)
 refine⟨h1.2.1,h2.2.1,⟨enS C (i+1) true,h1.2.2.1,?_⟩,⟨enS C (i+1) false,h2.2.2.1,?_⟩⟩
 · unfold nbC
   rw[h1.2.2.2.1,h1.2.2.2.2]
   rfl
 · unfold nbC
   rw[h2.2.2.2.1,h2.2.2.2.2]
   rfl
theorem arcE_lt {C:List Cr} {loops:Int} (hm:mayD C loops=true):∀ e,e∈arcE C->e.1<C.length/\e.2<C.length:=fun e he=>⟨(edge_nb hm e he).1,(edge_nb hm e he).2.1⟩
structure Spr (C:List Cr) (P0 P:List Int) (f:Nat) (num:Int) (todo:List Nat) (k s:Nat):Prop where
 len:P.length=C.length
 old:∀ v,v<C.length->P0.getD v 0 ≠ -1->P.getD v 0=P0.getD v 0
 new:∀ v,v<C.length->P0.getD v 0 = -1->P.getD v 0 = -1∨(P.getD v 0=num/\Con (arcE C) f v)
 fst:P.getD f 0=num
 tod:∀ v,v∈todo->v<C.length/\Con (arcE C) f v
 proc:∀ v,v<C.length->P.getD v 0=num->v∈todo∨∀ t,t<4->(v=k->t<s)->P.getD (nbC C v t) 0 ≠ -1
theorem getI_set (P:List Int) (i v:Nat) (z:Int) (hi:i<P.length):(P.set i z).getD v 0=if v=i then z else P.getD v 0:=by
 simp only[List.getD_eq_getElem?_getD,List.getElem?_set]
 by_cases h:i=v
 · subst h;simp[hi]
 · simp[h,Ne.symm h]
theorem Spr.start {C:List Cr} {P0:List Int} {f:Nat} {num:Int} (hl:P0.length=C.length) (hf:f<C.length) (h0:P0.getD f 0 = -1) (hn:∀ v,v<C.length->P0.getD v 0≠num):Spr C P0 (P0.set f num) f num [f] 0 4:=by
 have hs:∀ v,(P0.set f num).getD v 0=if v=f then num else P0.getD v 0:=fun v=>getI_set _ _ _ _ (by omega)
 refine⟨by simp[hl],fun v hv h=>?_,fun v hv h=>?_,by rw[hs,if_pos rfl],fun v hv=>?_,fun v hv h=>?_⟩
 · rw[hs,if_neg (fun e=>h (by rw[e,h0]))]
 · rw[hs]
   by_cases e:v=f
   · rw[if_pos e,e];exact Or.inr ⟨rfl,Con.refl _ _⟩
   · rw[if_neg e];exact Or.inl h
 · rw[List.mem_singleton.1 hv];exact⟨hf,Con.refl _ _⟩
 · rw[hs]at h
   by_cases e:v=f
   · exact Or.inl (by rw[e];exact List.mem_singleton.2 rfl)
   · rw[if_neg e]at h
     exact absurd h (hn v hv)
theorem Spr.take {C:List Cr} {P0 P:List Int} {f:Nat} {num:Int} {k:Nat} {todo:List Nat} {k0:Nat} (h:Spr C P0 P f num (k::todo) k0 4):Spr C P0 P f num todo k 0:=by
 refine⟨h.len,h.old,h.new,h.fst,fun v hv=>h.tod v (List.Mem.tail _ hv),fun v hv e=>?_⟩
 by_cases hk:v=k
 · exact Or.inr fun t _ hs=>absurd (hs hk) (Nat.not_lt_zero _)
 · rcases h.proc v hv e with h1|h1
   · rcases List.mem_cons.1 h1 with h2|h2
     · exact absurd h2 hk
     · exact Or.inl h2
   · exact Or.inr fun t ht _=>h1 t ht (fun _=>ht)
theorem Spr.old_side {C:List Cr} {P0 P:List Int} {f:Nat} {num:Int} {k s:Nat} {todo:List Nat} (h:Spr C P0 P f num todo k s) (hn:P.getD (nbC C k s) 0 ≠ -1):Spr C P0 P f num todo k (s+1):=by
 refine⟨h.len,h.old,h.new,h.fst,h.tod,fun v hv e=>?_⟩
 rcases h.proc v hv e with h1|h1
 · exact Or.inl h1
 · refine Or.inr fun t ht hs=>?_
   by_cases hvk:v=k
   · by_cases hts:t=s
     · rw[hvk,hts];exact hn
     · exact h1 t ht (fun e=>by have:=hs e;omega)
   · exact h1 t ht (fun e=>absurd e hvk)
theorem Spr.new_side {C:List Cr} {loops:Int} (hm:mayD C loops=true) {P0 P:List Int} {f:Nat} {num:Int} {k s:Nat} {todo:List Nat} (h:Spr C P0 P f num todo k s) (hnum:num ≠ -1) (hk:k<C.length) (hs:s<4) (hc:Con (arcE C) f k) (hn:P.getD (nbC C k s) 0 = -1):Spr C P0 (P.set (nbC C k s) num) f num (todo++[nbC C k s]) k (s+1):=by
 have hb:=nb_lt hm k s hk hs
 have hcon:=hc.trans (nb_con hm k s hk hs)
 generalize hy:nbC C k s=y at hb hcon hn ⊢
 have hg:∀ v,(P.set y num).getD v 0=if v=y then num else P.getD v 0:=fun v=>getI_set _ _ _ _ (by rw[h.len];exact hb)
 have hne:∀ v,P.getD v 0 ≠ -1->(P.set y num).getD v 0 ≠ -1:=fun v hv=>by
  rw[hg]
  split
  · exact hnum
  · exact hv
 refine⟨by simp[h.len],fun v hv e=>?_,fun v hv e=>?_,?_,fun v hv=>?_,fun v hv e=>?_⟩
 · rw[hg,if_neg (fun e2=>by rw[e2]at e;have:=h.old y hb e;rw[hn]at this;exact e this.symm)]
   exact h.old v hv e
 · rw[hg]
   by_cases e2:v=y
   · rw[if_pos e2,e2];exact Or.inr ⟨rfl,hcon⟩
   · rw[if_neg e2];exact h.new v hv e
 · rw[hg,h.fst];split<;>rfl
 · rcases List.mem_append.1 hv with h1|h1
   · exact h.tod v h1
   · rw[List.mem_singleton.1 h1];exact⟨hb,hcon⟩
 · by_cases e2:v=y
   · exact Or.inl (List.mem_append.2 (Or.inr (List.mem_singleton.2 e2)))
   · rw[hg,if_neg e2]at e
     rcases h.proc v hv e with h1|h1
     · exact Or.inl (List.mem_append.2 (Or.inl h1))
     · refine Or.inr fun t ht hst=>?_
       by_cases hvk:v=k
       · by_cases hts:t=s
         · rw[hvk,hts,hy,hg,if_pos rfl];exact hnum
         · exact hne _ (h1 t ht (fun e=>by have:=hst e;omega))
       · exact hne _ (h1 t ht (fun e=>absurd e hvk))
structure Pcs (C:List Cr) (P:List Int) (c k:Nat):Prop where
 len:P.length=C.length
 few:c<=k
 cl:∀ e,e∈arcE C->P.getD e.1 0=P.getD e.2 0
 vals:∀ v,v<C.length->P.getD v 0 = -1∨(0<=P.getD v 0/\P.getD v 0<(c:Int))
 join:∀ u v,u<C.length->v<C.length->P.getD u 0 ≠ -1->P.getD u 0=P.getD v 0->Con (arcE C) u v
 used:∀ p,p<c->∃ v,v<C.length/\P.getD v 0=(p:Int)
 done:∀ v,v<k->v<C.length->P.getD v 0 ≠ -1
theorem Pcs.start (C:List Cr) (P:List Int) (hP:P=List.replicate C.length (-1)) (hE:∀ e,e∈arcE C->e.1<C.length/\e.2<C.length):Pcs C P 0 0:=by
 have hg:∀ v,v<C.length->P.getD v 0 = -1:=fun v hv=>by rw[hP];simp[List.getD_eq_getElem?_getD,hv]
 exact⟨by rw[hP];simp,Nat.le_refl _,fun e he=>by rw[hg _ (hE e he).1,hg _ (hE e he).2],fun v hv=>Or.inl (hg v hv),fun u v hu _ h _=>absurd (hg u hu) h,fun p hp=>absurd hp (Nat.not_lt_zero _),fun v hv=>absurd hv (Nat.not_lt_zero _)⟩
theorem Pcs.skip {C:List Cr} {P:List Int} {c k:Nat} (h:Pcs C P c k) (hk:P.getD k 0 ≠ -1):Pcs C P c (k+1):=
 ⟨h.len, by have := h.few; omega, h.cl, h.vals, h.join, h.used, fun v hv hn => by
  by_cases e:v=k
  · rw[e];exact hk
  · exact h.done v (by omega) hn⟩
theorem Pcs.more {C:List Cr} {loops:Int} (hm:mayD C loops=true) {P0 P:List Int} {c k k1:Nat} (h:Pcs C P0 c k) (hk:k<C.length) (_h0:P0.getD k 0 = -1) (g:Spr C P0 P k c [] k1 4):Pcs C P (c+1) (k+1):=by
 have hc1:((c:Nat):Int) ≠ -1:=by omega
 have hold:∀ v,v<C.length->P.getD v 0=(c:Int)->P0.getD v 0 = -1:=fun v hv e=>Classical.byContradiction fun hne=>by
  have h1:=g.old v hv hne
  rcases h.vals v hv with h2|h2
  · exact hne h2
  · omega
 have hone:∀ u v,u<C.length->v<C.length->P0.getD u 0=P0.getD v 0->(∃ t,t<4/\nbC C u t=v)->(∃ t,t<4/\nbC C v t=u)->P.getD u 0=P.getD v 0:=by
  intro u v hu hv e ⟨t,ht,ht'⟩ ⟨t2,ht2,ht2'⟩
  by_cases h1:P0.getD u 0 = -1
  · have h2:P0.getD v 0 = -1:=by rw[<-e];exact h1
    rcases g.new u hu h1 with a|a
    · rcases g.new v hv h2 with b|b
      · rw[a,b]
      · rcases g.proc v hv b.1 with c1|c1
        · cases c1
        · have:=c1 t2 ht2 (fun _=>ht2)
          rw[ht2']at this
          exact absurd a this
    · rcases g.proc u hu a.1 with c1|c1
      · cases c1
      · have hx:=c1 t ht (fun _=>ht)
        rw[ht']at hx
        rcases g.new v hv h2 with b|b
        · exact absurd b hx
        · rw[a.1,b.1]
  · have h2:P0.getD v 0 ≠ -1:=by rw[<-e];exact h1
    rw[g.old u hu h1,g.old v hv h2,e]
 refine⟨g.len,by have:=h.few;omega,fun e he=>?_,fun v hv=>?_,fun u v hu hv hne e=>?_,fun p hp=>?_,fun v hv hn=>?_⟩
 · obtain⟨a1,a2,a3,a4⟩:=edge_nb hm e he
   exact hone _ _ a1 a2 (h.cl e he) a3 a4
 · by_cases h1:P0.getD v 0 = -1
   · rcases g.new v hv h1 with a|a
     · exact Or.inl a
     · exact Or.inr (by rw[a.1];omega)
   · rw[g.old v hv h1]
     rcases h.vals v hv with a|a
     · exact Or.inl a
     · exact Or.inr (by omega)
 · by_cases h1:P.getD u 0=(c:Int)
   · have hu1:=hold u hu h1
     have hv1:=hold v hv (by rw[<-e];exact h1)
     rcases g.new u hu hu1 with a|a
     · exact absurd a hne
     · rcases g.new v hv hv1 with b|b
       · exact absurd (by rw[e];exact b) hne
       · exact a.2.symm.trans b.2
   · have hu1 : P0.getD u 0 ≠ -1 := fun hx => by
       rcases g.new u hu hx with a|a
       · exact hne a
       · exact h1 a.1
     have hv1:P0.getD v 0 ≠ -1:=fun hx=>by
      rcases g.new v hv hx with a|a
      · exact hne (by rw[e];exact a)
      · exact h1 (by rw[e];exact a.1)
     rw[g.old u hu hu1,g.old v hv hv1]at e
     exact h.join u v hu hv hu1 e
 · by_cases e:p=c
   · exact⟨k,hk,by rw[g.fst,e]⟩
   · obtain⟨v,hv,e2⟩:=h.used p (by omega)
     exact⟨v,hv,by rw[g.old v hv (by rw[e2];omega),e2]⟩
 · by_cases e:v=k
   · rw[e,g.fst];exact hc1
   · have:=h.done v (by omega) hn
     rw[g.old v hn this];exact this
structure PcsAll (C:List Cr) (P:List Int) (c:Nat):Prop where
 len:P.length=C.length
 few:c<=C.length
 vals:∀ v,v<C.length->0<=P.getD v 0/\P.getD v 0<(c:Int)
 same:∀ u v,u<C.length->v<C.length->(P.getD u 0=P.getD v 0↔Con (arcE C) u v)
 used:∀ p,p<c->∃ v,v<C.length/\P.getD v 0=(p:Int)
theorem Pcs.all {C:List Cr} {P:List Int} {c:Nat} (h:Pcs C P c C.length):PcsAll C P c:=by
 refine⟨h.len,h.few,fun v hv=>?_,fun u v hu hv=>⟨fun e=>h.join u v hu hv (h.done u hu hu) e,fun hc=>?_⟩,h.used⟩
 · rcases h.vals v hv with a|a
   · exact absurd a (h.done v hv hv)
   · exact a
 · exact(hc (fun z=>P.getD u 0=P.getD z 0) (fun e he=>by show P.getD u 0=P.getD e.1 0↔P.getD u 0=P.getD e.2 0;rw[h.cl e he]) rfl)
def exI (n:Nat) (G:List Nat) (P:List Int) (p:Nat):Int:=((G.countP fun g=>decide (P.getD g 0=(p:Int)):Nat):Int)-(((List.range n).countP fun v=>decide (P.getD v 0=(p:Int)):Nat):Int)
def exN (n:Nat) (G:List Nat) (W:List Nat) (p:Nat):Int:=((G.countP fun g=>decide (W.getD g 0=p):Nat):Int)-(((List.range n).countP fun v=>decide (W.getD v 0=p):Nat):Int)
theorem ex_same {C:List Cr} {P:List Int} {c:Nat} {W:List Nat} {G:List Nat} (hP:PcsAll C P c) (hW:Least (arcE C) C.length W) (hG:∀ g,g∈G->g<C.length) (v:Nat) (hv:v<C.length) (p:Nat) (hp:P.getD v 0=(p:Int)):exI C.length G P p=exN C.length G W (W.getD v 0):=by
 have key:∀ g,g<C.length->decide (P.getD g 0=(p:Int))=decide (W.getD g 0=W.getD v 0):=fun g hg=>by
  rw[<-hp]
  exact decide_eq_decide.2 ((hP.same g v hg hv).trans (hW.same hg hv).symm)
 unfold exI exN
 rw [List.countP_congr (p := fun g => decide (P.getD g 0 = (p : Int))) (q := fun g => decide (W.getD g 0 = W.getD v 0)) (l := G) (fun g hg => by rw [key g (hG g hg)]),
  List.countP_congr (p:=fun g=>decide (P.getD g 0=(p:Int))) (q:=fun g=>decide (W.getD g 0=W.getD v 0)) (l:=List.range C.length) (fun g hg=>by rw[key g (List.mem_range.1 hg)])]
theorem sphere_iff {C:List Cr} {P:List Int} {c:Nat} {W:List Nat} {G:List Nat} (hP:PcsAll C P c) (hW:Least (arcE C) C.length W) (hG:∀ g,g∈G->g<C.length):(∀ p,p<c->exI C.length G P p=2)↔∀ p,p<C.length->W.getD p 0=p->exN C.length G W p=2:=by
 constructor
 · intro h p hp e
   have hv:=hP.vals p hp
   have:=ex_same hP hW hG p hp (P.getD p 0).toNat (by omega)
   rw[e]at this
   rw[<-this]
   exact h _ (by omega)
 · intro h p hp
   obtain⟨v,hv,e⟩:=hP.used p hp
   rw[ex_same hP hW hG v hv p e]
   have hw:=hW.lt hv
   exact h _ hw ((hW.same hw hv).2 (hW.2 v hv).1.symm)
end Go.Proofs.Ytefooihnoajnlaa
