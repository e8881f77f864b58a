/- Several texts of the proof, one behind the other. -/
import Derived.Test.YtefooihnoajnlaaZ2P
import Derived.Test.YtefooihnoajnlaaTK1P
import Derived.Test.YtefooihnoajnlaaJ0P
/- Plain mathematics: Euler's number of a piece is even and at most two, arc by arc. -/
namespace Go.Proofs.Ytefooihnoajnlaa
theorem Bij.congr {f g:Nat->Nat} {M:Nat} (h:Bij f M) (e:∀ x,x<M->f x=g x):Bij g M:=
 ⟨fun x hx=>by rw[<-e x hx];exact h.lt x hx,fun x y hx hy q=>h.inj x y hx hy (by rw[e x hx,e y hy,q])⟩
end Go.Proofs.Ytefooihnoajnlaa
/- Plain mathematics: a curl, or a face of two, of a diagram, passed straight. -/
namespace Go.Proofs.Ytefooihnoajnlaa
def ein (C:List Cr) (k s:Nat):Nat:=al (pd C (4*k+s))
def fs (C:List Cr) (G:List Nat) (j:Nat):Nat:=if dC C j∈G then pd C (4*dC C j+(dS C j+2)%4) else fd C j
theorem al_back (x:Nat):al (al x)=x:=by
 rcases Nat.eq_zero_or_pos x with rfl|hp
 · rfl
 · exact al_al hp
theorem ein_at {C:List Cr} {loops:Int} (hm:mayD C loops=true) (k s:Nat) (hk:k<C.length) (hs:s<4):1<=ein C k s/\ein C k s<=4*C.length/\dC C (ein C k s)=k/\dS C (ein C k s)=s/\al (ein C k s)=pd C (4*k+s)/\fd C (ein C k s)=pd C (4*k+(s+3)%4):=by
 obtain⟨-,h1,h2,h3,h4⟩:=pd_at hm k s hk hs
 obtain⟨a1,a2,-,-⟩:=al_may h3 h4
 obtain⟨d1,d2⟩:=dC_al (C:=C) h3 h4
 exact⟨a1,a2,d1.trans h1,d2.trans h2,al_back _,pd_sig hm k s hk hs⟩
theorem ein_onto {C:List Cr} {loops:Int} (hm:mayD C loops=true) {x:Nat} (h1:1<=x) (h2:x<=4*C.length):dC C x<C.length/\dS C x<4/\x=ein C (dC C x) (dS C x):=by
 obtain⟨-,h3,h4⟩:=d_may hm x h1 h2
 refine⟨h3,h4,?_⟩
 obtain⟨q,hq,e⟩:=(pd_bij hm).onto (y:=al x - 1) (by have:=al_may h1 h2;omega)
 have ha:=al_may h1 h2
 have hp:=pd_at hm (q / 4) (q%4) (by omega) (by omega)
 rw[show 4*(q / 4)+q%4=q by omega]at hp
 have e2:pd C q=al x:=by have e:pd C q-1=al x-1:=e;omega
 have hx:x=ein C (q / 4) (q%4):=by
  unfold ein
  rw[show 4*(q / 4)+q%4=q by omega,e2,al_back]
 have g:=ein_at hm (q / 4) (q%4) (by omega) (by omega)
 rw[<-hx]at g
 rw[g.2.2.1,g.2.2.2.1]
 exact hx
theorem fs_in {C:List Cr} {loops:Int} (hm:mayD C loops=true) {G:List Nat} {k s:Nat} (hk:k<C.length) (hs:s<4) (hG:k∈G):fs C G (ein C k s)=pd C (4*k+(s+2)%4):=by
 obtain⟨-,-,h1,h2,-,-⟩:=ein_at hm k s hk hs
 unfold fs
 rw[h1,h2,if_pos hG]
end Go.Proofs.Ytefooihnoajnlaa
/- Plain mathematics: what a planar diagram's rings and pieces are where some crossings are passed straight. -/
namespace Go.Proofs.Ytefooihnoajnlaa
theorem inj_cnt {n M:Nat} {P Q:Nat->Bool} (m:Nat->Nat) (hl:∀ v,v<n->P v=true->m v<M/\Q (m v)=true) (hi:∀ u v,u<n->v<n->P u=true->P v=true->m u=m v->u=v):(List.range n).countP P<=(List.range M).countP Q:=by
 rw[List.countP_eq_length_filter,List.countP_eq_length_filter,<-List.length_map (f:=m)]
 have hnd:(((List.range n).filter P).map m).Nodup:=by
  unfold List.Nodup
  rw[List.pairwise_map]
  refine List.Pairwise.imp_of_mem ?_ (List.Pairwise.filter _ List.nodup_range)
  intro u v hu hv huv e
  obtain⟨hu,ru⟩:=List.mem_filter.1 hu
  obtain⟨hv,rv⟩:=List.mem_filter.1 hv
  exact huv (hi u v (List.mem_range.1 hu) (List.mem_range.1 hv) ru rv e)
 refine hnd.length_le_of_subset fun x hx=>?_
 obtain⟨v,hv,rfl⟩:=List.mem_map.1 hx
 obtain⟨hv,rv⟩:=List.mem_filter.1 hv
 have:=hl v (List.mem_range.1 hv) rv
 exact List.mem_filter.2 ⟨List.mem_range.2 this.1,this.2⟩
end Go.Proofs.Ytefooihnoajnlaa
/- Plain mathematics: the crossings that are left, and their numbers. -/
namespace Go.Proofs.Ytefooihnoajnlaa
def posG (G:List Nat) (k:Nat):Nat:=(List.range k).countP fun j=>decide (j ∉ G)
theorem posG_next (G:List Nat) (k:Nat):posG G (k+1)=posG G k+if k∈G then 0 else 1:=by
 unfold posG
 rw[List.range_succ,List.countP_append,List.countP_singleton]
 by_cases h:k∈G
 · rw[if_pos h,if_neg (by simpa using h)]
 · rw[if_neg h,if_pos (by simpa using h)]
theorem posG_mono (G:List Nat) {k i:Nat} (h:k<=i):posG G k<=posG G i:=by
 induction i with
 |zero=>rw[show k=0 by omega];exact Nat.le_refl _
 |succ i ih=>
  by_cases e:k=i+1
  · rw[e];exact Nat.le_refl _
  · have:=ih (by omega)
    rw[posG_next]
    omega
theorem posG_lt {G:List Nat} {k i:Nat} (h:k<i) (hk:k ∉ G):posG G k<posG G i:=by
 have:=posG_mono G (show k+1<=i from h)
 rw[posG_next,if_neg hk]at this
 omega
theorem posG_inj {G:List Nat} {k j:Nat} (hk:k ∉ G) (hj:j ∉ G) (e:posG G k=posG G j):k=j:=by
 rcases Nat.lt_trichotomy k j with h|h|h
 · have:=posG_lt h hk;omega
 · exact h
 · have:=posG_lt h hj;omega
theorem posG_onto {G:List Nat}:∀ {n i:Nat},i<posG G n->∃ k,k<n/\k ∉ G/\posG G k=i:=by
 intro n
 induction n with
 |zero=>intro i h;exact absurd h (Nat.not_lt_zero _)
 |succ n ih=>
  intro i h
  by_cases hl:i<posG G n
  · obtain⟨k,h1,h2,h3⟩:=ih hl
    exact⟨k,by omega,h2,h3⟩
  · rw[posG_next]at h
    by_cases hg:n∈G
    · rw[if_pos hg]at h;omega
    · rw[if_neg hg]at h;exact⟨n,by omega,hg,by omega⟩
theorem reTo_pos (C:List Cr) (G:List Nat) (h:Nat->Nat) (i:Nat):(reTo C G h i).length=posG G i:=by
 induction i with
 |zero=>rfl
 |succ i ih=>
  rw[posG_next]
  simp only[reTo,List.length_append]
  rw[ih]
  split<;>simp
theorem reTo_at {C:List Cr} {G:List Nat} {h:Nat->Nat} {k:Nat} (hk:k ∉ G):∀ i,k<i->(reTo C G h i).getD (posG G k) Cr.none=reX h (C.getD k Cr.none):=by
 intro i
 induction i with
 |zero=>intro h;exact absurd h (Nat.not_lt_zero _)
 |succ i ih=>
  intro hi
  simp only[reTo]
  by_cases e:k=i
  · subst e
    rw[if_neg hk,List.getD_eq_getElem?_getD,List.getElem?_append_right (by rw[reTo_pos];exact Nat.le_refl _),reTo_pos,Nat.sub_self]
    rfl
  · have hlt:=posG_lt (G:=G) (show k<i by omega) hk
    rw[List.getD_eq_getElem?_getD,List.getElem?_append_left (by rw[reTo_pos];exact hlt),<-List.getD_eq_getElem?_getD]
    exact ih (by omega)
theorem reX_arc (h:Nat->Nat) (X:Cr) {s:Nat} (hs:s<4):(reX h X).arc s=(h (X.arc s).toNat:Int):=by
 match s,hs with
 |0,_=>rfl
 |1,_=>rfl
 |2,_=>rfl
 |3,_=>rfl
theorem reX_comes (h:Nat->Nat) (X:Cr) (s:Nat):(reX h X).comes s=X.comes s:=rfl
theorem ends_one {C:List Cr} {f:Nat->Nat} (hf:Goes C f) (G:List Nat) {a b:Nat} (_a1:1<=a) (a2:a<=2*C.length) (_b1:1<=b) (b2:b<=2*C.length) (ha:toC C a ∉ G) (hb:toC C b ∉ G) (e:(uniM C f G).getD a 0=(uniM C f G).getD b 0):a=b:=by
 have hL:=uni_least (G:=G) hf.closed
 have hc:=(hL.same (by omega) (by omega)).1 e
 have hS:Closed (uTo C f G (2*C.length)) fun z=>∃ i,it f i z=a/\∀ j,j<i->toC C (it f j z)∈G:=fun ed he=>by
  obtain⟨x,x1,x2,x3,rfl⟩:=mem_uTo.1 he
  have sh:∀ i,it f i (f x)=it f (i+1) x:=fun i=>by have:=it_add f x i 1;exact this.symm
  constructor
  · rintro⟨i,h1,h2⟩
    match i,h1,h2 with
    |0,h1,_=>exact absurd x3 (by have h1:x=a:=h1;rw[h1];exact ha)
    |i+1,h1,h2=>exact⟨i,(sh i).trans h1,fun j hj=>by have:=h2 (j+1) (by omega);show toC C (it f j (f x))∈G;rw[sh j];exact this⟩
  · rintro⟨i,h1,h2⟩
    refine⟨i+1,(sh i).symm.trans h1,fun j hj=>?_⟩
    match j with
    |0=>exact x3
    |j+1=>have:=h2 j (by omega);have e2:it f (j+1) x=it f j (f x):=(sh j).symm;show toC C (it f (j+1) x)∈G;rw[e2];exact this
 obtain⟨i,h1,h2⟩:=hc _ hS ⟨0,rfl,fun j hj=>absurd hj (Nat.not_lt_zero _)⟩
 match i,h1,h2 with
 |0,h1,_=>exact h1.symm
 |i+1,_,h2=>exact absurd (h2 0 (by omega)) hb
theorem starts_one {C:List Cr} {f:Nat->Nat} (hf:Goes C f) (G:List Nat) {a b:Nat} (a1:1<=a) (a2:a<=2*C.length) (_b1:1<=b) (b2:b<=2*C.length) (ha:enC C a false ∉ G) (hb:enC C b false ∉ G) (e:(uniM C f G).getD a 0=(uniM C f G).getD b 0):a=b:=by
 have hL:=uni_least (G:=G) hf.closed
 have hc:=(hL.same (by omega) (by omega)).1 e
 have hit:∀ i,1<=it f i a/\it f i a<=2*C.length:=fun i=>by
  induction i with
  |zero=>exact⟨a1,a2⟩
  |succ i ih=>exact hf.closed _ ih.1 ih.2
 have hS:Closed (uTo C f G (2*C.length)) fun z=>∃ i,z=it f i a/\∀ j,j<i->toC C (it f j a)∈G:=fun ed he=>by
  obtain⟨x,x1,x2,x3,rfl⟩:=mem_uTo.1 he
  constructor
  · rintro⟨i,h1,h2⟩
    have h1:x=it f i a:=h1
    refine⟨i+1,by show f x=f (it f i a);rw[h1],fun j hj=>?_⟩
    by_cases q:j=i
    · rw[q,<-h1];exact x3
    · exact h2 j (by omega)
  · rintro⟨i,h1,h2⟩
    match i,h1,h2 with
    |0,h1,_=>
     have h1:f x=a:=h1
     exact absurd x3 (by rw[<-hf.out x x1 x2,h1];exact ha)
    |i+1,h1,h2=>exact⟨i,hf.inj x _ x1 x2 (hit i).1 (hit i).2 h1,fun j hj=>h2 j (by omega)⟩
 obtain⟨i,h1,h2⟩:=hc _ hS ⟨0,rfl,fun j hj=>absurd hj (Nat.not_lt_zero _)⟩
 match i,h1,h2 with
 |0,h1,_=>exact h1.symm
 |i+1,h1,h2=>
  have h1:b=f (it f i a):=h1
  have:=hf.out _ (hit i).1 (hit i).2
  rw[<-h1]at this
  exact absurd (this▸h2 i (by omega)) hb
theorem cntB_lt {P:Nat->Bool} {u v:Nat} (h1:1<=u) (hP:P u=true) (h:u<v):cntB P u<cntB P v:=by
 induction v with
 |zero=>omega
 |succ v ih=>
  show cntB P u<cntB P v+(if 1<=v/\P v=true then 1 else 0)
  by_cases e:u=v
  · rw[<-e,if_pos ⟨h1,hP⟩];omega
  · have:=ih (by omega);omega
theorem cntB_inj {P:Nat->Bool} {u v:Nat} (hu:1<=u) (hPu:P u=true) (hv:1<=v) (hPv:P v=true) (e:cntB P u=cntB P v):u=v:=by
 rcases Nat.lt_trichotomy u v with h|h|h
 · have:=cntB_lt hu hPu h;omega
 · exact h
 · have:=cntB_lt hv hPv h;omega
end Go.Proofs.Ytefooihnoajnlaa
