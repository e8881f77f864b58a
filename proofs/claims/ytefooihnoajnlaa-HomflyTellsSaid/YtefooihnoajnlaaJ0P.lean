/- Several texts of the proof, one behind the other. -/
import Derived.Test.YtefooihnoajnlaaW6P
import Derived.Test.YtefooihnoajnlaaH6P
import Derived.Test.YtefooihnoajnlaaLevP
import Derived.Test.YtefooihnoajnlaaH4P
/- Plain mathematics: arcs that are one when crossings are gone; their numbers; what is left of a diagram. -/
namespace Go.Proofs.Ytefooihnoajnlaa
def uTo (C:List Cr) (f:Nat->Nat) (G:List Nat):Nat->List (Nat×Nat)
 |0=>[]
 |a+1=>uTo C f G a++(if toC C (a+1)∈G then [(a+1,f (a+1))] else [])
theorem mem_uTo {C:List Cr} {f:Nat->Nat} {G:List Nat} {n:Nat} {e:Nat×Nat}:e∈uTo C f G n↔∃ a,1<=a/\a<=n/\toC C a∈G/\e=(a,f a):=by
 induction n with
 |zero=>
  refine⟨fun h=>(by cases h),fun⟨a,h1,h2,_⟩=>absurd h2 (by omega)⟩
 |succ n ih=>
  rw[uTo,List.mem_append,ih]
  constructor
  · rintro(⟨a,h1,h2,h3,h4⟩|h)
    · exact⟨a,h1,by omega,h3,h4⟩
    · split at h
      · rename_i hg
        exact⟨n+1,by omega,Nat.le_refl _,hg,by simpa using h⟩
      · cases h
  · rintro⟨a,h1,h2,h3,h4⟩
    by_cases e:a=n+1
    · subst e
      right
      rw[if_pos h3]
      simp[h4]
    · exact Or.inl ⟨a,h1,by omega,h3,h4⟩
def uniM (C:List Cr) (f:Nat->Nat) (G:List Nat):List Nat:=mers (List.range (2*C.length+1)) (uTo C f G (2*C.length))
theorem uTo_lt {C:List Cr} {f:Nat->Nat} {G:List Nat} (hf:∀ a,1<=a->a<=2*C.length->1<=f a/\f a<=2*C.length):∀ e,e∈uTo C f G (2*C.length)->(1<=e.1/\e.1<2*C.length+1)/\(1<=e.2/\e.2<2*C.length+1):=fun e he=>by
 obtain⟨a,h1,h2,-,rfl⟩:=mem_uTo.1 he
 have:=hf a h1 h2
 exact⟨⟨h1,by dsimp only;omega⟩,this.1,by dsimp only;omega⟩
theorem uni_least {C:List Cr} {f:Nat->Nat} {G:List Nat} (hf:∀ a,1<=a->a<=2*C.length->1<=f a/\f a<=2*C.length):Least (uTo C f G (2*C.length)) (2*C.length+1) (uniM C f G):=by
 have := mers_least (2 * C.length + 1) (uTo C f G (2 * C.length)) [] (List.range (2 * C.length + 1)) (fun e he => by
  have h:=uTo_lt hf e (by simpa using he)
  exact⟨h.1.2,h.2.2⟩) (least_nil _)
 simpa[uniM] using this
def goneB (C:List Cr) (G:List Nat) (a:Nat):Bool:=if a=0 then false else decide (toC C a∈G)
def stP (C:List Cr) (G:List Nat) (L:List Nat) (m v:Nat):Prop:=∃ a,a<m/\L.getD a 0=v/\goneB C G a=false
def thP (C:List Cr) (G:List Nat) (L:List Nat) (v:Nat):Prop:=∃ i s,i<C.length/\i ∉ G/\s<4/\L.getD ((C.getD i Cr.none).arc s).toNat 0=v
theorem nodup_sub:∀ (l m:List Nat),l.Nodup->(∀ x,x∈l->x∈m)->l.length<=m.length:=by
 intro l
 induction l with
 |nil=>intro m _ _;exact Nat.zero_le _
 |cons x l ih=>
  intro m hn hs
  obtain⟨h1,h2⟩:=List.nodup_cons.1 hn
  have hx:x∈m:=hs x (List.Mem.head _)
  have := ih (m.erase x) h2 (fun y hy => by
   have hne:y≠x:=fun e=>h1 (e▸hy)
   exact(List.mem_erase_of_ne hne).2 (hs y (List.Mem.tail _ hy)))
  have hl:=List.length_erase_of_mem hx
  have hp:=List.length_pos_of_mem hx
  simp only[List.length_cons]
  omega
theorem onto_class (f:Nat->Nat) (K:List Nat) (hn:K.Nodup) (hf:∀ a,a∈K->f a∈K) (hi:∀ a b,a∈K->b∈K->f a=f b->a=b) (y:Nat) (hy:y∈K):∃ x,x∈K/\f x=y:=by
 refine Classical.byContradiction fun h=>?_
 have hno:y ∉ K.map f:=fun hm=>by
  obtain⟨x,hx,e⟩:=List.mem_map.1 hm
  exact h ⟨x,hx,e⟩
 have hnm:(K.map f).Nodup:=List.pairwise_map.2 (hn.imp_of_mem fun ha hb hab e=>hab (hi _ _ ha hb e))
 have := nodup_sub (y :: K.map f) K (List.nodup_cons.2 ⟨hno, hnm⟩) (fun x hx => by
  rcases List.mem_cons.1 hx with rfl|hx
  · exact hy
  · obtain⟨z,hz,rfl⟩:=List.mem_map.1 hx
    exact hf z hz)
 simp only[List.length_cons,List.length_map]at this
 omega
structure Goes (C:List Cr) (f:Nat->Nat):Prop where
 closed:∀ a,1<=a->a<=2*C.length->1<=f a/\f a<=2*C.length
 inj:∀ a b,1<=a->a<=2*C.length->1<=b->b<=2*C.length->f a=f b->a=b
 out:∀ a,1<=a->a<=2*C.length->enC C (f a) false=toC C a
theorem st_th {C : List Cr} {loops : Int} (hm : mayD C loops = true) {f : Nat → Nat} (hf : Goes C f) (G : List Nat) (v : Nat) (h1 : 1 ≤ v) :
    thP C G (uniM C f G) v↔((uniM C f G).getD v 0=v/\stP C G (uniM C f G) (2*C.length+1) v):=by
 have hL:=uni_least (G:=G) hf.closed
 generalize hE:uniM C f G=L at hL ⊢
 have hpos:∀ e,e∈uTo C f G (2*C.length)->1<=e.1/\1<=e.2:=fun e he=>⟨(uTo_lt hf.closed e he).1.1,(uTo_lt hf.closed e he).2.1⟩
 constructor
 · rintro⟨i,s,hi,hG,hs,e⟩
   have ho:=en_one hm i s hi hs
   obtain⟨a,ha⟩:∃ a,((C.getD i Cr.none).arc s).toNat=a:=⟨_,rfl⟩
   rw[ha]at e ho
   obtain⟨a1,a2,a3⟩:=ho
   have hroot:=hL.root (v:=a) (by omega)
   rw[e]at hroot
   refine⟨hroot,?_⟩
   cases hc:(C.getD i Cr.none).comes s with
   |true=>
    rw[hc]at a3
    refine⟨a,by omega,e,?_⟩
    unfold goneB
    rw[if_neg (by omega)]
    have e3:toC C a=i:=a3
    rw[e3]
    simpa using hG
   |false=>
    rw[hc]at a3
    refine Classical.byContradiction fun hno=>?_
    have hall:∀ x,1<=x->x<=2*C.length->L.getD x 0=v->toC C x∈G:=fun x x1 x2 x3=>Classical.byContradiction fun hx=>hno ⟨x,by omega,x3,by unfold goneB;rw[if_neg (by omega)];simpa using hx⟩
    obtain⟨K,hK⟩:∃ K,K=(List.range (2*C.length+1)).filter (fun x=>decide (1<=x)&&decide (L.getD x 0=v)):=⟨_,rfl⟩
    have hmem:∀ x,x∈K↔(1<=x/\x<=2*C.length/\L.getD x 0=v):=fun x=>by
     rw[hK,List.mem_filter,List.mem_range]
     simp only[Bool.and_eq_true,decide_eq_true_eq]
     omega
    obtain ⟨x, hx, hfx⟩ := onto_class f K (by rw [hK]; exact List.nodup_range.filter _) (fun x hx => by
     obtain⟨x1,x2,x3⟩:=(hmem x).1 hx
     have hc2:=hf.closed x x1 x2
     refine(hmem _).2 ⟨hc2.1,hc2.2,?_⟩
     rw[<-x3]
     exact((hL.same (by omega) (by omega)).2 (Con.edge (mem_uTo.2 ⟨x,x1,x2,hall x x1 x2 x3,rfl⟩))).symm) (fun x y hx hy e=>by
     obtain⟨x1,x2,-⟩:=(hmem x).1 hx
     obtain⟨y1,y2,-⟩:=(hmem y).1 hy
     exact hf.inj x y x1 x2 y1 y2 e) a ((hmem a).2 ⟨a1,a2,e⟩)
    obtain⟨x1,x2,x3⟩:=(hmem x).1 hx
    have h5:=hf.out x x1 x2
    rw[hfx,a3]at h5
    exact hG (h5▸hall x x1 x2 x3)
 · rintro⟨hr,a,ha,e,hg⟩
   have a1:1<=a:=by
    rcases Nat.eq_zero_or_pos a with rfl|h
    · have:=hL.le (v:=0) (by omega)
      omega
    · exact h
   obtain⟨-,h4,h5,h6,h7⟩:=to_may hm a a1 (by omega)
   unfold goneB at hg
   rw[if_neg (by omega)]at hg
   exact⟨toC C a,toS C a,h4,by simpa using hg,h5,by rw[h6];exact e⟩
def cntB (P:Nat->Bool):Nat->Nat
 |0=>0
 |k+1=>cntB P k+(if 1<=k/\P k=true then 1 else 0)
theorem cntB_le (P:Nat->Bool) (k:Nat):cntB P k<=k:=by
 induction k with
 |zero=>exact Nat.le_refl _
 |succ k ih=>simp only[cntB];split<;>omega
def numM (L:List Nat) (P:Nat->Bool) (a:Nat):Nat:=if P (L.getD a 0)=true then cntB P (L.getD a 0)+1 else 0
def reX (h:Nat->Nat) (x:Cr):Cr:=⟨h x.a.toNat,h x.b.toNat,h x.c.toNat,h x.d.toNat,x.plus⟩
def reTo (C:List Cr) (G:List Nat) (h:Nat->Nat):Nat->List Cr
 |0=>[]
 |i+1=>reTo C G h i++(if i∈G then [] else [reX h (C.getD i Cr.none)])
theorem reTo_len (C:List Cr) (G:List Nat) (h:Nat->Nat) (i:Nat):(reTo C G h i).length<=i:=by
 induction i with
 |zero=>exact Nat.le_refl _
 |succ i ih=>simp only[reTo,List.length_append];split<;>simp<;>omega
theorem least_mem {E F:List (Nat×Nat)} (h:∀ e,e∈E↔e∈F) {n:Nat} {W:List Nat} (hl:Least E n W):Least F n W:=by
 have hc:∀ u v,Con E u v↔Con F u v:=fun u v=>⟨fun c S hS=>c S (fun e he=>hS e ((h e).1 he)),fun c S hS=>c S (fun e he=>hS e ((h e).2 he))⟩
 exact⟨hl.1,fun v hv=>⟨(hc _ _).1 (hl.2 v hv).1,fun u hu=>(hl.2 v hv).2 u ((hc _ _).2 hu)⟩⟩
theorem lev_three (e1 e2:Nat×Nat) (n:Nat) (hE:∀ e,e∈[e1,e2]->e.1<n/\e.2<n):Least [e1,e2] n (levR (List.range n) [e1,e2] 3):=by
 have h0:Lab [e1,e2] n (List.range n):=⟨by simp,fun v hv=>by simp[List.getD_eq_getElem?_getD,hv],fun v hv=>by simp[List.getD_eq_getElem?_getD,hv,Con.refl]⟩
 have hF:∀ e,e∈[e1,e2]->e.1<n/\e.2<n/\Con [e1,e2] e.1 e.2:=fun e he=>⟨(hE e he).1,(hE e he).2,Con.edge he⟩
 have hl:=fun r=>levR_lab hE h0 r
 -- where no edge has one end done and the other not, all are done
 have hall:∀ r,(∀ e,e∈[e1,e2]->(Done [e1,e2] (levR (List.range n) [e1,e2] r) e.1↔Done [e1,e2] (levR (List.range n) [e1,e2] r) e.2))->∀ v,v<n->Done [e1,e2] (levR (List.range n) [e1,e2] r) v:=fun r hc v hv=>by
  obtain⟨m,hm1,hm2⟩:=con_min [e1,e2] v
  have hmn:m<n:=Nat.lt_of_le_of_lt (hm2 v (Con.refl _ v)) hv
  have hmd:Done [e1,e2] (levR (List.range n) [e1,e2] r) m:=fun u hu=>Nat.le_trans ((hl r).le m hmn) (hm2 u (hm1.trans hu))
  exact hm1.symm (fun z=>Done [e1,e2] (levR (List.range n) [e1,e2] r) z) hc hmd
 have step:∀ r e,e∈[e1,e2]->(Done [e1,e2] (levR (List.range n) [e1,e2] r) e.1∨Done [e1,e2] (levR (List.range n) [e1,e2] r) e.2)->Done [e1,e2] (levR (List.range n) [e1,e2] (r+1)) e.1/\Done [e1,e2] (levR (List.range n) [e1,e2] (r+1)) e.2:=fun r e he hd=>levs_done [e1,e2] hF e he _ (hl r) hd
 have m1:e1∈[e1,e2]:=List.Mem.head _
 have m2:e2∈[e1,e2]:=List.Mem.tail _ (List.Mem.head _)
 have none_all:∀ r,(∀ v,v<n->Done [e1,e2] (levR (List.range n) [e1,e2] r) v)->∀ v,v<n->Done [e1,e2] (levR (List.range n) [e1,e2] (r+1)) v:=fun r h v hv u hu=>Nat.le_trans ((levs_lab [e1,e2] hF _ (hl r)).2 v) (h v hv u hu)
 have fin:∀ v,v<n->Done [e1,e2] (levR (List.range n) [e1,e2] 3) v:=by
  by_cases a1:Done [e1,e2] (levR (List.range n) [e1,e2] 0) e1.1∨Done [e1,e2] (levR (List.range n) [e1,e2] 0) e1.2
  · have b1:=step 0 e1 m1 a1
    have c1:=step 1 e1 m1 (Or.inl b1.1)
    by_cases a2:Done [e1,e2] (levR (List.range n) [e1,e2] 1) e2.1∨Done [e1,e2] (levR (List.range n) [e1,e2] 1) e2.2
    · have c2:=step 1 e2 m2 a2
      refine none_all 2 (hall 2 fun e he=>?_)
      rcases List.mem_cons.1 he with rfl|he
      · exact⟨fun _=>c1.2,fun _=>c1.1⟩
      · obtain rfl:e=e2:=by simpa using he
        exact⟨fun _=>c2.2,fun _=>c2.1⟩
    · have := hall 1 fun e he => by
        rcases List.mem_cons.1 he with rfl|he
        · exact⟨fun _=>b1.2,fun _=>b1.1⟩
        · obtain rfl:e=e2:=by simpa using he
          exact⟨fun h=>absurd (Or.inl h) a2,fun h=>absurd (Or.inr h) a2⟩
      exact none_all 2 (none_all 1 this)
  · by_cases a2:Done [e1,e2] (levR (List.range n) [e1,e2] 0) e2.1∨Done [e1,e2] (levR (List.range n) [e1,e2] 0) e2.2
    · have b2:=step 0 e2 m2 a2
      have c2:=step 1 e2 m2 (Or.inl b2.1)
      by_cases a3:Done [e1,e2] (levR (List.range n) [e1,e2] 1) e1.1∨Done [e1,e2] (levR (List.range n) [e1,e2] 1) e1.2
      · have c1:=step 1 e1 m1 a3
        refine none_all 2 (hall 2 fun e he=>?_)
        rcases List.mem_cons.1 he with rfl|he
        · exact⟨fun _=>c1.2,fun _=>c1.1⟩
        · obtain rfl:e=e2:=by simpa using he
          exact⟨fun _=>c2.2,fun _=>c2.1⟩
      · have := hall 1 fun e he => by
          rcases List.mem_cons.1 he with rfl|he
          · exact⟨fun h=>absurd (Or.inl h) a3,fun h=>absurd (Or.inr h) a3⟩
          · obtain rfl:e=e2:=by simpa using he
            exact⟨fun _=>b2.2,fun _=>b2.1⟩
        exact none_all 2 (none_all 1 this)
    · have := hall 0 fun e he => by
        rcases List.mem_cons.1 he with rfl|he
        · exact⟨fun h=>absurd (Or.inl h) a1,fun h=>absurd (Or.inr h) a1⟩
        · obtain rfl:e=e2:=by simpa using he
          exact⟨fun h=>absurd (Or.inl h) a2,fun h=>absurd (Or.inr h) a2⟩
      exact none_all 2 (none_all 1 (none_all 0 this))
 exact⟨(hl 3).len,fun v hv=>⟨(hl 3).con v hv,fin v hv⟩⟩
theorem sx_comes {C:List Cr} (a:Nat):(C.getD (toC C a) Cr.none).comes (sxS C a)=false:=by
 unfold sxS
 generalize C.getD (toC C a) Cr.none=x
 split
 · rfl
 · split
   · rename_i h;simp[Cr.comes,h]
   · rename_i h;simp[Cr.comes];simpa using h
theorem sx_goes {C:List Cr} {loops:Int} (hm:mayD C loops=true):Goes C (sx C) where
 closed:=sx_closed hm
 inj:=fun a b a1 a2 b1 b2 e=>by
  have ha:=sx_may hm a a1 a2
  have hb:=sx_may hm b b1 b2
  obtain⟨-,i1,s1,r1,q1⟩:=to_may hm a a1 a2
  obtain⟨-,i2,s2,r2,q2⟩:=to_may hm b b1 b2
  have ea:=end_one hm (sx C a) ha.2.1 ha.2.2 false (toC C a) (sxS C a) i1 (sxS_lt C a) ha.1 (sx_comes a)
  have eb:=end_one hm (sx C b) hb.2.1 hb.2.2 false (toC C b) (sxS C b) i2 (sxS_lt C b) hb.1 (sx_comes b)
  rw[e,eb]at ea
  have hc:toC C b=toC C a:=by have h:=congrArg Prod.fst ea;simp only at h;omega
  have hs:sxS C b=sxS C a:=by have h:=congrArg Prod.snd ea;simp only at h;omega
  rw[hc]at r2 q2
  have ht:toS C a=toS C b:=by
   unfold sxS at hs
   rw[hc]at hs
   generalize C.getD (toC C a) Cr.none=x at r1 q1 r2 q2 hs
   generalize toS C a=s at s1 r1 q1 hs ⊢
   generalize toS C b=t at s2 r2 q2 hs ⊢
   have k1:s=0∨(s=1/\x.plus=false)∨(s=3/\x.plus=true):=by
    match s,s1,q1 with
    |0,_,_=>exact Or.inl rfl
    |1,_,q=>exact Or.inr (Or.inl ⟨rfl,by simpa[Cr.comes] using q⟩)
    |2,_,q=>simp[Cr.comes]at q
    |3,_,q=>exact Or.inr (Or.inr ⟨rfl,by simpa[Cr.comes] using q⟩)
   have k2:t=0∨(t=1/\x.plus=false)∨(t=3/\x.plus=true):=by
    match t,s2,q2 with
    |0,_,_=>exact Or.inl rfl
    |1,_,q=>exact Or.inr (Or.inl ⟨rfl,by simpa[Cr.comes] using q⟩)
    |2,_,q=>simp[Cr.comes]at q
    |3,_,q=>exact Or.inr (Or.inr ⟨rfl,by simpa[Cr.comes] using q⟩)
   rcases k1 with rfl|⟨rfl,p1⟩|⟨rfl,p1⟩<;>rcases k2 with rfl|⟨rfl,p2⟩|⟨rfl,p2⟩<;>first|rfl|(simp[p1]at hs;done)|(simp[p2]at hs;done)|(rw[p1]at p2;cases p2)
  rw[ht,r2]at r1
  omega
 out:=fun a a1 a2=>by
  have ha:=sx_may hm a a1 a2
  obtain⟨-,i1,-,-,-⟩:=to_may hm a a1 a2
  have ea:=end_one hm (sx C a) ha.2.1 ha.2.2 false (toC C a) (sxS C a) i1 (sxS_lt C a) ha.1 (sx_comes a)
  unfold enC
  rw[ea]
  rfl
def smE (C:List Cr) (k:Nat):List (Nat×Nat):=if(C.getD k Cr.none).plus=true then [((C.getD k Cr.none).a.toNat,(C.getD k Cr.none).b.toNat),((C.getD k Cr.none).d.toNat,(C.getD k Cr.none).c.toNat)] else [((C.getD k Cr.none).a.toNat,(C.getD k Cr.none).d.toNat),((C.getD k Cr.none).b.toNat,(C.getD k Cr.none).c.toNat)]
theorem to_side {C:List Cr} {loops:Int} (hm:mayD C loops=true) (k s:Nat) (hk:k<C.length) (hs:s<4) (hc:(C.getD k Cr.none).comes s=true):1<=((C.getD k Cr.none).arc s).toNat/\((C.getD k Cr.none).arc s).toNat<=2*C.length/\toC C ((C.getD k Cr.none).arc s).toNat=k/\toS C ((C.getD k Cr.none).arc s).toNat=s:=by
 have hf:=may_fit hm k s hk hs
 have g1:=hf.1
 have g2:=hf.2.1
 have ha:1<=((C.getD k Cr.none).arc s).toNat/\((C.getD k Cr.none).arc s).toNat<=2*C.length:=by omega
 have e:=end_one hm _ ha.1 ha.2 true k s hk hs (by omega) hc
 refine⟨ha.1,ha.2,?_,?_⟩
 · unfold toC;rw[e];rfl
 · unfold toS;rw[e];rfl
theorem mem_smE {C:List Cr} {loops:Int} (hm:mayD C loops=true) (k:Nat) (hk:k<C.length) (e:Nat×Nat):e∈uTo C (sx C) [k] (2*C.length)↔e∈smE C k:=by
 rw[mem_uTo]
 constructor
 · rintro⟨a,a1,a2,hg,rfl⟩
   have hk2:toC C a=k:=by simpa using hg
   obtain⟨-,-,s1,r1,q1⟩:=to_may hm a a1 a2
   rw[hk2]at r1 q1
   unfold smE sx sxS
   rw[hk2]
   generalize C.getD k Cr.none=x at r1 q1 ⊢
   generalize toS C a=s at s1 r1 q1 ⊢
   obtain⟨xa,xb,xc,xd,xp⟩:=x
   match s,s1,q1,r1 with
   |0,_,_,r=>
    have:xa.toNat=a:=by simp[Cr.arc]at r;omega
    cases xp<;>simp[Cr.arc,this]
   |1,_,q,r=>
    have hp:xp=false:=by simpa[Cr.comes] using q
    have:xb.toNat=a:=by simp[Cr.arc]at r;omega
    subst hp
    simp[Cr.arc,this]
   |2,_,q,_=>simp[Cr.comes]at q
   |3,_,q,r=>
    have hp:xp=true:=by simpa[Cr.comes] using q
    have:xd.toNat=a:=by simp[Cr.arc]at r;omega
    subst hp
    simp[Cr.arc,this]
 · intro he
   have t0:=to_side hm k 0 hk (by omega) (by simp[Cr.comes])
   have t1:(C.getD k Cr.none).plus=false->_:=fun hp=>to_side hm k 1 hk (by omega) (by unfold Cr.comes;rw[hp];rfl)
   have t3:(C.getD k Cr.none).plus=true->_:=fun hp=>to_side hm k 3 hk (by omega) (by unfold Cr.comes;rw[hp];rfl)
   unfold smE at he
   cases hp:(C.getD k Cr.none).plus with
   |true=>
    rw[if_pos hp]at he
    have t3:=t3 hp
    rcases List.mem_cons.1 he with rfl|he
    · refine⟨((C.getD k Cr.none).arc 0).toNat,t0.1,t0.2.1,by rw[t0.2.2.1];simp,?_⟩
      unfold sx sxS
      rw[t0.2.2.1,t0.2.2.2,hp]
      rfl
    · obtain rfl:=List.mem_singleton.1 he
      refine⟨((C.getD k Cr.none).arc 3).toNat,t3.1,t3.2.1,by rw[t3.2.2.1];simp,?_⟩
      unfold sx sxS
      rw[t3.2.2.1,t3.2.2.2]
      rfl
   |false=>
    rw[if_neg (by rw[hp];simp)]at he
    have t1:=t1 hp
    rcases List.mem_cons.1 he with rfl|he
    · refine⟨((C.getD k Cr.none).arc 0).toNat,t0.1,t0.2.1,by rw[t0.2.2.1];simp,?_⟩
      unfold sx sxS
      rw[t0.2.2.1,t0.2.2.2,hp]
      rfl
    · obtain rfl:=List.mem_singleton.1 he
      refine⟨((C.getD k Cr.none).arc 1).toNat,t1.1,t1.2.1,by rw[t1.2.2.1];simp,?_⟩
      unfold sx sxS
      rw[t1.2.2.1,t1.2.2.2]
      rfl
theorem smooth_levels {C:List Cr} {loops:Int} (hm:mayD C loops=true) (k:Nat) (hk:k<C.length):levR (List.range (2*C.length+1)) (smE C k) 3=uniM C (sx C) [k]:=by
 have h1:=least_mem (mem_smE hm k hk) (uni_least (G:=[k]) (sx_goes hm).closed)
 refine Least.eq ?_ h1
 have hE:∀ e,e∈smE C k->e.1<2*C.length+1/\e.2<2*C.length+1:=fun e he=>by
  have:=uTo_lt (G:=[k]) (sx_goes hm).closed e ((mem_smE hm k hk e).2 he)
  exact⟨this.1.2,this.2.2⟩
 revert hE
 unfold smE
 split
 · intro hE;exact lev_three _ _ _ hE
 · intro hE;exact lev_three _ _ _ hE
end Go.Proofs.Ytefooihnoajnlaa
/- Homfly's polynomial by descents: going aside at a crossing is walking the diagram that is smoothed there; plain mathematics. -/
namespace Go.Proofs.Ytefooihnoajnlaa
def lpU (S:Sys) (φ L:Nat->Nat) (w:Nat->Bool):Nat:=cnP (fun p=>decide (φ p=0)&&decide (L p=p)&&!w p) S.N
theorem lpU_same {S:Sys} {φ L:Nat->Nat} {w:Nat->Bool} {a:Nat} (h:φ a≠0∨L a≠a):lpU S φ L (upd w a true)=lpU S φ L w:=by
 refine cnP_congr S.N (fun b _ _=>?_)
 by_cases e:b=a
 · subst e
   rcases h with h|h
   · rw[decide_eq_false h];rfl
   · rw[decide_eq_false h,Bool.and_false];rfl
 · rw[upd_other _ _ e]
theorem lpU_less {S:Sys} {φ L:Nat->Nat} {w:Nat->Bool} {a:Nat} (h1:1<=a) (h2:a<=S.N) (h0:φ a=0) (hl:L a=a) (hw:w a=false):lpU S φ L w=lpU S φ L (upd w a true)+1:=
 cnP_less h1 (by simp[h0,hl,hw]) (by simp[upd_same]) S.N h2 (fun b _ _ hb=>by simp[upd_other _ _ hb])
structure Bs (S:Sys) (k:Nat) (φ ρ:Nat->Nat) (w tw:Nat->Bool) (ways tways:Nat->Nat):Prop where
 wr:∀ a,1<=a->a<=S.N->S.cr a≠k->tw (φ a)=w a
 wy:∀ a,1<=a->a<=S.N->S.cr a≠k->tways (ρ (S.cr a))=ways (S.cr a)
 k2:ways k=2
inductive Md (S T:Sys) (k:Nat) (φ L:Nat->Nat) (s t:Dst):Prop
 |both (st:Nat) (run:Run S s st) (f1:1<=φ s.arc) (at_:t.arc=φ s.arc) (un:t.w (φ s.arc)=false) (r:t.r=s.r+lpU S φ L s.w):Md S T k φ L s t
 |last (st:Nat) (run:Run S s st) (pk:S.cr s.arc=k) (f1:1<=φ s.arc) (at_:t.arc=lowU T.N t.w) (un:t.w (φ s.arc)=true) (r:t.r=s.r+1+lpU S φ L s.w):Md S T k φ L s t
 |loop (st:Nat) (run:Run S s st) (pk:S.cr s.arc=k) (f1:φ s.arc=0) (at_:t.arc=lowU T.N t.w) (r:(L s.arc=s.arc/\t.r=s.r+lpU S φ L s.w)∨(L s.arc≠s.arc/\s.w (L s.arc)=true/\t.r=s.r+lpU S φ L s.w+1)):Md S T k φ L s t
 |done (h1:S.N<s.arc) (h2:T.N<t.arc) (r:t.r=s.r):Md S T k φ L s t
section
variable {S T:Sys} {k:Nat} {φ L ρ:Nat->Nat} (h:Col S T k φ L ρ)
include h
theorem Col.pa_out {p:Nat} (h1:1<=p) (h2:p<=S.N) (hp:S.cr p=k) (hf:1<=φ p):(S.cr (S.sx p)≠k/\φ (S.sx p)=φ p)∨(S.cr (S.sx p)=k/\S.sx p≠p/\S.cr (S.sx (S.sx p))≠k/\φ (S.sx p)=φ p/\φ (S.sx (S.sx p))=φ p):=by
 have e1:=h.pa p h1 h2 hp
 obtain⟨q1,q2⟩:=h.sx_in h1 h2
 rcases h.out h1 h2 hp with o|⟨o1,o2,o3⟩|o|⟨o1,o2,o3⟩
 · exact Or.inl ⟨o,e1⟩
 · exact Or.inr ⟨o1,o2,o3,e1,by rw[h.pa _ q1 q2 o1,e1]⟩
 · have:=h.lz p h1 h2 hp (Or.inl o);omega
 · have:=h.lz p h1 h2 hp (Or.inr ⟨o1,o3⟩);omega
theorem Col.fin_pass {w tw:Nat->Bool} {ways tways:Nat->Nat} (b:Bs S k φ ρ w tw ways tways) (hF:Fin S w ways) {p:Nat} (h1:1<=p) (h2:p<=S.N) (hf:1<=φ p):tw (φ p)=w p:=by
 by_cases hp:S.cr p=k
 · obtain⟨q1,q2⟩:=h.sx_in h1 h2
   have back:∀ z,1<=z->z<=S.N->S.cr z=k->w (S.sx z)=true->w z=true:=fun z z1 z2 zk hz=>by
    obtain⟨y,y1,y2⟩:=hF.prd _ hz
    have yin:=hF.win y y1
    rw[<-nx_pass b.k2 zk]at y2
    rwa [h.g.inj ways y z yin.1 yin.2 z1 z2 y2]at y1
   have forth:∀ z,S.cr z=k->w z=true->w (S.sx z)=true:=fun z zk hz=>by
    have:=hF.fwd z hz
    rwa [nx_pass b.k2 zk]at this
   rcases h.pa_out h1 h2 hp hf with⟨o,e⟩|⟨o1,o2,o3,e1,e2⟩
   · rw[<-e,b.wr _ q1 q2 o]
     cases hw:w p with
     |true=>exact forth p hp hw
     |false=>
      cases hs:w (S.sx p) with
      |false=>rfl
      |true=>rw[back p h1 h2 hp hs]at hw;cases hw
   · obtain⟨u1,u2⟩:=h.sx_in q1 q2
     rw[<-e2,b.wr _ u1 u2 o3]
     cases hw:w p with
     |true=>exact forth _ o1 (forth p hp hw)
     |false=>
      cases hs:w (S.sx (S.sx p)) with
      |false=>rfl
      |true=>rw[back p h1 h2 hp (back _ q1 q2 o1 hs)]at hw;cases hw
 · exact b.wr p h1 h2 hp
theorem Col.again {w tw:Nat->Bool} {ways tways:Nat->Nat} (b:Bs S k φ ρ w tw ways tways) (hF:Fin S w ways) {r tr:Nat} (hr:tr=r+lpU S φ L w):Md S T k φ L ⟨lowU S.N w,w,ways,r⟩ ⟨lowU T.N tw,tw,tways,tr⟩:=by
 obtain⟨l1,l2,l3,l4⟩:=lowU_is (N:=S.N) (w:=w)
 by_cases hx:lowU S.N w<=S.N
 · have run:=hF.start (r:=r) hx
   by_cases hf:1<=φ (lowU S.N w)
   · have un:tw (φ (lowU S.N w))=false:=by rw[h.fin_pass b hF l1 hx hf];exact l4 hx
     have low:lowU T.N tw=φ (lowU S.N w):=by
      have le:φ (lowU S.N w)<=T.N:=by
       by_cases hk:S.cr (lowU S.N w)=k
       · obtain⟨q1,q2⟩:=h.sx_in l1 hx
         rcases h.pa_out l1 hx hk hf with⟨o,e⟩|⟨o1,o2,o3,e1,e2⟩
         · rw[<-e];exact(h.ex _ q1 q2 o).2
         · obtain⟨u1,u2⟩:=h.sx_in q1 q2
           rw[<-e2];exact(h.ex _ u1 u2 o3).2
       · exact(h.ex _ l1 hx hk).2
      refine lowU_eq hf (by omega) (fun c c1 c2=>?_) (fun _=>un)
      obtain⟨a,a1,a2,a3,rfl⟩:=h.sur c c1 (by omega)
      have hL:=h.lo a a1 a2
      have hl:=h.ord a _ a1 a2 l1 hx c1 c2
      have hl2:=(h.lo _ l1 hx).2.1
      have hwl:=l3 (L a) hL.1 (by omega)
      rw[<-hL.2.2,h.fin_pass b hF hL.1 (by omega) (by rw[hL.2.2];exact c1)]
      exact hwl
     exact .both _ run hf low un hr
   · have f0:φ (lowU S.N w)=0:=by omega
     have hk:S.cr (lowU S.N w)=k:=Decidable.byContradiction fun hk=>hf (h.ex _ l1 hx hk).1
     have hL:L (lowU S.N w)=lowU S.N w:=by
      obtain⟨L1,L2,L3⟩:=h.lo _ l1 hx
      refine Decidable.byContradiction fun hne=>?_
      have hw:=l3 _ L1 (by omega)
      have hLk:S.cr (L (lowU S.N w))=k:=Decidable.byContradiction fun hq=>by
       have:=(h.ex _ L1 (by omega) hq).1
       omega
      obtain⟨q1,q2⟩:=h.sx_in L1 (show L (lowU S.N w)<=S.N by omega)
      have hsw:w (S.sx (L (lowU S.N w)))=true:=by
       have:=hF.fwd _ hw
       rwa [nx_pass b.k2 hLk]at this
      have hqk:S.cr (S.sx (L (lowU S.N w)))=k:=Decidable.byContradiction fun hq=>by
       have:=(h.ex _ q1 q2 hq).1
       rw[h.pa _ L1 (by omega) hLk]at this
       omega
      rcases h.two (lowU S.N w) (L (lowU S.N w)) (S.sx (L (lowU S.N w))) l1 hx L1 (by omega) q1 q2 hk hLk hqk with f|f|f
      · exact hne f.symm
      · obtain⟨v1,v2⟩:=h.sx_in l1 hx
        have hvk:S.cr (S.sx (lowU S.N w))=k:=Decidable.byContradiction fun hq=>by
         have:=(h.ex _ v1 v2 hq).1
         rw[h.pa _ l1 hx hk]at this
         omega
        rcases h.two (lowU S.N w) (L (lowU S.N w)) (S.sx (lowU S.N w)) l1 hx L1 (by omega) v1 v2 hk hLk hvk with f2|f2|f2
        · exact hne f2.symm
        · exact hne (h.sx_inj L1 (by omega) l1 hx (f.symm.trans f2))
        · exact hne (h.l1 _ l1 hx hk f2.symm)
      · rw[<-f]at hsw
        rw[l4 hx]at hsw
        cases hsw
     exact .loop _ run hk f0 rfl (Or.inl ⟨hL,hr⟩)
 · have hF1:∀ a,1<=a->a<=S.N->w a=true:=fun a a1 a2=>l3 a a1 (by omega)
   have z:lpU S φ L w=0:=cnP_zero S.N (fun a a1 a2=>by rw[hF1 a a1 a2];simp)
   refine .done (by show S.N<lowU S.N w;omega) ?_ (by show tr=r;omega)
   show T.N<lowU T.N tw
   obtain⟨t1,t2,t3,t4⟩:=lowU_is (N:=T.N) (w:=tw)
   refine Nat.lt_of_not_le fun hle=>?_
   obtain⟨a,a1,a2,a3,e⟩:=h.sur _ t1 hle
   have:=t4 hle
   rw[<-e,b.wr a a1 a2 a3,hF1 a a1 a2]at this
   cases this
theorem Col.after {s t : Dst} {st : Nat} (b : Bs S k φ ρ s.w t.w s.ways t.ways) (run : Run S s st) (he : S.cr s.arc ≠ k) (hr : t.r = s.r + lpU S φ L s.w) {ways tways : Nat → Nat} (hm : More S s ways) (hy : ∀ a, 1 ≤ a → a ≤ S.N → S.cr a ≠ k → tways (ρ (S.cr a)) = ways (S.cr a)) (hk : ways k = 2) :
    Bs S k φ ρ (onw S (upd s.w s.arc true) ways s.arc s.r).w (onw T (upd t.w (φ s.arc) true) tways (φ s.arc) t.r).w (onw S (upd s.w s.arc true) ways s.arc s.r).ways (onw T (upd t.w (φ s.arc) true) tways (φ s.arc) t.r).ways/\
    Md S T k φ L (onw S (upd s.w s.arc true) ways s.arc s.r) (onw T (upd t.w (φ s.arc) true) tways (φ s.arc) t.r):=by
 have a1:=run.a1
 have a2:=run.a2
 have hb : Bs S k φ ρ (upd s.w s.arc true) (upd t.w (φ s.arc) true) ways tways := ⟨fun a h1 h2 h3 => by
  by_cases e:a=s.arc
  · rw[e,upd_same,upd_same]
  · rw[upd_other _ _ e,upd_other _ _ (fun q=>e (h.exi a s.arc h1 h2 a1 a2 h3 he q)),b.wr a h1 h2 h3],hy,hk⟩
 have hl:lpU S φ L (upd s.w s.arc true)=lpU S φ L s.w:=lpU_same (Or.inl (by have:=(h.ex _ a1 a2 he).1;omega))
 have hT:nxW T tways (φ s.arc)=φ (nxW S ways s.arc):=by
  unfold nxW
  rw[h.crT _ a1 a2 he,hy _ a1 a2 he]
  split
  · exact h.sxT _ a1 a2 he
  · exact h.ahT _ a1 a2 he
 have hz:1<=φ (nxW S ways s.arc):=by
  unfold nxW
  split
  · exact(h.nz _ a1 a2 he).2
  · exact(h.nz _ a1 a2 he).1
 obtain⟨x1,x2⟩:=h.g.cl ways s.arc a1 a2
 have oS:onw S (upd s.w s.arc true) ways s.arc s.r=if upd s.w s.arc true (nxW S ways s.arc)=true then⟨lowU S.N (upd s.w s.arc true),upd s.w s.arc true,ways,s.r+1⟩ else⟨nxW S ways s.arc,upd s.w s.arc true,ways,s.r⟩:=rfl
 have oT:onw T (upd t.w (φ s.arc) true) tways (φ s.arc) t.r=if upd t.w (φ s.arc) true (φ (nxW S ways s.arc))=true then⟨lowU T.N (upd t.w (φ s.arc) true),upd t.w (φ s.arc) true,tways,t.r+1⟩ else⟨φ (nxW S ways s.arc),upd t.w (φ s.arc) true,tways,t.r⟩:=by
  show(if upd t.w (φ s.arc) true (nxW T tways (φ s.arc))=true then _ else _)=_
  rw[hT]
 rw[oS,oT]
 by_cases hx:upd s.w s.arc true (nxW S ways s.arc)=true
 · rw[if_pos hx]
   have hF:=run.close h.g hm hx
   have:upd t.w (φ s.arc) true (φ (nxW S ways s.arc))=true:=by rw[h.fin_pass hb hF x1 x2 hz];exact hx
   rw[if_pos this]
   exact⟨hb,h.again hb hF (by omega)⟩
 · rw[if_neg hx]
   have hx':upd s.w s.arc true (nxW S ways s.arc)=false:=by simpa using hx
   have hR:=run.next h.g hm (r:=s.r) hx'
   by_cases hu:upd t.w (φ s.arc) true (φ (nxW S ways s.arc))=true
   · rw[if_pos hu]
     have hp:S.cr (nxW S ways s.arc)=k:=Decidable.byContradiction fun hq=>hx (by rw[<-hb.wr _ x1 x2 hq];exact hu)
     exact⟨hb,.last st hR hp hz rfl hu (by show t.r+1=s.r+1+lpU S φ L (upd s.w s.arc true);omega)⟩
   · rw[if_neg hu]
     exact⟨hb,.both st hR hz rfl (by simpa using hu) (by show t.r=s.r+lpU S φ L (upd s.w s.arc true);omega)⟩
theorem Col.through {s t : Dst} (b : Bs S k φ ρ s.w t.w s.ways t.ways) (m : Md S T k φ L s t) (hp : S.cr s.arc = k) (hN : s.arc ≤ S.N) :
    Bs S k φ ρ (onw S (upd s.w s.arc true) s.ways s.arc s.r).w t.w (onw S (upd s.w s.arc true) s.ways s.arc s.r).ways t.ways/\Md S T k φ L (onw S (upd s.w s.arc true) s.ways s.arc s.r) t:=by
 have hb:Bs S k φ ρ (upd s.w s.arc true) t.w s.ways t.ways:=⟨fun a h1 h2 h3=>by rw[upd_other _ _ (fun e=>h3 (by rw[e];exact hp)),b.wr a h1 h2 h3],b.wy,b.k2⟩
 have hm:More S s s.ways:=⟨fun _ _=>rfl,by rw[hp,b.k2];decide⟩
 have hn:nxW S s.ways s.arc=S.sx s.arc:=nx_pass b.k2 hp
 have oS:onw S (upd s.w s.arc true) s.ways s.arc s.r=if upd s.w s.arc true (S.sx s.arc)=true then⟨lowU S.N (upd s.w s.arc true),upd s.w s.arc true,s.ways,s.r+1⟩ else⟨S.sx s.arc,upd s.w s.arc true,s.ways,s.r⟩:=by
  show(if upd s.w s.arc true (nxW S s.ways s.arc)=true then _ else _)=_
  rw[hn]
 rw[oS]
 cases m with
 |both st run f1 at_ un r=>
  obtain⟨q1,q2⟩:=h.sx_in run.a1 run.a2
  have hq:s.w (S.sx s.arc)=false/\S.sx s.arc≠s.arc/\φ (S.sx s.arc)=φ s.arc:=by
   rcases h.pa_out run.a1 run.a2 hp f1 with⟨o,e⟩|⟨o1,o2,o3,e1,e2⟩
   · exact⟨by rw[<-b.wr _ q1 q2 o,e];exact un,fun e2=>o (by rw[e2];exact hp),e⟩
   · obtain⟨u1,u2⟩:=h.sx_in q1 q2
     have hu:s.w (S.sx (S.sx s.arc))=false:=by rw[<-b.wr _ u1 u2 o3,e2];exact un
     refine⟨?_,o2,e1⟩
     cases hw:s.w (S.sx s.arc) with
     |false=>rfl
     |true=>
      rcases run.fwd _ hw with f|f
      · rw[nx_pass b.k2 o1,hu]at f;cases f
      · rw[nx_pass b.k2 o1]at f;exact(o3 (by rw[f];exact hp)).elim
  have hx:upd s.w s.arc true (S.sx s.arc)=false:=by rw[upd_other _ _ hq.2.1];exact hq.1
  rw[if_neg (by rw[hx];decide)]
  have hR:=run.next h.g hm (r:=s.r) (by rw[hn];exact hx)
  rw[hn]at hR
  have hl:lpU S φ L (upd s.w s.arc true)=lpU S φ L s.w:=lpU_same (Or.inl (by omega))
  exact⟨hb,.both st hR (by show 1<=φ (S.sx s.arc);omega) (by show t.arc=φ (S.sx s.arc);rw[hq.2.2];exact at_) (by show t.w (φ (S.sx s.arc))=false;rw[hq.2.2];exact un) (by show t.r=s.r+lpU S φ L (upd s.w s.arc true);omega)⟩
 |last st run pk f1 at_ un r=>
  have hl:lpU S φ L (upd s.w s.arc true)=lpU S φ L s.w:=lpU_same (Or.inl (by omega))
  by_cases hx:upd s.w s.arc true (S.sx s.arc)=true
  · rw[if_pos hx]
    have hF:=run.close h.g hm (by rw[hn];exact hx)
    have e:t=⟨lowU T.N t.w,t.w,t.ways,t.r⟩:=by rw[<-at_]
    refine⟨hb,?_⟩
    rw[e]
    exact h.again hb hF (by omega)
  · rw[if_neg hx]
    have hR:=run.next h.g hm (r:=s.r) (by rw[hn];simpa using hx)
    rw[hn]at hR
    obtain⟨q1,q2⟩:=h.sx_in run.a1 run.a2
    have hq:S.cr (S.sx s.arc)=k/\φ (S.sx s.arc)=φ s.arc:=by
     rcases h.pa_out run.a1 run.a2 hp f1 with⟨o,e⟩|⟨o1,o2,o3,e1,e2⟩
     · exfalso
       apply hx
       rw[upd_other _ _ (fun e2=>o (by rw[e2];exact hp)),<-b.wr _ q1 q2 o,e]
       exact un
     · exact⟨o1,e1⟩
    exact⟨hb,.last st hR hq.1 (by show 1<=φ (S.sx s.arc);omega) at_ (by show t.w (φ (S.sx s.arc))=true;rw[hq.2];exact un) (by show t.r=s.r+1+lpU S φ L (upd s.w s.arc true);omega)⟩
 |loop st run pk f1 at_ r=>
  obtain⟨q1,q2⟩:=h.sx_in run.a1 run.a2
  have e1:=h.pa _ run.a1 run.a2 hp
  have hqk:S.cr (S.sx s.arc)=k:=Decidable.byContradiction fun hq=>by have:=(h.ex _ q1 q2 hq).1;omega
  have eT:t=⟨lowU T.N t.w,t.w,t.ways,t.r⟩:=by rw[<-at_]
  by_cases hx:upd s.w s.arc true (S.sx s.arc)=true
  · rw[if_pos hx]
    have hF:=run.close h.g hm (by rw[hn];exact hx)
    refine⟨hb,?_⟩
    rw[eT]
    refine h.again hb hF ?_
    rcases r with⟨r1,r2⟩|⟨r1,r2,r3⟩
    · have:=lpU_less run.a1 run.a2 f1 r1 run.un;omega
    · have:lpU S φ L (upd s.w s.arc true)=lpU S φ L s.w:=lpU_same (Or.inr r1);omega
  · rw[if_neg hx]
    have hR:=run.next h.g hm (r:=s.r) (by rw[hn];simpa using hx)
    rw[hn]at hR
    have hne:S.sx s.arc≠s.arc:=fun e=>hx (by rw[e];exact upd_same _ _ _)
    have hqu:s.w (S.sx s.arc)=false:=by rw[upd_other _ _ hne]at hx;simpa using hx
    have hLp:=h.lp _ run.a1 run.a2 hp
    rcases r with⟨r1,r2⟩|⟨r1,r2,r3⟩
    · have hl:=lpU_less run.a1 run.a2 f1 r1 run.un
      refine⟨hb,.loop st hR hqk (by show φ (S.sx s.arc)=0;omega) at_ (Or.inr ⟨?_,?_,?_⟩)⟩
      · show L (S.sx s.arc)≠S.sx s.arc
        rw[hLp,r1]
        exact fun e=>hne e.symm
      · show upd s.w s.arc true (L (S.sx s.arc))=true
        rw[hLp,r1]
        exact upd_same _ _ _
      · show t.r=s.r+lpU S φ L (upd s.w s.arc true)+1
        omega
    · exfalso
      obtain⟨L1,L2,L3⟩:=h.lo _ run.a1 run.a2
      have hLk:S.cr (L s.arc)=k:=Decidable.byContradiction fun hq=>by have:=(h.ex _ L1 (by omega) hq).1;omega
      rcases h.two s.arc (L s.arc) (S.sx s.arc) run.a1 run.a2 L1 (by omega) q1 q2 hp hLk hqk with f|f|f
      · exact r1 f.symm
      · rw[<-f,r2]at hqu;cases hqu
      · exact hne f.symm
 |done h1 h2 r=>omega
theorem Col.walk:∀ (m:Nat) (s t:Dst) (m2:Nat),unw S.N s.w<=m->unw T.N t.w<=m2->Bs S k φ ρ s.w t.w s.ways t.ways->Md S T k φ L s t->wk S m s=wk T m2 t:=by
 intro m
 induction m with
 |zero=>
  intro s t m2 hu hu2 b md
  have hd:∀ st,Run S s st->False:=fun st run=>by have:=unw_pos run.a1 run.a2 run.un;omega
  cases md with
  |both st run _ _ _ _=>exact(hd st run).elim
  |last st run _ _ _ _ _=>exact(hd st run).elim
  |loop st run _ _ _ _=>exact(hd st run).elim
  |done h1 h2 r=>
   cases m2 with
   |zero=>show pwR s.r=pwR t.r;rw[r]
   |succ m2=>
    show pwR s.r=if t.arc=0∨T.N<t.arc then pwR t.r else _
    rw[if_pos (Or.inr h2),r]
 |succ m ih=>
  intro s t m2 hu hu2 b md
  by_cases hN:S.N<s.arc
  · have hd:∀ st,Run S s st->False:=fun st run=>by have:=run.a2;omega
    cases md with
    |both st run _ _ _ _=>exact(hd st run).elim
    |last st run _ _ _ _ _=>exact(hd st run).elim
    |loop st run _ _ _ _=>exact(hd st run).elim
    |done h1 h2 r=>
     show(if s.arc=0∨S.N<s.arc then pwR s.r else _)=_
     rw[if_pos (Or.inr h1)]
     cases m2 with
     |zero=>show pwR s.r=pwR t.r;rw[r]
     |succ m2=>
      show pwR s.r=if t.arc=0∨T.N<t.arc then pwR t.r else _
      rw[if_pos (Or.inr h2),r]
  · obtain ⟨st, run⟩ : ∃ st, Run S s st := by
      cases md with
      |both st run _ _ _ _=>exact⟨st,run⟩
      |last st run _ _ _ _ _=>exact⟨st,run⟩
      |loop st run _ _ _ _=>exact⟨st,run⟩
      |done h1 h2 r=>exact(hN h1).elim
    have hlu:=unw_less run.a1 run.a2 run.un
    have onwU:∀ (w:Nat->Bool) (ways:Nat->Nat) a r,(onw S w ways a r).w=w:=fun w ways a r=>by unfold onw;split<;>rfl
    have onwT:∀ (w:Nat->Bool) (ways:Nat->Nat) a r,(onw T w ways a r).w=w:=fun w ways a r=>by unfold onw;split<;>rfl
    have hS0:¬ (s.arc=0∨S.N<s.arc):=by have:=run.a1;omega
    by_cases hp:S.cr s.arc=k
    · obtain⟨b2,md2⟩:=h.through b md hp run.a2
      have e:wk S (m+1) s=wk S m (onw S (upd s.w s.arc true) s.ways s.arc s.r):=by
       show(if s.arc=0∨S.N<s.arc then _ else if s.ways (S.cr s.arc)=0 then _ else _)=_
       rw[if_neg hS0,if_neg (by rw[hp,b.k2];decide)]
      rw[e]
      exact ih _ t m2 (by rw[onwU];omega) hu2 b2 md2
    · cases md with
      |last _ _ pk _ _ _ _=>exact(hp pk).elim
      |loop _ _ pk _ _ _=>exact(hp pk).elim
      |done h1 h2 r=>exact(hN h1).elim
      |both st' run' f1 at_ un r=>
       have hx:=h.ex _ run.a1 run.a2 hp
       have hlt:=unw_less hx.1 hx.2 un
       obtain⟨m3,rfl⟩:∃ m3,m2=m3+1:=⟨m2 - 1,by omega⟩
       have go:∀ ways tways,More S s ways->(∀ a,1<=a->a<=S.N->S.cr a≠k->tways (ρ (S.cr a))=ways (S.cr a))->ways k=2->wk S m (onw S (upd s.w s.arc true) ways s.arc s.r)=wk T m3 (onw T (upd t.w (φ s.arc) true) tways (φ s.arc) t.r):=fun ways tways g1 g2 g3=>by
        obtain⟨b2,md2⟩:=h.after b run hp r g1 g2 g3
        exact ih _ _ m3 (by rw[onwU];omega) (by rw[onwT];omega) b2 md2
       have hcT:=h.crT _ run.a1 run.a2 hp
       have upy:∀ v a,1<=a->a<=S.N->S.cr a≠k->upd t.ways (ρ (S.cr s.arc)) v (ρ (S.cr a))=upd s.ways (S.cr s.arc) v (S.cr a):=fun v a a1 a2 a3=>by
        by_cases e:S.cr a=S.cr s.arc
        · rw[e,upd_same,upd_same]
        · rw[upd_other _ _ e,upd_other _ _ (fun q=>e (h.ri _ _ a1 a2 run.a1 run.a2 a3 hp q)),b.wy a a1 a2 a3]
       have upm : ∀ v, v ≠ 0 → s.ways (S.cr s.arc) = 0 → More S s (upd s.ways (S.cr s.arc) v) := fun v hv h0 => ⟨fun z hz => by
        have:=run.dec z hz
        rw[upd_other _ _ (fun e=>this (by rw[e];exact h0))],by rw[upd_same];exact hv⟩
       have upk:∀ v,upd s.ways (S.cr s.arc) v k=2:=fun v=>by rw[upd_other _ _ (fun e=>hp e.symm)];exact b.k2
       have hT0:¬ (t.arc=0∨T.N<t.arc):=by rw[at_];omega
       have eT:wk T (m3+1) t=if t.ways (ρ (S.cr s.arc))=0 then if S.be s.arc=true then fork2 (S.plus (S.cr s.arc)) (wk T m3 (onw T (upd t.w (φ s.arc) true) (upd t.ways (ρ (S.cr s.arc)) 1) (φ s.arc) t.r)) (wk T m3 (onw T (upd t.w (φ s.arc) true) (upd t.ways (ρ (S.cr s.arc)) 2) (φ s.arc) t.r)) else wk T m3 (onw T (upd t.w (φ s.arc) true) (upd t.ways (ρ (S.cr s.arc)) 1) (φ s.arc) t.r) else wk T m3 (onw T (upd t.w (φ s.arc) true) t.ways (φ s.arc) t.r):=by
        show(if t.arc=0∨T.N<t.arc then _ else if t.ways (T.cr t.arc)=0 then if T.be t.arc=true then fork2 (T.plus (T.cr t.arc)) (wk T m3 (onw T (upd t.w t.arc true) (upd t.ways (T.cr t.arc) 1) t.arc t.r)) (wk T m3 (onw T (upd t.w t.arc true) (upd t.ways (T.cr t.arc) 2) t.arc t.r)) else wk T m3 (onw T (upd t.w t.arc true) (upd t.ways (T.cr t.arc) 1) t.arc t.r) else wk T m3 (onw T (upd t.w t.arc true) t.ways t.arc t.r))=_
        rw[if_neg hT0,at_,hcT,h.beT _ run.a1 run.a2 hp,h.plT _ run.a1 run.a2 hp]
       rw[eT,b.wy _ run.a1 run.a2 hp]
       show(if s.arc=0∨S.N<s.arc then _ else if s.ways (S.cr s.arc)=0 then if S.be s.arc=true then fork2 (S.plus (S.cr s.arc)) (wk S m (onw S (upd s.w s.arc true) (upd s.ways (S.cr s.arc) 1) s.arc s.r)) (wk S m (onw S (upd s.w s.arc true) (upd s.ways (S.cr s.arc) 2) s.arc s.r)) else wk S m (onw S (upd s.w s.arc true) (upd s.ways (S.cr s.arc) 1) s.arc s.r) else wk S m (onw S (upd s.w s.arc true) s.ways s.arc s.r))=_
       rw[if_neg hS0]
       by_cases h0:s.ways (S.cr s.arc)=0
       · rw[if_pos h0,if_pos h0,go _ _ (upm 1 (by decide) h0) (upy 1) (upk 1),go _ _ (upm 2 (by decide) h0) (upy 2) (upk 2)]
       · rw[if_neg h0,if_neg h0]
         exact go _ _ ⟨fun _ _=>rfl,h0⟩ b.wy b.k2
end
end Go.Proofs.Ytefooihnoajnlaa
