/- Several texts of the proof, one behind the other. -/
import Derived.Test.YtbobljddklldjaaGreatDoorY3P
import Derived.Test.YtbobljddklldjaaGreatDoorC5P
import Derived.Shelf.SlSortCmp.WholeK
import Derived.Test.YtbobljddklldjaaGreatDoorProg
import Derived.Shelf.SlSortCmp.NoneTotal
import Derived.Sort.OwnSorted
import Derived.Deep.Cut
import Derived.Test.YtbobljddklldjaaGreatDoorF7P
import Derived.Test.YtbobljddklldjaaGreatDoorAL1P
import Derived.Test.YtbobljddklldjaaGreatDoorF2P
import Derived.Test.YtbobljddklldjaaGreatDoorW1P
import Derived.Test.YtbobljddklldjaaGreatDoorAL2P
/- slices.SortFunc over a row of tellings: its library contract applied. -/
namespace Go.Proofs.YtbobljddklldjaaGreatDoor
open Go.RowKit Go.Sort
def keyT (p:List Nat×List Int):List Int:=(p.1.length:Int)::p.2
def SortedT (L:Nat->List Nat×List Int) (σ:List Nat):Prop:=σ.Pairwise (fun x y=>¬cmpT (L y) (L x)<0)
end Go.Proofs.YtbobljddklldjaaGreatDoor
/- Where canon.canonical stands. -/
namespace Go.Proofs.YtbobljddklldjaaGreatDoor
open Go.RowKit Go.Maps
def canGo (C:List Cr):List Nat->List Nat->List Cr
 |_,[]=>[]
 |F,c::os=>canX F (C.getD c Cr.none)::canGo C (addN F (C.getD c Cr.none) 4) os
section
variable {w:World} {D0:Array Value} {loops:Int} {gL n:Nat} {vals:Nat->Value×Value} {L:Nat->List Nat} {σ F:List Nat} {acc:List Cr} {v:Value} {W:World}
end
end Go.Proofs.YtbobljddklldjaaGreatDoor
/- What ref.CanonForm reckons: least tellings of pieces by their codes. -/
namespace Go.Proofs.YtbobljddklldjaaGreatDoor
open Go.RowKit
structure RfAt (B:Nat) (Hc Ho:List Nat) (T:Nat->List Nat×List Int) (v4 v5:Value) (cs os:List Value) (W:World):Prop where
 cl:cs.length=Hc.length
 ol:os.length=Ho.length
 cr:W.ownsRow B 62 1 v4 Hc.length cs
 orr:W.ownsRow B 62 1 v5 Ho.length os
 c:∀ i,i<Hc.length->W.ownsRow B 3 1 (cs.getD i (.bool false)) (T (Hc.getD i 0)).2.length (intsV (T (Hc.getD i 0)).2)
 o:∀ i,i<Ho.length->W.ownsRow B 3 1 (os.getD i (.bool false)) (T (Ho.getD i 0)).1.length (nats (T (Ho.getD i 0)).1)
 ne:v4.ownBlock=none∨v4.ownBlock≠v5.ownBlock
section
variable {B:Nat} {Hc Ho:List Nat} {T:Nat->List Nat×List Int} {v4 v5:Value} {cs os:List Value} {W:World}
theorem RfAt.any {W':World} (h:RfAt B Hc Ho T v4 v5 cs os W) (hg:W.grownBy W' none):RfAt B Hc Ho T v4 v5 cs os W':=
 ⟨h.cl,h.ol,own_any h.cr hg,own_any h.orr hg,fun i hi=>own_any (h.c i hi) hg,fun i hi=>own_any (h.o i hi) hg,h.ne⟩
theorem RfAt.kept {W':World} {B' e n s:Nat} {u:Value} {xs:List Value} (h:RfAt B Hc Ho T v4 v5 cs os W) (ho:W.ownsRow B' e s u n xs) (he1:e≠3) (he2:e≠62) (hg:W.grownBy W' u.ownBlock):RfAt B Hc Ho T v4 v5 cs os W':=
 ⟨h.cl,h.ol,h.cr.kept hg (own_ne h.cr ho (fun e=>he2 e.symm)),h.orr.kept hg (own_ne h.orr ho (fun e=>he2 e.symm)),fun i hi=>(h.c i hi).kept hg (own_ne (h.c i hi) ho (fun e=>he1 e.symm)),fun i hi=>(h.o i hi).kept hg (own_ne (h.o i hi) ho (fun e=>he1 e.symm)),h.ne⟩
theorem RfAt.low {W':World} {q:Nat} (h:RfAt B Hc Ho T v4 v5 cs os W) (hq:q<B) (hg:W.grownBy W' (some q)):RfAt B Hc Ho T v4 v5 cs os W':=by
 have hl:∀ {e s k:Nat} {u:Value} {xs:List Value},W.ownsRow B e s u k xs->u.ownBlock=none∨u.ownBlock≠some q:=fun ho=>Or.inr (fun e=>by have:=(ho.lt _ e).1;omega)
 exact⟨h.cl,h.ol,h.cr.kept hg (hl h.cr),h.orr.kept hg (hl h.orr),fun i hi=>(h.c i hi).kept hg (hl (h.c i hi)),fun i hi=>(h.o i hi).kept hg (hl (h.o i hi)),h.ne⟩
theorem getD_snoc_lt {α:Type} (l:List α) (x d:α) (i:Nat) (h:i<l.length):(l++[x]).getD i d=l.getD i d:=by simp[List.getD,List.getElem?_append_left h]
theorem getD_snoc_eq {α:Type} (l:List α) (x d:α):(l++[x]).getD l.length d=x:=by simp[List.getD]
theorem RfAt.code {p g k cap H : Nat} {u : Value} {W8 : World} (h : RfAt B Hc Ho T v4 v5 cs os W) (hk : k = Hc.length + 1) (hu : W.ownsRow B 3 1 u (T p).2.length (intsV (T p).2)) (hown : W8.ownsRow B 62 1 (.slice (some ⟨g, 0, none⟩) k cap) k (cs ++ [u])) (hg : W.grownBy W8 v4.ownBlock) (hl : v4.ownBlock = some g ∨ g = H) (hH : W.heap.size = H) :
    RfAt B (Hc++[p]) Ho T (.slice (some ⟨g,0,none⟩) k cap) v5 (cs++[u]) os W8:=by
 subst hk
 have hv:v5.ownBlock=none∨v5.ownBlock≠v4.ownBlock:=by
  cases hv:v5.ownBlock with
  |none=>exact Or.inl rfl
  |some q=>
   refine Or.inr (fun e=>?_)
   have:=h.ne
   rw[hv,<-e]at this
   rcases this with h1|h1
   · cases h1
   · exact h1 rfl
 have hI:∀ {n:Nat} {v:Value} {xs:List Value},W.ownsRow B 3 1 v n xs->W8.ownsRow B 3 1 v n xs:=fun ho=>ho.kept hg (own_ne ho h.cr (by decide))
 refine⟨by simp[h.cl],h.ol,by simpa using hown,h.orr.kept hg hv,fun i hi=>?_,fun i hi=>hI (h.o i hi),?_⟩
 · by_cases e:i<Hc.length
   · rw[getD_snoc_lt _ _ _ _ e,getD_snoc_lt _ _ _ _ (by rw[h.cl];exact e)]
     exact hI (h.c i e)
   · have e2:i=Hc.length:=by simp at hi;omega
     subst e2
     rw[getD_snoc_eq,<-h.cl,getD_snoc_eq]
     exact hI hu
 · refine Or.inr (fun e=>?_)
   have e':some g=v5.ownBlock:=e
   rcases hl with hl|hl
   · rcases hv with h1|h1
     · rw[h1]at e';cases e'
     · exact h1 (by rw[hl,<-e'])
   · have h1:=(h.orr.lt g e'.symm).2
     omega
theorem RfAt.order {p g k cap H : Nat} {u : Value} {W8 : World} (h : RfAt B Hc Ho T v4 v5 cs os W) (hk : k = Ho.length + 1) (hu : W.ownsRow B 3 1 u (T p).1.length (nats (T p).1)) (hown : W8.ownsRow B 62 1 (.slice (some ⟨g, 0, none⟩) k cap) k (os ++ [u])) (hg : W.grownBy W8 v5.ownBlock) (hl : v5.ownBlock = some g ∨ g = H) (hH : W.heap.size = H) :
    RfAt B Hc (Ho++[p]) T v4 (.slice (some ⟨g,0,none⟩) k cap) cs (os++[u]) W8:=by
 subst hk
 have hI:∀ {n:Nat} {v:Value} {xs:List Value},W.ownsRow B 3 1 v n xs->W8.ownsRow B 3 1 v n xs:=fun ho=>ho.kept hg (own_ne ho h.orr (by decide))
 refine⟨h.cl,by simp[h.ol],h.cr.kept hg h.ne,by simpa using hown,fun i hi=>hI (h.c i hi),fun i hi=>?_,?_⟩
 · by_cases e:i<Ho.length
   · rw[getD_snoc_lt _ _ _ _ e,getD_snoc_lt _ _ _ _ (by rw[h.ol];exact e)]
     exact hI (h.o i e)
   · have e2:i=Ho.length:=by simp at hi;omega
     subst e2
     rw[getD_snoc_eq,<-h.ol,getD_snoc_eq]
     exact hI hu
 · rcases hl with hl|hl
   · rcases h.ne with h1|h1
     · exact Or.inl h1
     · refine Or.inr (fun e=>h1 ?_)
       rw[hl]
       exact e
   · cases hv:v4.ownBlock with
     |none=>exact Or.inl rfl
     |some q=>
      refine Or.inr (fun e=>?_)
      have h1:=(h.cr.lt q hv).2
      have h2:q=g:=Option.some.inj e
      omega
end
end Go.Proofs.YtbobljddklldjaaGreatDoor
/- What a code tells: mathematics. Pieces of the same code have, numbered as they are told, the same crossings. -/
namespace Go.Proofs.YtbobljddklldjaaGreatDoor
theorem enS_one {C:List Cr} {loops:Int} (hm:mayD C loops=true) (k s:Nat) (hk:k<C.length) (hs:s<4):enS C ((C.getD k Cr.none).arc s).toNat ((C.getD k Cr.none).comes s)=s:=by
 have hf:=may_fit hm k s hk hs
 have g1:=hf.1
 have g2:=hf.2.1
 have e:=end_one hm ((C.getD k Cr.none).arc s).toNat (by omega) (by omega) ((C.getD k Cr.none).comes s) k s hk hs (by omega) rfl
 unfold enS
 rw[e]
 rfl
theorem spot_eq {C:List Cr} {loops:Int} (hm:mayD C loops=true) {c s d t:Nat} (hc:c<C.length) (hs:s<4) (hd:d<C.length) (ht:t<4) (h:arcN (C.getD c Cr.none) s=arcN (C.getD d Cr.none) t):(c=d/\s=t)∨(nbC C c s=d/\nbS C c s=t):=by
 unfold arcN at h
 have a1:=(en_one hm c s hc hs).2.2
 have a2:=enS_one hm c s hc hs
 have b1:=(en_one hm d t hd ht).2.2
 have b2:=enS_one hm d t hd ht
 by_cases e:(C.getD c Cr.none).comes s=(C.getD d Cr.none).comes t
 · left
   rw[h,e]at a1 a2
   exact⟨a1.symm.trans b1,a2.symm.trans b2⟩
 · right
   have e2:(!(C.getD c Cr.none).comes s)=(C.getD d Cr.none).comes t:=by
    cases h1:(C.getD c Cr.none).comes s<;>cases h2:(C.getD d Cr.none).comes t<;>simp_all
   unfold nbC nbS
   rw[h,e2]
   exact⟨b1,b2⟩
theorem spot_nb {C:List Cr} {loops:Int} (hm:mayD C loops=true) {c s:Nat} (hc:c<C.length) (hs:s<4):arcN (C.getD (nbC C c s) Cr.none) (nbS C c s)=arcN (C.getD c Cr.none) s:=by
 have h:=en_one hm c s hc hs
 have g:=(en_may hm _ (!(C.getD c Cr.none).comes s) h.1 h.2.1).2.2.2.1
 unfold arcN nbC nbS
 rw[g]
 rfl
structure ToldAt (C:List Cr) (p:List Nat×List Int) (l:Nat):Prop where
 sg:p.2.getD (9*l) 0=if(C.getD (p.1.getD l 0) Cr.none).plus=true then 1 else 0
 mem:∀ s,s<4->nbC C (p.1.getD l 0) s∈p.1
 nb:∀ s,s<4->p.2.getD (9*l+1+2*s) 0=(p.1.idxOf (nbC C (p.1.getD l 0) s):Int)
 side:∀ s,s<4->p.2.getD (9*l+2+2*s) 0=(nbS C (p.1.getD l 0) s:Int)
theorem getD_pre {α:Type} {a b:List α} (h:a <+: b) (i:Nat) (hi:i<a.length) (d:α):b.getD i d=a.getD i d:=by
 obtain⟨t,rfl⟩:=h
 simp[List.getD,List.getElem?_append_left hi]
theorem idxOf_pre {a b:List Nat} (h:a <+: b) {x:Nat} (hx:x∈a):b.idxOf x=a.idxOf x:=by
 obtain⟨t,rfl⟩:=h
 rw[List.idxOf_append,if_pos hx]
theorem ToldAt.ext {C:List Cr} {p q:List Nat×List Int} {l:Nat} (h:ToldAt C p l) (h1:p.1 <+: q.1) (h2:p.2 <+: q.2) (hl:l<p.1.length) (hc:9*l+9<=p.2.length):ToldAt C q l:=by
 have e:=getD_pre h1 l hl 0
 refine⟨?_,fun s hs=>?_,fun s hs=>?_,fun s hs=>?_⟩
 · rw[e,getD_pre h2 _ (by omega)];exact h.sg
 · rw[e];exact h1.subset (h.mem s hs)
 · rw[e,getD_pre h2 _ (by omega),idxOf_pre h1 (h.mem s hs)];exact h.nb s hs
 · rw[e,getD_pre h2 _ (by omega)];exact h.side s hs
end Go.Proofs.YtbobljddklldjaaGreatDoor
/- Both ways of making the canonical form come to one: mathematics. -/
namespace Go.Proofs.YtbobljddklldjaaGreatDoor
theorem idxOf_map {ρ:Nat->Nat} {A:Nat->Prop} (hinj:∀ x y,A x->A y->ρ x=ρ y->x=y):∀ (F:List Nat) (x:Nat),(∀ y,y∈F->A y)->A x->(F.map ρ).idxOf (ρ x)=F.idxOf x
 |[],_,_,_=>rfl
 |z::F,x,hF,hx=>by
  rw[List.map_cons,List.idxOf_cons,List.idxOf_cons,idxOf_map hinj F x (fun y hy=>hF y (List.mem_cons_of_mem _ hy)) hx]
  by_cases e:z=x
  · subst e;simp
  · have e2:ρ z≠ρ x:=fun h=>e (hinj z x (hF z (List.mem_cons_self)) hx h)
    rw[beq_eq_false_iff_ne.2 e,beq_eq_false_iff_ne.2 e2]
theorem mem_map_inj {ρ:Nat->Nat} {A:Nat->Prop} (hinj:∀ x y,A x->A y->ρ x=ρ y->x=y) {F:List Nat} {x:Nat} (hF:∀ y,y∈F->A y) (hx:A x):ρ x∈F.map ρ↔x∈F:=by
 constructor
 · intro h
   obtain⟨y,hy,e⟩:=List.mem_map.1 h
   rw[<-hinj y x (hF y hy) hx e];exact hy
 · intro h;exact List.mem_map_of_mem h
theorem addF_map {ρ:Nat->Nat} {A:Nat->Prop} (hinj:∀ x y,A x->A y->ρ x=ρ y->x=y) {F:List Nat} {x:Nat} (hF:∀ y,y∈F->A y) (hx:A x):addF (F.map ρ) (ρ x)=(addF F x).map ρ:=by
 unfold addF
 by_cases h:x∈F
 · rw[if_pos h,if_pos ((mem_map_inj hinj hF hx).2 h)]
 · rw[if_neg h,if_neg (fun e=>h ((mem_map_inj hinj hF hx).1 e))];simp
theorem addF_mem {A:Nat->Prop} {F:List Nat} {x:Nat} (hF:∀ y,y∈F->A y) (hx:A x):∀ y,y∈addF F x->A y:=by
 intro y hy
 unfold addF at hy
 split at hy
 · exact hF y hy
 · rcases List.mem_append.1 hy with h|h
   · exact hF y h
   · rw[List.mem_singleton.1 h];exact hx
theorem addN_map {ρ:Nat->Nat} {A:Nat->Prop} (hinj:∀ x y,A x->A y->ρ x=ρ y->x=y) {F:List Nat} {x y:Cr} (hF:∀ z,z∈F->A z) (h:∀ s,s<4->A (arcN x s)/\arcN y s=ρ (arcN x s)):∀ k,k<=4->addN (F.map ρ) y k=(addN F x k).map ρ/\∀ z,z∈addN F x k->A z:=by
 intro k
 induction k with
 |zero=>intro _;exact⟨rfl,hF⟩
 |succ k ih=>
  intro hk
  obtain⟨h1,h2⟩:=ih (by omega)
  obtain⟨g1,g2⟩:=h k (by omega)
  rw[addN,addN,h1,g2]
  exact⟨addF_map hinj h2 g1,addF_mem h2 g1⟩
theorem canX_map {ρ:Nat->Nat} {A:Nat->Prop} (hinj:∀ x y,A x->A y->ρ x=ρ y->x=y) {F:List Nat} {x y:Cr} (hF:∀ z,z∈F->A z) (h:∀ s,s<4->A (arcN x s)/\arcN y s=ρ (arcN x s)) (hp:y.plus=x.plus):canX (F.map ρ) y=canX F x:=by
 have hn:∀ k,k<4->canN (F.map ρ) y k=canN F x k:=fun k hk=>by
  obtain⟨h1,h2⟩:=addN_map hinj hF h (k+1) (by omega)
  obtain⟨g1,g2⟩:=h k hk
  unfold canN
  rw[h1,g2,idxOf_map hinj _ _ h2 g1]
 unfold canX
 rw[hn 0 (by omega),hn 1 (by omega),hn 2 (by omega),hn 3 (by omega),hp]
end Go.Proofs.YtbobljddklldjaaGreatDoor
/- Which piece ref.CanonForm takes next; which numbers its arcs have. -/
namespace Go.Proofs.YtbobljddklldjaaGreatDoor
open Go.RowKit
structure PickS (L:Nat->List Nat×List Int) (m:Nat) (τ:List Nat):Prop where
 nd:τ.Nodup
 lt:∀ x,x∈τ->x<m
 srt:SortedT L τ
 rest:∀ x,x∈τ->∀ y,y<m->y ∉ τ->¬cmpT (L y) (L x)<0
theorem PickS.nil (L:Nat->List Nat×List Int) (m:Nat):PickS L m []:=⟨List.nodup_nil,(fun x h=>by cases h),List.Pairwise.nil,(fun x h=>by cases h)⟩
theorem PickS.next {L:Nat->List Nat×List Int} {m k:Nat} {τ:List Nat} (h:PickS L m τ) (hk:k<m) (hn:k ∉ τ) (hl:∀ y,y<m->y ∉ τ->¬cmpT (L y) (L k)<0):PickS L m (τ++[k]):=by
 refine⟨List.nodup_append.2 ⟨h.nd,by simp,fun a ha b hb e=>?_⟩,fun x hx=>?_,?_,fun x hx y hy hny=>?_⟩
 · rw[List.mem_singleton.1 hb]at e
   rw[e]at ha
   exact hn ha
 · rcases List.mem_append.1 hx with hx|hx
   · exact h.lt x hx
   · rw[List.mem_singleton.1 hx];exact hk
 · unfold SortedT
   refine List.pairwise_append.2 ⟨h.srt,List.pairwise_singleton _ _,fun x hx y hy=>?_⟩
   rw[List.mem_singleton.1 hy]
   exact h.rest x hx k hk hn
 · have hny1:y ∉ τ:=fun e=>hny (List.mem_append_left _ e)
   rcases List.mem_append.1 hx with hx|hx
   · exact h.rest x hx y hy hny1
   · rw[List.mem_singleton.1 hx];exact hl y hy hny1
theorem PickS.few {L:Nat->List Nat×List Int} {m:Nat} {τ:List Nat} (h:PickS L m τ):τ.length<=m:=by
 have:=List.Nodup.length_le_of_subset h.nd (l₂:=List.range m) (fun x hx=>List.mem_range.2 (h.lt x hx))
 simpa using this
theorem PickS.free {L:Nat->List Nat×List Int} {m:Nat} {τ:List Nat} (_h:PickS L m τ) (hl:τ.length<m):∃ y,y<m/\y ∉ τ:=by
 refine Classical.byContradiction fun hno=>?_
 have hsub:List.range m ⊆ τ:=fun x hx=>Classical.byContradiction fun hn=>hno ⟨x,List.mem_range.1 hx,hn⟩
 have:=List.Nodup.length_le_of_subset List.nodup_range hsub
 simp at this
 omega
def arF (F:List Nat) (x:Nat):Int:=if x∈F then(F.idxOf x:Int)+1 else 0
theorem arF_new (n:Nat) (F:List Nat) (x:Nat) (hx:x ∉ F):(mapI n (arF F)).set x ((F.length:Int)+1)=mapI n (arF (F++[x])):=by
 refine mapI_set _ _ _ _ _ fun y _=>?_
 unfold arF
 by_cases e:y=x
 · subst e
   rw[if_pos rfl,if_pos (by simp),List.idxOf_append,if_neg hx]
   simp
 · rw[if_neg e]
   by_cases h:y∈F
   · rw[if_pos h,if_pos (List.mem_append_left _ h),List.idxOf_append,if_pos h]
   · rw[if_neg h,if_neg (fun h2=>by rcases List.mem_append.1 h2 with h2|h2;exact h h2;exact e (by simpa using h2))]
def mapB (m:Nat) (f:Nat->Bool):List Bool:=(List.range m).map f
theorem mapB_len (m:Nat) (f:Nat->Bool):(mapB m f).length=m:=by simp[mapB]
theorem mapB_set (m:Nat) (τ:List Nat) (k:Nat):(mapB m fun i=>decide (i∈τ)).set k true=mapB m fun i=>decide (i∈τ++[k]):=by
 apply List.ext_getElem?
 intro j
 rw[List.getElem?_set]
 by_cases hj:j<m
 · simp only[mapB,List.getElem?_map,List.getElem?_range hj,Option.map_some,List.length_map,List.length_range]
   by_cases e:k=j
   · subst e;simp[hj]
   · rw[if_neg e]
     simp only[List.mem_append,List.mem_singleton]
     congr 1
     refine decide_eq_decide.2 ⟨Or.inl,fun h=>h.elim id (fun h=>absurd h.symm e)⟩
 · rw[List.getElem?_eq_none (by rw[mapB_len];omega),List.getElem?_eq_none (by rw[mapB_len];omega)]
   split
   · rw[if_neg (by rw[mapB_len];omega)]
   · rfl
structure StB (W3:World) (n:Nat) (loops:Int) (gU m:Nat) (F τ:List Nat) (acc:List Cr) (v:Value) (W:World):Prop where
 bel:Below W3.heap.size W3 W
 out:OutAt W (W3.heap.size+1) W3.heap.size v loops acc
 arc:W.ownsRow (W3.heap.size+1) 3 1 (.slice (some ⟨W3.heap.size+1,0,none⟩) (2*n+1) (2*n+1)) (2*n+1) (intsV (mapI (2*n+1) (arF F)))
 use:W.ownsRow (W3.heap.size+1) 4 1 (.slice (some ⟨gU,0,none⟩) m m) m (bools (mapB m fun i=>decide (i∈τ)))
section
variable {W3:World} {n:Nat} {loops:Int} {gU m:Nat} {F τ:List Nat} {acc:List Cr} {v:Value} {W:World}
theorem StB.any {W':World} (h:StB W3 n loops gU m F τ acc v W) (hg:W.grownBy W' none):StB W3 n loops gU m F τ acc v W':=
 ⟨h.bel.grown hg h.bel.size (fun k hk=>by cases hk),⟨(hg.block _ (Array.getElem?_eq_some_iff.1 h.out.box).1 (by simp)).trans h.out.box,own_any h.out.row hg⟩,own_any h.arc hg,own_any h.use hg⟩
theorem StB.sz (h:StB W3 n loops gU m F τ acc v W):W3.heap.size+1<W.heap.size/\gU<W.heap.size/\W3.heap.size+1<=gU/\gU≠W3.heap.size+1:=by
 refine⟨(h.arc.lt _ rfl).2,(h.use.lt _ rfl).2,(h.use.lt _ rfl).1,fun e=>?_⟩
 rcases own_ne h.use h.arc (by decide) with h1|h1
 · cases h1
 · exact h1 (by rw[e];rfl)
theorem StB.take {k:Nat} (h:StB W3 n loops gU m F τ acc v W):StB W3 n loops gU m F (τ++[k]) acc v (W.setCell ⟨gU,k,none⟩ (.bool true)):=by
 obtain⟨s1,s2,s3,s4⟩:=h.sz
 have hS:=set_grown W gU k (.bool true)
 have hst:=(h.use.stored k (.bool true)).1
 rw[bools_set,mapB_set]at hst
 refine⟨h.bel.grown hS h.bel.size (fun q hq=>by have:=Option.some.inj hq;omega),⟨(hS.block _ (by omega) (fun e=>by have:=Option.some.inj e;omega)).trans h.out.box,h.out.row.kept hS ?_⟩,h.arc.kept hS (Or.inr (fun e=>s4 (Option.some.inj e).symm)),hst⟩
 exact own_ne h.out.row h.use (by decide)
theorem StB.num {x:Nat} (h:StB W3 n loops gU m F τ acc v W) (hx:x ∉ F):StB W3 n loops gU m (F++[x]) τ acc v (W.setCell ⟨W3.heap.size+1,x,none⟩ (.int .i64 ((F.length:Int)+1))):=by
 obtain⟨s1,s2,s3,s4⟩:=h.sz
 have hS:=set_grown W (W3.heap.size+1) x (.int .i64 ((F.length:Int)+1))
 have hst:=(h.arc.stored x (.int .i64 ((F.length:Int)+1))).1
 rw[intsV_set,arF_new _ _ _ hx]at hst
 refine⟨h.bel.grown hS h.bel.size (fun q hq=>by have:=Option.some.inj hq;omega),⟨(hS.block _ (by omega) (fun e=>by have:=Option.some.inj e;omega)).trans h.out.box,h.out.row.kept hS (own_ne h.out.row h.arc (by decide))⟩,hst,h.use.kept hS (own_ne h.use h.arc (by decide))⟩
theorem StB.row {k:Nat} {u:Value} {xs:List Value} {W':World} (h:StB W3 n loops gU m F τ acc v W) (ho:W.ownsRow (W3.heap.size+2) 3 1 u k xs) (hg:W.grownBy W' u.ownBlock):StB W3 n loops gU m F τ acc v W':=by
 obtain⟨s1,s2,s3,s4⟩:=h.sz
 have hlow:∀ q,q<W3.heap.size+2->some q≠u.ownBlock:=fun q hq e=>by have:=(ho.lt q e.symm).1;omega
 exact⟨h.bel.grown hg h.bel.size (fun q hq=>by have:=(ho.lt q hq).1;omega),⟨(hg.block _ (by omega) (hlow _ (by omega))).trans h.out.box,h.out.row.kept hg (own_ne h.out.row ho (by decide))⟩,h.arc.kept hg (Or.inr (hlow (W3.heap.size+1) (by omega))),h.use.kept hg (own_ne h.use ho (by decide))⟩
theorem StB.app {w8 : World} {v8 : Value} {x : Cr} {o : Obj} (h : StB W3 n loops gU m F τ acc v W) (hown8 : w8.ownsRow (W3.heap.size + 1) 60 5 v8 (acc.length + 1) (crossCells acc ++ crossCells [x])) (hg8 : (W.alloc o).grownBy w8 v.ownBlock) :
    StB W3 n loops gU m F τ (acc++[x]) v8 (w8.setCell ⟨W3.heap.size,0,none⟩ v8):=by
 obtain⟨s1,s2,s3,s4⟩:=h.sz
 have hS:=set_grown w8 W3.heap.size 0 v8
 have hnone:W.grownBy (W.alloc o) none:=World.grownBy_alloc _ _ _
 have hrow:∀ {e s k:Nat} {u:Value} {xs:List Value},W.ownsRow (W3.heap.size+1) e s u k xs->e≠60->(w8.setCell ⟨W3.heap.size,0,none⟩ v8).ownsRow (W3.heap.size+1) e s u k xs:=fun ho he=>by
  have h1:=own_any ho hnone
  have h2:=h1.kept hg8 (own_ne h1 (own_any h.out.row hnone) he)
  exact h2.kept hS (Or.inr (fun e=>by have:=(h2.lt _ e).1;omega))
 exact⟨h.out.below h.bel (by omega) h.bel.size (Nat.le_refl _) hg8,h.out.app (by omega) rfl hown8 hg8,hrow h.arc (by decide),hrow h.use (by decide)⟩
end
end Go.Proofs.YtbobljddklldjaaGreatDoor
/- Diagrams that are one but for the numbers of arcs and the order of crossings have one form: mathematics. -/
namespace Go.Proofs.YtbobljddklldjaaGreatDoor
structure Iso (C D:List Cr) (f g r:Nat->Nat):Prop where
 len:D.length=C.length
 flt:∀ k,k<C.length->f k<C.length
 glt:∀ k,k<C.length->g k<C.length
 gf:∀ k,k<C.length->g (f k)=k
 fg:∀ k,k<C.length->f (g k)=k
 plus:∀ k,k<C.length->(D.getD (f k) Cr.none).plus=(C.getD k Cr.none).plus
 arc:∀ k s,k<C.length->s<4->arcN (D.getD (f k) Cr.none) s=r (arcN (C.getD k Cr.none) s)
 rinj:∀ x y,(1<=x/\x<=2*C.length)->(1<=y/\y<=2*C.length)->r x=r y->x=y
theorem Iso.inj {C D:List Cr} {f g r:Nat->Nat} (I:Iso C D f g r):∀ x y,x<C.length->y<C.length->f x=f y->x=y:=fun x y hx hy e=>by
 have:=I.gf x hx
 rw[e,I.gf y hy]at this
 exact this.symm
theorem nb_comes {C:List Cr} {loops:Int} (hm:mayD C loops=true) (k s:Nat) (hk:k<C.length) (hs:s<4):(C.getD (nbC C k s) Cr.none).comes (nbS C k s)=!(C.getD k Cr.none).comes s:=by
 obtain⟨⟨h1,h2,-⟩,-,-,-⟩:=nb_may hm k s hk hs
 exact(en_may hm _ (!(C.getD k Cr.none).comes s) h1 h2).2.2.2.2
theorem Iso.nb {C D:List Cr} {f g r:Nat->Nat} {l1 l2:Int} (I:Iso C D f g r) (hm:mayD C l1=true) (hd:mayD D l2=true) (k s:Nat) (hk:k<C.length) (hs:s<4):nbC D (f k) s=f (nbC C k s)/\nbS D (f k) s=nbS C k s:=by
 obtain⟨-,-,h1,h2⟩:=nb_may hm k s hk hs
 have e:arcN (D.getD (f k) Cr.none) s=arcN (D.getD (f (nbC C k s)) Cr.none) (nbS C k s):=by
  rw[I.arc k s hk hs,I.arc _ _ h1 h2,spot_nb hm hk hs]
 rcases spot_eq hd (by rw[I.len];exact I.flt k hk) hs (by rw[I.len];exact I.flt _ h1) h2 e with⟨a,b⟩|h
 · have a':=I.inj k _ hk h1 a
   have:=nb_comes hm k s hk hs
   rw[<-a',<-b]at this
   cases hc:(C.getD k Cr.none).comes s<;>rw[hc]at this<;>cases this
 · exact h
theorem Iso.con {C D:List Cr} {f g r:Nat->Nat} {l1 l2:Int} (I:Iso C D f g r) (hm:mayD C l1=true) (hd:mayD D l2=true) (u v:Nat) (hu:u<C.length) (hv:v<C.length):Con (arcE C) u v↔Con (arcE D) (f u) (f v):=by
 constructor
 · intro h S hS hfu
   refine h (fun x=>S (f x)) ?_ hfu
   intro e he
   unfold arcE at he
   obtain⟨i,hi,rfl⟩:=List.mem_map.1 he
   have hi':=List.mem_range.1 hi
   obtain⟨-,t1,t2,t3,t4⟩:=en_may hm (i+1) true (by omega) (by omega)
   have en:nbC C (enC C (i+1) true) (enS C (i+1) true)=enC C (i+1) false:=by
    unfold nbC
    rw[t3,t4]
    rfl
   have hc:=nb_con hd (f (enC C (i+1) true)) (enS C (i+1) true) (by rw[I.len];exact I.flt _ t1) t2
   rw[(I.nb hm hd _ _ t1 t2).1,en]at hc
   exact⟨fun h=>hc S hS h,fun h=>hc.symm S hS h⟩
 · intro h S hS hSu
   have:=h (fun y=>∃ x,x<C.length/\f x=y/\S x) ?_ ⟨u,hu,rfl,hSu⟩
   · obtain⟨x,hx,e,hSx⟩:=this
     rw[<-I.inj x v hx hv e]
     exact hSx
   · intro e he
     unfold arcE at he
     obtain⟨i,hi,rfl⟩:=List.mem_map.1 he
     have hi':=List.mem_range.1 hi
     obtain⟨-,t1,t2,t3,t4⟩:=en_may hd (i+1) true (by omega) (by omega)
     have en:nbC D (enC D (i+1) true) (enS D (i+1) true)=enC D (i+1) false:=by
      unfold nbC
      rw[t3,t4]
      rfl
     simp only
     rw[I.len]at t1
     have hx:=I.glt _ t1
     have ex:=I.fg _ t1
     have hn:=(I.nb hm hd (g (enC D (i+1) true)) _ hx t2).1
     rw[ex,en]at hn
     have hc:=nb_con hm _ _ hx t2
     have hl:=nb_lt hm _ _ hx t2
     constructor
     · rintro⟨x,h1,h2,h3⟩
       have e2:x=g (enC D (i+1) true):=I.inj _ _ h1 hx (by rw[ex,h2])
       rw[e2]at h3
       exact⟨_,hl,hn.symm,hc S hS h3⟩
     · rintro⟨x,h1,h2,h3⟩
       have e2:=I.inj _ _ h1 hl (by rw[h2,hn])
       rw[e2]at h3
       exact⟨_,hx,ex,hc.symm S hS h3⟩
theorem Iso.teS {C D:List Cr} {f g r:Nat->Nat} {l1 l2:Int} (I:Iso C D f g r) (hm:mayD C l1=true) (hd:mayD D l2=true) {c s:Nat} (hc:c<C.length) (hs:s<4) {p:List Nat×List Int} (h:TeOk C p):teS D (f c) (p.1.map f,p.2) s=((Proofs.YtbobljddklldjaaGreatDoor.teS C c p s).1.map f,(Proofs.YtbobljddklldjaaGreatDoor.teS C c p s).2):=by
 have hx:=nb_lt hm c s hc hs
 unfold Proofs.YtbobljddklldjaaGreatDoor.teS
 rw[(I.nb hm hd c s hc hs).1,(I.nb hm hd c s hc hs).2]
 have hmem:=mem_map_inj (A:=(·<C.length)) I.inj h.lt hx
 by_cases hn:nbC C c s∈p.1
 · simp only[hn,hmem.2 hn,if_true]
   rw[idxOf_map (A:=(·<C.length)) I.inj _ _ h.lt hx]
 · have hn':¬f (nbC C c s)∈p.1.map f:=fun e=>hn (hmem.1 e)
   simp only[hn,hn',if_false]
   have e:p.1.map f++[f (nbC C c s)]=(p.1++[nbC C c s]).map f:=by simp
   rw[e,idxOf_map (A:=(·<C.length)) I.inj _ _ (fun y hy=>?_) hx]
   rcases List.mem_append.1 hy with hy|hy
   · exact h.lt y hy
   · rw[List.mem_singleton.1 hy];exact hx
theorem Iso.teK {C D:List Cr} {f g r:Nat->Nat} {l1 l2:Int} (I:Iso C D f g r) (hm:mayD C l1=true) (hd:mayD D l2=true) {i:Nat} {p:List Nat×List Int} (hi:i<p.1.length) (h:TeOk C p):∀ k,k<=4->teK D i (p.1.map f,p.2) k=((Proofs.YtbobljddklldjaaGreatDoor.teK C i p k).1.map f,(Proofs.YtbobljddklldjaaGreatDoor.teK C i p k).2):=by
 have hg:(p.1.map f).getD i 0=f (p.1.getD i 0):=by simp[List.getD,hi]
 have hc:p.1.getD i 0<C.length:=h.lt _ (by rw[List.getD_eq_getElem?_getD,List.getElem?_eq_getElem hi];exact List.getElem_mem hi)
 intro k
 induction k with
 |zero=>
  intro _
  unfold Proofs.YtbobljddklldjaaGreatDoor.teK
  simp only
  rw[hg,I.plus _ hc]
 |succ k ih=>
  intro hk
  rw[Proofs.YtbobljddklldjaaGreatDoor.teK,Proofs.YtbobljddklldjaaGreatDoor.teK,ih (by omega)]
  simp only
  rw[hg,I.teS hm hd hc (by omega) (teK_ok hm hi h (by omega))]
theorem Iso.te {C D:List Cr} {f g r:Nat->Nat} {l1 l2:Int} (I:Iso C D f g r) (hm:mayD C l1=true) (hd:mayD D l2=true) {a:Nat} (ha:a<C.length):te D (f a)=((Proofs.YtbobljddklldjaaGreatDoor.te C a).1.map f,(Proofs.YtbobljddklldjaaGreatDoor.te C a).2):=by
 have:∀ i,teI D (f a) i=((teI C a i).1.map f,(teI C a i).2):=by
  intro i
  induction i with
  |zero=>rfl
  |succ i ih=>
   rw[teI,teI,ih]
   by_cases hi:i<(teI C a i).1.length
   · simp only[List.length_map,hi,if_true]
     exact I.teK hm hd hi (teI_ok hm ha i) 4 (Nat.le_refl _)
   · simp only[List.length_map,hi,if_false]
 unfold Proofs.YtbobljddklldjaaGreatDoor.te
 rw[I.len]
 exact this _
theorem Iso.key {C D:List Cr} {f g r:Nat->Nat} {l1 l2:Int} (I:Iso C D f g r) (hm:mayD C l1=true) (hd:mayD D l2=true) {a:Nat} (ha:a<C.length):keyT (Proofs.YtbobljddklldjaaGreatDoor.te D (f a))=keyT (Proofs.YtbobljddklldjaaGreatDoor.te C a):=by
 rw[I.te hm hd ha]
 simp[keyT]
end Go.Proofs.YtbobljddklldjaaGreatDoor
/- Diagrams that are one but for the numbers of arcs and the order of crossings have one form: mathematics. -/
namespace Go.Proofs.YtbobljddklldjaaGreatDoor
theorem Iso.go {C D:List Cr} {f g r:Nat->Nat} {l1:Int} (I:Iso C D f g r) (hm:mayD C l1=true):∀ (o F:List Nat),(∀ z,z∈F->1<=z/\z<=2*C.length)->(∀ k,k∈o->k<C.length)->canGo D (F.map r) (o.map f)=canGo C F o
 |[],_,_,_=>rfl
 |c::o,F,hF,ho=>by
  have hc:=ho c List.mem_cons_self
  have g1:∀ s,s<4->(1<=arcN (C.getD c Cr.none) s/\arcN (C.getD c Cr.none) s<=2*C.length)/\arcN (D.getD (f c) Cr.none) s=r (arcN (C.getD c Cr.none) s):=fun s hs=>by
   obtain⟨⟨a1,a2,-⟩,-,-,-⟩:=nb_may hm c s hc hs
   exact⟨⟨a1,a2⟩,I.arc c s hc hs⟩
  obtain⟨h1,h2⟩:=addN_map (A:=fun z=>1<=z/\z<=2*C.length) I.rinj hF g1 4 (Nat.le_refl _)
  rw[List.map_cons,canGo,canGo,canX_map (A:=fun z=>1<=z/\z<=2*C.length) I.rinj hF g1 (I.plus c hc),h1,I.go hm o _ h2 (fun k hk=>ho k (List.mem_cons_of_mem _ hk))]
end Go.Proofs.YtbobljddklldjaaGreatDoor
/- A diagram's form may be, and it is its own form: mathematics. -/
namespace Go.Proofs.YtbobljddklldjaaGreatDoor
theorem sd_zero {x:Cr} {a:Int} {p:Bool}:∀ k,(∀ t,t<k->¬(x.arc t=a/\x.comes t=p))->sd x a p k=0
 |0,_=>rfl
 |k+1,h=>by rw[sd,sd_zero k (fun t ht=>h t (by omega)),if_neg (h k (by omega))]
theorem sdTo_zero {C:List Cr} {a:Int} {p:Bool}:∀ i,(∀ j t,j<i->t<4->¬((C.getD j Cr.none).arc t=a/\(C.getD j Cr.none).comes t=p))->sdTo C a p i=0
 |0,_=>rfl
 |i+1,h=>by rw[sdTo,sdTo_zero i (fun j t hj ht=>h j t (by omega) ht),sd_zero 4 (fun t ht=>h i t (by omega) ht)]
theorem comes_plus {x y:Cr} (h:x.plus=y.plus) (s:Nat):x.comes s=y.comes s:=by unfold Cr.comes;rw[h]
theorem Iso.may {C D:List Cr} {f g r:Nat->Nat} {l1:Int} (I:Iso C D f g r) (hm:mayD C l1=true) (hr:∀ k s,k<C.length->s<4->1<=(D.getD k Cr.none).arc s/\(D.getD k Cr.none).arc s<=2*(C.length:Int)):mayD D l1=true:=by
 have hs:sizeB D l1=true:=by
  have:=may_size hm
  unfold sizeB at this ⊢
  rw[I.len]
  exact this
 have one:∀ i k j t,i<C.length->k<4->j<C.length->t<4->(D.getD j Cr.none).arc t=(D.getD i Cr.none).arc k->(D.getD j Cr.none).comes t=(D.getD i Cr.none).comes k->j=i/\t=k:=by
  intro i k j t hi hk hj ht ha hc
  have gi:=I.glt i hi
  have gj:=I.glt j hj
  have ei:=I.fg i hi
  have ej:=I.fg j hj
  have e:r (arcN (C.getD (g j) Cr.none) t)=r (arcN (C.getD (g i) Cr.none) k):=by
   rw[<-I.arc _ _ gj ht,<-I.arc _ _ gi hk,ei,ej]
   unfold arcN
   rw[ha]
  obtain⟨⟨a1,a2,-⟩,-,-,-⟩:=nb_may hm _ t gj ht
  obtain⟨⟨b1,b2,-⟩,-,-,-⟩:=nb_may hm _ k gi hk
  have e2:=I.rinj _ _ ⟨a1,a2⟩ ⟨b1,b2⟩ e
  rcases spot_eq hm gj ht gi hk e2 with⟨x,y⟩|⟨x,y⟩
  · refine⟨?_,y⟩
    rw[<-ei,<-ej,x]
  · exfalso
    have h:=nb_comes hm _ t gj ht
    rw[x,y]at h
    have p1:=comes_plus (I.plus _ gj) t
    have p2:=comes_plus (I.plus _ gi) k
    rw[ej]at p1
    rw[ei]at p2
    rw[<-p1,<-p2,hc]at h
    cases hb:(D.getD i Cr.none).comes k<;>rw[hb]at h<;>cases h
 refine fit_yes hs fun i k hi hk=>?_
 rw[I.len]at hi
 obtain⟨h1,h2⟩:=hr i k hi hk
 refine⟨h1,by rw[I.len];exact h2,?_⟩
 unfold ahd
 rw[sdTo_zero i (fun j t hj ht h=>by have:=(one i k j t hi hk (by omega) ht h.1 h.2).1;omega),sd_zero k (fun t ht h=>by have:=(one i k i t hi hk hi (by omega) h.1 h.2).2;omega)]
end Go.Proofs.YtbobljddklldjaaGreatDoor
