/- Several texts of the proof, one behind the other. -/
import Derived.Test.YtgagenmkpmmpfaaC7P
import Derived.Test.YtgagenmkpmmpfaaC5P
import Derived.Shelf.SlSortCmp.WholeK
import Derived.Test.YtgagenmkpmmpfaaProg
import Derived.Shelf.SlSortCmp.NoneTotal
import Derived.Sort.OwnSorted
import Derived.Deep.Cut
import Derived.Test.YtgagenmkpmmpfaaF7P
import Derived.Test.YtgagenmkpmmpfaaF1P
import Derived.Deep.RegionLaw
import Derived.Test.YtgagenmkpmmpfaaF2P
/- slices.SortFunc over a row of tellings: its library contract applied. -/
namespace Go.Proofs.Ytgagenmkpmmpfaa
open Go.RowKit Go.Sort
def keyT (p:List Nat×List Int):List Int:=(p.1.length:Int)::p.2
def SortedT (L:Nat->List Nat×List Int) (σ:List Nat):Prop:=σ.Pairwise (fun x y=>¬cmpT (L y) (L x)<0)
end Go.Proofs.Ytgagenmkpmmpfaa
/- Where canon.canonical stands. -/
namespace Go.Proofs.Ytgagenmkpmmpfaa
open Go.RowKit Go.Maps
def canGo (C:List Cr):List Nat->List Nat->List Cr
 |_,[]=>[]
 |F,c::os=>canX F (C.getD c Cr.none)::canGo C (addN F (C.getD c Cr.none) 4) os
end Go.Proofs.Ytgagenmkpmmpfaa
/- What ref.CanonForm reckons: least tellings of pieces by their codes. -/
namespace Go.Proofs.Ytgagenmkpmmpfaa
open Go.RowKit
structure RfAt (B:Nat) (Hc Ho:List Nat) (T:Nat->List Nat×List Int) (v4 v5:Value) (cs os:List Value) (W:World):Prop where
 cl:cs.length=Hc.length
 ol:os.length=Ho.length
 cr:W.ownsRow B 22 1 v4 Hc.length cs
 orr:W.ownsRow B 22 1 v5 Ho.length os
 c:∀ i,i<Hc.length->W.ownsRow B 3 1 (cs.getD i (.bool false)) (T (Hc.getD i 0)).2.length (intsV (T (Hc.getD i 0)).2)
 o:∀ i,i<Ho.length->W.ownsRow B 3 1 (os.getD i (.bool false)) (T (Ho.getD i 0)).1.length (nats (T (Ho.getD i 0)).1)
 ne:v4.ownBlock=none∨v4.ownBlock≠v5.ownBlock
section
variable {B:Nat} {Hc Ho:List Nat} {T:Nat->List Nat×List Int} {v4 v5:Value} {cs os:List Value} {W:World}
theorem RfAt.any {W':World} (h:RfAt B Hc Ho T v4 v5 cs os W) (hg:W.grownBy W' none):RfAt B Hc Ho T v4 v5 cs os W':=
 ⟨h.cl,h.ol,own_any h.cr hg,own_any h.orr hg,fun i hi=>own_any (h.c i hi) hg,fun i hi=>own_any (h.o i hi) hg,h.ne⟩
theorem RfAt.kept {W':World} {B' e n s:Nat} {u:Value} {xs:List Value} (h:RfAt B Hc Ho T v4 v5 cs os W) (ho:W.ownsRow B' e s u n xs) (he1:e≠3) (he2:e≠22) (hg:W.grownBy W' u.ownBlock):RfAt B Hc Ho T v4 v5 cs os W':=
 ⟨h.cl,h.ol,h.cr.kept hg (own_ne h.cr ho (fun e=>he2 e.symm)),h.orr.kept hg (own_ne h.orr ho (fun e=>he2 e.symm)),fun i hi=>(h.c i hi).kept hg (own_ne (h.c i hi) ho (fun e=>he1 e.symm)),fun i hi=>(h.o i hi).kept hg (own_ne (h.o i hi) ho (fun e=>he1 e.symm)),h.ne⟩
theorem RfAt.low {W':World} {q:Nat} (h:RfAt B Hc Ho T v4 v5 cs os W) (hq:q<B) (hg:W.grownBy W' (some q)):RfAt B Hc Ho T v4 v5 cs os W':=by
 have hl:∀ {e s k:Nat} {u:Value} {xs:List Value},W.ownsRow B e s u k xs->u.ownBlock=none∨u.ownBlock≠some q:=fun ho=>Or.inr (fun e=>by have:=(ho.lt _ e).1;omega)
 exact⟨h.cl,h.ol,h.cr.kept hg (hl h.cr),h.orr.kept hg (hl h.orr),fun i hi=>(h.c i hi).kept hg (hl (h.c i hi)),fun i hi=>(h.o i hi).kept hg (hl (h.o i hi)),h.ne⟩
theorem getD_snoc_lt {α:Type} (l:List α) (x d:α) (i:Nat) (h:i<l.length):(l++[x]).getD i d=l.getD i d:=by simp[List.getD,List.getElem?_append_left h]
theorem getD_snoc_eq {α:Type} (l:List α) (x d:α):(l++[x]).getD l.length d=x:=by simp[List.getD]
theorem RfAt.code {p g k cap H : Nat} {u : Value} {W8 : World} (h : RfAt B Hc Ho T v4 v5 cs os W) (hk : k = Hc.length + 1) (hu : W.ownsRow B 3 1 u (T p).2.length (intsV (T p).2)) (hown : W8.ownsRow B 22 1 (.slice (some ⟨g, 0, none⟩) k cap) k (cs ++ [u])) (hg : W.grownBy W8 v4.ownBlock) (hl : v4.ownBlock = some g ∨ g = H) (hH : W.heap.size = H) :
    RfAt B (Hc++[p]) Ho T (.slice (some ⟨g,0,none⟩) k cap) v5 (cs++[u]) os W8:=by
 subst hk
 have hv:v5.ownBlock=none∨v5.ownBlock≠v4.ownBlock:=by
  cases hv:v5.ownBlock with
  |none=>exact Or.inl rfl
  |some q=>
   refine Or.inr (fun e=>?_)
   have:=h.ne
   rw[hv,<-e]at this
   rcases this with h1|h1
   · cases h1
   · exact h1 rfl
 have hI:∀ {n:Nat} {v:Value} {xs:List Value},W.ownsRow B 3 1 v n xs->W8.ownsRow B 3 1 v n xs:=fun ho=>ho.kept hg (own_ne ho h.cr (by decide))
 refine⟨by simp[h.cl],h.ol,by simpa using hown,h.orr.kept hg hv,fun i hi=>?_,fun i hi=>hI (h.o i hi),?_⟩
 · by_cases e:i<Hc.length
   · rw[getD_snoc_lt _ _ _ _ e,getD_snoc_lt _ _ _ _ (by rw[h.cl];exact e)]
     exact hI (h.c i e)
   · have e2:i=Hc.length:=by simp at hi;omega
     subst e2
     rw[getD_snoc_eq,<-h.cl,getD_snoc_eq]
     exact hI hu
 · refine Or.inr (fun e=>?_)
   have e':some g=v5.ownBlock:=e
   rcases hl with hl|hl
   · rcases hv with h1|h1
     · rw[h1]at e';cases e'
     · exact h1 (by rw[hl,<-e'])
   · have h1:=(h.orr.lt g e'.symm).2
     omega
theorem RfAt.order {p g k cap H : Nat} {u : Value} {W8 : World} (h : RfAt B Hc Ho T v4 v5 cs os W) (hk : k = Ho.length + 1) (hu : W.ownsRow B 3 1 u (T p).1.length (nats (T p).1)) (hown : W8.ownsRow B 22 1 (.slice (some ⟨g, 0, none⟩) k cap) k (os ++ [u])) (hg : W.grownBy W8 v5.ownBlock) (hl : v5.ownBlock = some g ∨ g = H) (hH : W.heap.size = H) :
    RfAt B Hc (Ho++[p]) T v4 (.slice (some ⟨g,0,none⟩) k cap) cs (os++[u]) W8:=by
 subst hk
 have hI:∀ {n:Nat} {v:Value} {xs:List Value},W.ownsRow B 3 1 v n xs->W8.ownsRow B 3 1 v n xs:=fun ho=>ho.kept hg (own_ne ho h.orr (by decide))
 refine⟨h.cl,by simp[h.ol],h.cr.kept hg h.ne,by simpa using hown,fun i hi=>hI (h.c i hi),fun i hi=>?_,?_⟩
 · by_cases e:i<Ho.length
   · rw[getD_snoc_lt _ _ _ _ e,getD_snoc_lt _ _ _ _ (by rw[h.ol];exact e)]
     exact hI (h.o i e)
   · have e2:i=Ho.length:=by simp at hi;omega
     subst e2
     rw[getD_snoc_eq,<-h.ol,getD_snoc_eq]
     exact hI hu
 · rcases hl with hl|hl
   · rcases h.ne with h1|h1
     · exact Or.inl h1
     · refine Or.inr (fun e=>h1 ?_)
       rw[hl]
       exact e
   · cases hv:v4.ownBlock with
     |none=>exact Or.inl rfl
     |some q=>
      refine Or.inr (fun e=>?_)
      have h1:=(h.cr.lt q hv).2
      have h2:q=g:=Option.some.inj e
      omega
end
end Go.Proofs.Ytgagenmkpmmpfaa
/- Which piece ref.CanonForm takes next; which numbers its arcs have. -/
namespace Go.Proofs.Ytgagenmkpmmpfaa
open Go.RowKit
structure PickS (L:Nat->List Nat×List Int) (m:Nat) (τ:List Nat):Prop where
 nd:τ.Nodup
 lt:∀ x,x∈τ->x<m
 srt:SortedT L τ
 rest:∀ x,x∈τ->∀ y,y<m->y ∉ τ->¬cmpT (L y) (L x)<0
theorem PickS.nil (L:Nat->List Nat×List Int) (m:Nat):PickS L m []:=⟨List.nodup_nil,(fun x h=>by cases h),List.Pairwise.nil,(fun x h=>by cases h)⟩
theorem PickS.next {L:Nat->List Nat×List Int} {m k:Nat} {τ:List Nat} (h:PickS L m τ) (hk:k<m) (hn:k ∉ τ) (hl:∀ y,y<m->y ∉ τ->¬cmpT (L y) (L k)<0):PickS L m (τ++[k]):=by
 refine⟨List.nodup_append.2 ⟨h.nd,by simp,fun a ha b hb e=>?_⟩,fun x hx=>?_,?_,fun x hx y hy hny=>?_⟩
 · rw[List.mem_singleton.1 hb]at e
   rw[e]at ha
   exact hn ha
 · rcases List.mem_append.1 hx with hx|hx
   · exact h.lt x hx
   · rw[List.mem_singleton.1 hx];exact hk
 · unfold SortedT
   refine List.pairwise_append.2 ⟨h.srt,List.pairwise_singleton _ _,fun x hx y hy=>?_⟩
   rw[List.mem_singleton.1 hy]
   exact h.rest x hx k hk hn
 · have hny1:y ∉ τ:=fun e=>hny (List.mem_append_left _ e)
   rcases List.mem_append.1 hx with hx|hx
   · exact h.rest x hx y hy hny1
   · rw[List.mem_singleton.1 hx];exact hl y hy hny1
theorem PickS.few {L:Nat->List Nat×List Int} {m:Nat} {τ:List Nat} (h:PickS L m τ):τ.length<=m:=by
 have:=List.Nodup.length_le_of_subset h.nd (l₂:=List.range m) (fun x hx=>List.mem_range.2 (h.lt x hx))
 simpa using this
theorem PickS.free {L:Nat->List Nat×List Int} {m:Nat} {τ:List Nat} (_h:PickS L m τ) (hl:τ.length<m):∃ y,y<m/\y ∉ τ:=by
 refine Classical.byContradiction fun hno=>?_
 have hsub:List.range m ⊆ τ:=fun x hx=>Classical.byContradiction fun hn=>hno ⟨x,List.mem_range.1 hx,hn⟩
 have:=List.Nodup.length_le_of_subset List.nodup_range hsub
 simp at this
 omega
def arF (F:List Nat) (x:Nat):Int:=if x∈F then(F.idxOf x:Int)+1 else 0
theorem arF_new (n:Nat) (F:List Nat) (x:Nat) (hx:x ∉ F):(mapI n (arF F)).set x ((F.length:Int)+1)=mapI n (arF (F++[x])):=by
 refine mapI_set _ _ _ _ _ fun y _=>?_
 unfold arF
 by_cases e:y=x
 · subst e
   rw[if_pos rfl,if_pos (by simp),List.idxOf_append,if_neg hx]
   simp
 · rw[if_neg e]
   by_cases h:y∈F
   · rw[if_pos h,if_pos (List.mem_append_left _ h),List.idxOf_append,if_pos h]
   · rw[if_neg h,if_neg (fun h2=>by rcases List.mem_append.1 h2 with h2|h2;exact h h2;exact e (by simpa using h2))]
def mapB (m:Nat) (f:Nat->Bool):List Bool:=(List.range m).map f
theorem mapB_len (m:Nat) (f:Nat->Bool):(mapB m f).length=m:=by simp[mapB]
theorem mapB_set (m:Nat) (τ:List Nat) (k:Nat):(mapB m fun i=>decide (i∈τ)).set k true=mapB m fun i=>decide (i∈τ++[k]):=by
 apply List.ext_getElem?
 intro j
 rw[List.getElem?_set]
 by_cases hj:j<m
 · simp only[mapB,List.getElem?_map,List.getElem?_range hj,Option.map_some,List.length_map,List.length_range]
   by_cases e:k=j
   · subst e;simp[hj]
   · rw[if_neg e]
     simp only[List.mem_append,List.mem_singleton]
     congr 1
     refine decide_eq_decide.2 ⟨Or.inl,fun h=>h.elim id (fun h=>absurd h.symm e)⟩
 · rw[List.getElem?_eq_none (by rw[mapB_len];omega),List.getElem?_eq_none (by rw[mapB_len];omega)]
   split
   · rw[if_neg (by rw[mapB_len];omega)]
   · rfl
structure StB (W3:World) (n:Nat) (loops:Int) (gU m:Nat) (F τ:List Nat) (acc:List Cr) (v:Value) (W:World):Prop where
 bel:Below W3.heap.size W3 W
 out:OutAt W (W3.heap.size+1) W3.heap.size v loops acc
 arc:W.ownsRow (W3.heap.size+1) 3 1 (.slice (some ⟨W3.heap.size+1,0,none⟩) (2*n+1) (2*n+1)) (2*n+1) (intsV (mapI (2*n+1) (arF F)))
 use:W.ownsRow (W3.heap.size+1) 4 1 (.slice (some ⟨gU,0,none⟩) m m) m (bools (mapB m fun i=>decide (i∈τ)))
section
variable {W3:World} {n:Nat} {loops:Int} {gU m:Nat} {F τ:List Nat} {acc:List Cr} {v:Value} {W:World}
theorem StB.any {W':World} (h:StB W3 n loops gU m F τ acc v W) (hg:W.grownBy W' none):StB W3 n loops gU m F τ acc v W':=
 ⟨h.bel.grown hg h.bel.size (fun k hk=>by cases hk),⟨(hg.block _ (Array.getElem?_eq_some_iff.1 h.out.box).1 (by simp)).trans h.out.box,own_any h.out.row hg⟩,own_any h.arc hg,own_any h.use hg⟩
theorem StB.sz (h:StB W3 n loops gU m F τ acc v W):W3.heap.size+1<W.heap.size/\gU<W.heap.size/\W3.heap.size+1<=gU/\gU≠W3.heap.size+1:=by
 refine⟨(h.arc.lt _ rfl).2,(h.use.lt _ rfl).2,(h.use.lt _ rfl).1,fun e=>?_⟩
 rcases own_ne h.use h.arc (by decide) with h1|h1
 · cases h1
 · exact h1 (by rw[e];rfl)
theorem StB.take {k:Nat} (h:StB W3 n loops gU m F τ acc v W):StB W3 n loops gU m F (τ++[k]) acc v (W.setCell ⟨gU,k,none⟩ (.bool true)):=by
 obtain⟨s1,s2,s3,s4⟩:=h.sz
 have hS:=set_grown W gU k (.bool true)
 have hst:=(h.use.stored k (.bool true)).1
 rw[bools_set,mapB_set]at hst
 refine⟨h.bel.grown hS h.bel.size (fun q hq=>by have:=Option.some.inj hq;omega),⟨(hS.block _ (by omega) (fun e=>by have:=Option.some.inj e;omega)).trans h.out.box,h.out.row.kept hS ?_⟩,h.arc.kept hS (Or.inr (fun e=>s4 (Option.some.inj e).symm)),hst⟩
 exact own_ne h.out.row h.use (by decide)
theorem StB.num {x:Nat} (h:StB W3 n loops gU m F τ acc v W) (hx:x ∉ F):StB W3 n loops gU m (F++[x]) τ acc v (W.setCell ⟨W3.heap.size+1,x,none⟩ (.int .i64 ((F.length:Int)+1))):=by
 obtain⟨s1,s2,s3,s4⟩:=h.sz
 have hS:=set_grown W (W3.heap.size+1) x (.int .i64 ((F.length:Int)+1))
 have hst:=(h.arc.stored x (.int .i64 ((F.length:Int)+1))).1
 rw[intsV_set,arF_new _ _ _ hx]at hst
 refine⟨h.bel.grown hS h.bel.size (fun q hq=>by have:=Option.some.inj hq;omega),⟨(hS.block _ (by omega) (fun e=>by have:=Option.some.inj e;omega)).trans h.out.box,h.out.row.kept hS (own_ne h.out.row h.arc (by decide))⟩,hst,h.use.kept hS (own_ne h.use h.arc (by decide))⟩
theorem StB.row {k:Nat} {u:Value} {xs:List Value} {W':World} (h:StB W3 n loops gU m F τ acc v W) (ho:W.ownsRow (W3.heap.size+2) 3 1 u k xs) (hg:W.grownBy W' u.ownBlock):StB W3 n loops gU m F τ acc v W':=by
 obtain⟨s1,s2,s3,s4⟩:=h.sz
 have hlow:∀ q,q<W3.heap.size+2->some q≠u.ownBlock:=fun q hq e=>by have:=(ho.lt q e.symm).1;omega
 exact⟨h.bel.grown hg h.bel.size (fun q hq=>by have:=(ho.lt q hq).1;omega),⟨(hg.block _ (by omega) (hlow _ (by omega))).trans h.out.box,h.out.row.kept hg (own_ne h.out.row ho (by decide))⟩,h.arc.kept hg (Or.inr (hlow (W3.heap.size+1) (by omega))),h.use.kept hg (own_ne h.use ho (by decide))⟩
end
end Go.Proofs.Ytgagenmkpmmpfaa
