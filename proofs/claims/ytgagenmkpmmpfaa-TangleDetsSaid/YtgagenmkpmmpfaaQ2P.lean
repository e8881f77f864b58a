/- Several texts of the proof, one behind the other. -/
import Derived.Test.YtgagenmkpmmpfaaQ0P
import Derived.Test.YtgagenmkpmmpfaaF12P
import Derived.Test.YtgagenmkpmmpfaaO0P
import Derived.Deep.Cut
import Derived.Test.YtgagenmkpmmpfaaF2P
import Derived.Test.YtgagenmkpmmpfaaBK0P
/- Tables of numbers whose rows lie in blocks of their own; the walk of colour.clearBelow. -/
namespace Go.Proofs.Ytgagenmkpmmpfaa
open Go.RowKit
def hdr (n m:Nat) (gs:Nat->Nat):List Value:=(List.range n).map fun i=>.slice (some ⟨gs i,0,none⟩) m m
theorem hdr_len (n m:Nat) (gs:Nat->Nat):(hdr n m gs).length=n:=by simp[hdr]
theorem hdr_get (n m:Nat) (gs:Nat->Nat) (i:Nat) (h:i<n):(hdr n m gs)[i]?=some (.slice (some ⟨gs i,0,none⟩) m m):=by simp[hdr,h]
theorem hdr_ext {n m:Nat} {gs:Nat->Nat} {l:List Value} (hl:l.length=n) (h:∀ i,i<n->l[i]?=some (.slice (some ⟨gs i,0,none⟩) m m)):l=hdr n m gs:=by
 apply List.ext_getElem?
 intro j
 by_cases hj:j<n
 · rw[h j hj,hdr_get n m gs j hj]
 · rw[List.getElem?_eq_none (by omega),List.getElem?_eq_none (by rw[hdr_len];omega)]
structure TabO (B gt cap n m:Nat) (gs:Nat->Nat) (T:Nat->Nat->Int) (W:World):Prop where
 outer:W.ownsRow B 22 1 (.slice (some ⟨gt,0,none⟩) n cap) n (hdr n m gs)
 rows:∀ i,i<n->W.ownsRow B 3 1 (.slice (some ⟨gs i,0,none⟩) m m) m (intsV (mapI m (T i)))
 inj:∀ i j,i<n->j<n->gs i=gs j->i=j
theorem TabO.any {B gt cap n m:Nat} {gs:Nat->Nat} {T:Nat->Nat->Int} {W W':World} (h:TabO B gt cap n m gs T W) (hg:W.grownBy W' none):TabO B gt cap n m gs T W':=
 ⟨own_any h.outer hg,fun i hi=>own_any (h.rows i hi) hg,h.inj⟩
theorem TabO.set {B gt cap n m : Nat} {gs : Nat → Nat} {T T' : Nat → Nat → Int} {W : World} (h : TabO B gt cap n m gs T W) (i j : Nat) (x : Int) (hi : i < n) (hT : ∀ a b, a < n → b < m → T' a b = if a = i ∧ b = j then x else T a b) :
    TabO B gt cap n m gs T' (W.setCell ⟨gs i,j,none⟩ (.int .i64 x))/\W.grownBy (W.setCell ⟨gs i,j,none⟩ (.int .i64 x)) (some (gs i)):=by
 have hst:=(h.rows i hi).stored j (.int .i64 x)
 rw[intsV_set]at hst
 refine⟨⟨h.outer.kept hst.2 (own_ne h.outer (h.rows i hi) (by decide)),fun a ha=>?_,h.inj⟩,hst.2⟩
 by_cases e:a=i
 · subst e
   rw[mapI_set m (T a) (T' a) j x (fun b hb=>by rw[hT a b ha hb];by_cases e:b=j<;>simp[e])]at hst
   exact hst.1
 · have hr:=(h.rows a ha).kept hst.2 (Or.inr (fun q=>e (h.inj a i ha hi (Option.some.inj q))))
   rw[mapI_congr m (T' a) (T a) (fun b hb=>by rw[hT a b ha hb,if_neg (fun q=>e q.1)])]
   exact hr
theorem TabO.congr {B gt cap n m:Nat} {gs:Nat->Nat} {T T':Nat->Nat->Int} {W:World} (h:TabO B gt cap n m gs T W) (e:∀ x y,x<n->y<m->T' x y=T x y):TabO B gt cap n m gs T' W:=
 ⟨h.outer,fun i hi=>by rw[mapI_congr m (T' i) (T i) (fun y hy=>e i y hi hy)];exact h.rows i hi,h.inj⟩
def swq (a b i:Nat):Nat:=if i=a then b else if i=b then a else i
theorem swp_lt {a b i n:Nat} (ha:a<n) (hb:b<n) (hi:i<n):swq a b i<n:=by unfold swq;split;exact hb;split;exact ha;exact hi
theorem swq_swq (a b i:Nat):swq a b (swq a b i)=i:=by
 unfold swq
 by_cases h1:i=a
 · simp[h1]
 · by_cases h2:i=b
   · simp[h2]
   · simp[h1,h2]
theorem TabO.swap {B gt cap n m : Nat} {gs : Nat → Nat} {T : Nat → Nat → Int} {W : World} (h : TabO B gt cap n m gs T W) (a b : Nat) (ha : a < n) (hb : b < n) :
    TabO B gt cap n m (fun i=>gs (swq a b i)) (fun i=>T (swq a b i)) ((W.setCell ⟨gt,a,none⟩ (.slice (some ⟨gs b,0,none⟩) m m)).setCell ⟨gt,b,none⟩ (.slice (some ⟨gs a,0,none⟩) m m))/\W.grownBy ((W.setCell ⟨gt,a,none⟩ (.slice (some ⟨gs b,0,none⟩) m m)).setCell ⟨gt,b,none⟩ (.slice (some ⟨gs a,0,none⟩) m m)) (some gt):=by
 have h1:=h.outer.stored a (.slice (some ⟨gs b,0,none⟩) m m)
 have h2:=h1.1.stored b (.slice (some ⟨gs a,0,none⟩) m m)
 have hg:=grown_trans h1.2 h2.2
 refine⟨⟨?_,fun i hi=>?_,fun i j hi hj e=>?_⟩,hg⟩
 · have e : ((hdr n m gs).set a (.slice (some ⟨gs b, 0, none⟩) m m)).set b (.slice (some ⟨gs a, 0, none⟩) m m) = hdr n m (fun i => gs (swq a b i)) := by
     refine hdr_ext (by simp[hdr_len]) fun i hi=>?_
     simp only[List.getElem?_set,List.length_set,hdr_len]
     unfold swq
     by_cases e1:b=i
     · subst e1
       simp[hb]
       by_cases e2:b=a
       · simp[e2]
       · simp[e2]
     · by_cases e2:a=i
       · subst e2
         simp[e1,ha]
       · simp[e1,e2,Ne.symm e1,Ne.symm e2,hdr_get n m gs i hi]
   rw[<-e]
   exact h2.1
 · exact(h.rows _ (swp_lt ha hb hi)).kept hg (own_ne (h.rows _ (swp_lt ha hb hi)) h.outer (by decide))
 · have:=h.inj _ _ (swp_lt ha hb hi) (swp_lt ha hb hj) e
   rw[<-swq_swq a b i,this,swq_swq]
end Go.Proofs.Ytgagenmkpmmpfaa
/- Tables under way; the walk of colour.equations. -/
namespace Go.Proofs.Ytgagenmkpmmpfaa
open Go.RowKit
structure TabP (B n m:Nat) (gs:Nat->Nat) (T:Nat->Nat->Int) (v:Value) (W:World):Prop where
 outer:W.ownsRow B 22 1 v n (hdr n m gs)
 rows:∀ i,i<n->W.ownsRow B 3 1 (.slice (some ⟨gs i,0,none⟩) m m) m (intsV (mapI m (T i)))
 inj:∀ i j,i<n->j<n->gs i=gs j->i=j
theorem TabP.any {B n m:Nat} {gs:Nat->Nat} {T:Nat->Nat->Int} {v:Value} {W W':World} (h:TabP B n m gs T v W) (hg:W.grownBy W' none):TabP B n m gs T v W':=
 ⟨own_any h.outer hg,fun i hi=>own_any (h.rows i hi) hg,h.inj⟩
theorem TabP.nil (B m:Nat) (gs:Nat->Nat) (T:Nat->Nat->Int) (W:World):TabP B 0 m gs T (.slice none 0 0) W:=
 ⟨World.ownsRow_nil _ _ _ _,fun _ hi=>absurd hi (Nat.not_lt_zero _),fun _ _ hi=>absurd hi (Nat.not_lt_zero _)⟩
theorem TabP.other {B n m g:Nat} {gs:Nat->Nat} {T:Nat->Nat->Int} {v:Value} {W W':World} (h:TabP B n m gs T v W) (hg:W.grownBy W' (some g)) (hv:v.ownBlock≠some g) (hr:∀ i,i<n->gs i≠g):TabP B n m gs T v W':=
 ⟨h.outer.kept hg (Or.inr hv),fun i hi=>(h.rows i hi).kept hg (Or.inr (fun e=>hr i hi (Option.some.inj e))),h.inj⟩
theorem hdr_next (n m g:Nat) (gs:Nat->Nat):hdr n m gs++[.slice (some ⟨g,0,none⟩) m m]=hdr (n+1) m (fun i=>if i=n then g else gs i):=by
 unfold hdr
 rw[List.range_succ,List.map_append]
 congr 1
 · refine List.map_congr_left fun i hi=>?_
   have h:i≠n:=by have:=List.mem_range.1 hi;omega
   simp[h]
 · simp
theorem TabP.more {B n m g : Nat} {gs : Nat → Nat} {T : Nat → Nat → Int} {v v' : Value} {W W' : World} (h : TabP B n m gs T v W) (hr : W.ownsRow B 3 1 (.slice (some ⟨g, 0, none⟩) m m) m (intsV (mapI m (T n)))) (hne : ∀ i, i < n → gs i ≠ g)
    (hg:W.grownBy W' v.ownBlock) (ho:W'.ownsRow B 22 1 v' (n+1) (hdr n m gs++[.slice (some ⟨g,0,none⟩) m m])):TabP B (n+1) m (fun i=>if i=n then g else gs i) T v' W':=by
 refine⟨by rw[<-hdr_next];exact ho,fun i hi=>?_,fun i j hi hj e=>?_⟩
 · by_cases e:i=n
   · subst e
     simp only[if_true]
     exact hr.kept hg (own_ne hr h.outer (by decide))
   · simp only[if_neg e]
     have:=h.rows i (by omega)
     exact this.kept hg (own_ne this h.outer (by decide))
 · have e:(if i=n then g else gs i)=(if j=n then g else gs j):=e
   by_cases e1:i=n
   · by_cases e2:j=n
     · omega
     · rw[if_pos e1,if_neg e2]at e;exact absurd e.symm (hne j (by omega))
   · by_cases e2:j=n
     · rw[if_neg e1,if_pos e2]at e;exact absurd e (hne i (by omega))
     · rw[if_neg e1,if_neg e2]at e;exact h.inj i j (by omega) (by omega) e
theorem TabP.whole {B n m:Nat} {gs:Nat->Nat} {T:Nat->Nat->Int} {v:Value} {W:World} (h:TabP B n m gs T v W) (hn:0<n):∃ gt cap,v=.slice (some ⟨gt,0,none⟩) n cap/\n<=cap/\TabO B gt cap n m gs T W:=by
 rcases h.outer.2 with⟨_,h0⟩|⟨g,cap,cur,hv,_,_,hc,_⟩
 · omega
 · subst hv
   exact⟨g,cap,rfl,hc,h.outer,h.rows,h.inj⟩
theorem TabP.empty {B m:Nat} {gs:Nat->Nat} {T:Nat->Nat->Int} {v:Value} {W:World} (h:TabP B 0 m gs T v W):∃ a c,v=.slice a 0 c:=by
 obtain⟨a,c,e⟩:=own_capS h.outer
 exact⟨a,c,e⟩
def eqF (oa ob oc j:Nat):Int:=(if j=ob then 2 else 0)-(if j=oa then 1 else 0)-(if j=oc then 1 else 0)
def eqR (C:List Cr) (i:Nat):Nat->Int:=eqF (ovM C (C.getD i Cr.none).a.toNat) (ovM C (C.getD i Cr.none).b.toNat) (ovM C (C.getD i Cr.none).c.toNat)
theorem ovM_lt {C:List Cr} {loops:Int} (hm:mayD C loops=true) (a:Nat) (h1:1<=a) (h2:a<2*C.length+1):ovM C a<ovC C:=by
 have hL:=lowM_least (ovE_lt hm)
 have hp:=hL.pos (fun e he=>⟨(ovE_in hm e he).1.1,(ovE_in hm e he).2.1⟩) h2 h1
 have h3:rootsN (lowM C) ((lowM C).getD a 0+1)=ovM C a+1:=by
  show rootsN (lowM C) _+_=_
  rw[if_pos ⟨hp,hL.root h2⟩];rfl
 have h4:=rootsN_mono (lowM C) ((lowM C).getD a 0+1) (2*C.length+1) (by have:=hL.le h2;omega)
 unfold ovC
 omega
structure EqSt (w:World) (q gr k m:Nat) (gs:Nat->Nat) (T:Nat->Nat->Int) (v:Value) (box:Array Value) (f:Nat->Int) (X:World):Prop where
 row:X.ownsRow w.heap.size 3 1 (.slice (some ⟨gr,0,none⟩) m m) m (intsV (mapI m f))
 box:X.heap[q]?=some (.cells box 78 (0,0))
 tab:TabP w.heap.size k m gs T v X
 bel:Below w.heap.size w X
theorem EqSt.set {w X : World} {q gr k m : Nat} {gs : Nat → Nat} {T : Nat → Nat → Int} {v : Value} {box : Array Value} {f : Nat → Int} (h : EqSt w q gr k m gs T v box f X) (x : Nat) (z : Int) (f' : Nat → Int)
    (hf:∀ j,j<m->f' j=if j=x then z else f j) (hq:q≠gr) (hv:v.ownBlock≠some gr) (hr:∀ i,i<k->gs i≠gr):EqSt w q gr k m gs T v box f' (X.setCell ⟨gr,x,none⟩ (.int .i64 z)):=by
 have hst:=h.row.stored x (.int .i64 z)
 rw[intsV_set,mapI_set m f f' x z hf]at hst
 have hl:=h.row.lt gr rfl
 refine⟨hst.1,?_,h.tab.other hst.2 hv hr,h.bel.grown hst.2 h.bel.size (fun k hk=>by have:=Option.some.inj hk;omega)⟩
 have hqs:q<X.heap.size:=(Array.getElem?_eq_some_iff.1 h.box).1
 exact(hst.2.block q hqs (fun e=>hq (Option.some.inj e))).trans h.box
theorem EqSt.any {w X X':World} {q gr k m:Nat} {gs:Nat->Nat} {T:Nat->Nat->Int} {v:Value} {box:Array Value} {f:Nat->Int} (h:EqSt w q gr k m gs T v box f X) (hg:X.grownBy X' none):EqSt w q gr k m gs T v box f X':=
 ⟨own_any h.row hg,(hg.block q (Array.getElem?_eq_some_iff.1 h.box).1 (by simp)).trans h.box,h.tab.any hg,h.bel.grown hg h.bel.size (fun k hk=>by cases hk)⟩
theorem EqSt.cell {w X:World} {q gr k m:Nat} {gs:Nat->Nat} {T:Nat->Nat->Int} {v:Value} {box:Array Value} {f:Nat->Int} (h:EqSt w q gr k m gs T v box f X) (x:Nat) (hx:x<m):X.cell? ⟨gr,x,none⟩=some (.int .i64 (f x)):=by
 rw[h.row.cellAt x (by omega),intsV_get _ x (by rw[mapI_len];exact hx),mapI_at _ _ _ hx]
end Go.Proofs.Ytgagenmkpmmpfaa
/- Plain mathematics: what comes to crossings and what goes out, summed up; signs of crossings by shades: with these signs all equations of colourings together are nought. -/
namespace Go.Proofs.Ytgagenmkpmmpfaa
theorem sumS_pick (F:Nat->Int) {x:Int} (h1:1<=x):∀ M:Nat,sumS M (fun i=>F (i+1)*(if x=((i+1:Nat):Int) then 1 else 0))=if x<=M then F x.toNat else 0
 |0=>by rw[if_neg (by omega)];rfl
 |M+1=>by
  show sumS M _+F (M+1)*(if x=((M+1:Nat):Int) then 1 else 0)=_
  rw[sumS_pick F h1 M]
  by_cases e:x=((M+1:Nat):Int)
  · rw[if_neg (by omega),if_pos e,if_pos (by omega),show x.toNat=M+1 by omega];omega
  · rw[if_neg e,Int.mul_zero,Int.add_zero]
    by_cases g:x<=(M:Int)
    · rw[if_pos g,if_pos (by omega)]
    · rw[if_neg g,if_neg (by omega)]
def ioC (F:Nat->Int) (c:Cr) (p:Bool):Int:=(if c.comes 0=p then F (c.arc 0).toNat else 0)+(if c.comes 1=p then F (c.arc 1).toNat else 0)+(if c.comes 2=p then F (c.arc 2).toNat else 0)+(if c.comes 3=p then F (c.arc 3).toNat else 0)
theorem io_one (F:Nat->Int) (c:Cr) (p:Bool) (M s:Nat) (h:1<=c.arc s/\c.arc s<=M):sumS M (fun i=>F (i+1)*(((if c.arc s=((i+1:Nat):Int)/\c.comes s=p then 1 else 0:Nat)):Int))=if c.comes s=p then F (c.arc s).toNat else 0:=by
 by_cases hc:c.comes s=p
 · rw[if_pos hc]
   have:=sumS_pick F h.1 M
   rw[if_pos h.2]at this
   rw[<-this]
   refine sumS_congr fun i _=>?_
   by_cases e:c.arc s=((i+1:Nat):Int)
   · rw[if_pos ⟨e,hc⟩,if_pos e];rfl
   · rw[if_neg (fun q=>e q.1),if_neg e];rfl
 · rw[if_neg hc,sumS_congr (g:=fun _=>0) fun i _=>by rw[if_neg (fun q=>hc q.2)];simp,sumS_zero]
theorem io_in (F:Nat->Int) (c:Cr) (M:Nat) (h:∀ s,s<4->1<=c.arc s/\c.arc s<=M):sumS M (fun i=>F (i+1)*((sideIn c ((i+1:Nat):Int) 4:Nat):Int))=ioC F c true:=by
 unfold ioC
 rw[<-io_one F c true M 0 (h 0 (by omega)),<-io_one F c true M 1 (h 1 (by omega)),<-io_one F c true M 2 (h 2 (by omega)),<-io_one F c true M 3 (h 3 (by omega)),<-sumS_add,<-sumS_add,<-sumS_add]
 refine sumS_congr fun i _=>?_
 have e:sideIn c ((i+1:Nat):Int) 4=0+(if c.arc 0=((i+1:Nat):Int)/\c.comes 0=true then 1 else 0)+(if c.arc 1=((i+1:Nat):Int)/\c.comes 1=true then 1 else 0)+(if c.arc 2=((i+1:Nat):Int)/\c.comes 2=true then 1 else 0)+(if c.arc 3=((i+1:Nat):Int)/\c.comes 3=true then 1 else 0):=rfl
 rw[e,Nat.zero_add,Int.natCast_add,Int.natCast_add,Int.natCast_add,Int.mul_add,Int.mul_add,Int.mul_add]
theorem io_out (F:Nat->Int) (c:Cr) (M:Nat) (h:∀ s,s<4->1<=c.arc s/\c.arc s<=M):sumS M (fun i=>F (i+1)*((sideOut c ((i+1:Nat):Int) 4:Nat):Int))=ioC F c false:=by
 unfold ioC
 rw[<-io_one F c false M 0 (h 0 (by omega)),<-io_one F c false M 1 (h 1 (by omega)),<-io_one F c false M 2 (h 2 (by omega)),<-io_one F c false M 3 (h 3 (by omega)),<-sumS_add,<-sumS_add,<-sumS_add]
 refine sumS_congr fun i _=>?_
 have e:sideOut c ((i+1:Nat):Int) 4=0+(if c.arc 0=((i+1:Nat):Int)/\c.comes 0=false then 1 else 0)+(if c.arc 1=((i+1:Nat):Int)/\c.comes 1=false then 1 else 0)+(if c.arc 2=((i+1:Nat):Int)/\c.comes 2=false then 1 else 0)+(if c.arc 3=((i+1:Nat):Int)/\c.comes 3=false then 1 else 0):=rfl
 rw[e,Nat.zero_add,Int.natCast_add,Int.natCast_add,Int.natCast_add,Int.mul_add,Int.mul_add,Int.mul_add]
section
variable {C:List Cr} {loops:Int} (hm:mayD C loops=true)
include hm
theorem arcs_rng {k s:Nat} (hk:k<C.length) (hs:s<4):1<=(C.getD k Cr.none).arc s/\(C.getD k Cr.none).arc s<=((2*C.length:Nat):Int):=by
 have h:=may_fit hm k s hk hs
 have h1:=h.1
 have h2:=h.2.1
 omega
theorem io_all (F:Nat->Int):∀ k,k<=C.length->sumS (2*C.length) (fun i=>F (i+1)*((inTo C ((i+1:Nat):Int) k:Nat):Int))=sumS k (fun j=>ioC F (C.getD j Cr.none) true)/\sumS (2*C.length) (fun i=>F (i+1)*((outTo C ((i+1:Nat):Int) k:Nat):Int))=sumS k (fun j=>ioC F (C.getD j Cr.none) false)
 |0,_=>by
  constructor
  · rw[sumS_congr (g:=fun _=>0) fun i _=>by show F (i+1)*((0:Nat):Int)=0;simp,sumS_zero];rfl
  · rw[sumS_congr (g:=fun _=>0) fun i _=>by show F (i+1)*((0:Nat):Int)=0;simp,sumS_zero];rfl
 |k+1,hk=>by
  obtain⟨h1,h2⟩:=io_all F k (by omega)
  constructor
  · show _=sumS k _+ioC F (C.getD k Cr.none) true
    rw[<-h1,<-io_in F _ (2*C.length) (fun s hs=>arcs_rng hm (by omega) hs),<-sumS_add]
    refine sumS_congr fun i _=>?_
    show F (i+1)*((inTo C _ k+sideIn (C.getD k Cr.none) _ 4:Nat):Int)=_
    rw[Int.natCast_add,Int.mul_add]
  · show _=sumS k _+ioC F (C.getD k Cr.none) false
    rw[<-h2,<-io_out F _ (2*C.length) (fun s hs=>arcs_rng hm (by omega) hs),<-sumS_add]
    refine sumS_congr fun i _=>?_
    show F (i+1)*((outTo C _ k+sideOut (C.getD k Cr.none) _ 4:Nat):Int)=_
    rw[Int.natCast_add,Int.mul_add]
theorem io_same (F:Nat->Int):sumS C.length (fun j=>ioC F (C.getD j Cr.none) true)=sumS C.length (fun j=>ioC F (C.getD j Cr.none) false):=by
 obtain⟨h1,h2⟩:=io_all hm F C.length (Nat.le_refl _)
 rw[<-h1,<-h2]
 refine sumS_congr fun i hi=>?_
 have h:=hm
 unfold mayD at h
 rw[Bool.and_eq_true,List.all_eq_true]at h
 have h3:=h.2 i (List.mem_range.2 hi)
 unfold onceB at h3
 rw[Bool.and_eq_true,decide_eq_true_eq,decide_eq_true_eq]at h3
 rw[h3.1,h3.2]
theorem ov_bd {k:Nat} (hk:k<C.length):ovM C (C.getD k Cr.none).b.toNat=ovM C (C.getD k Cr.none).d.toNat:=by
 have hL:=lowM_least (ovE_lt hm)
 have hmem:((C.getD k Cr.none).b.toNat,(C.getD k Cr.none).d.toNat)∈ovE C:=by
  unfold ovE
  refine List.mem_map.2 ⟨C.getD k Cr.none,?_,rfl⟩
  rw[List.getD_eq_getElem?_getD,List.getElem?_eq_getElem hk]
  exact List.getElem_mem hk
 have hb:=ovE_lt hm _ hmem
 unfold ovM
 rw[(hL.same hb.1 hb.2).2 (Con.edge hmem)]
end
end Go.Proofs.Ytgagenmkpmmpfaa
