/- Several texts of the proof, one behind the other. -/
import Derived.Test.YtjcagkgpbcdghaaDoorF7P
import Derived.Test.YtjcagkgpbcdghaaDoorW3P
import Derived.Deep.Cut
import Derived.Test.YtjcagkgpbcdghaaDoorCL4P
import Derived.Test.YtjcagkgpbcdghaaDoorPMathP
/- One more than the greatest number of a list; the walk of ref.mostOf. -/
namespace Go.Proofs.YtjcagkgpbcdghaaDoor
open Go.RowKit
def QY1 (l:List Nat):Nat->Nat
 |0=>0
 |k+1=>max (QY1 l k) (l.getD k 0+1)
theorem KZ8 (l:List Nat) (B k:Nat) (hk:k<=l.length) (h:∀ x,x∈l->x<B):QY1 l k<=B:=by
 induction k with
 |zero=>exact Nat.zero_le _
 |succ k ih=>
  have:=ih (by omega)
  have h2:=h (l.getD k 0) (by rw[List.getD_eq_getElem?_getD,List.getElem?_eq_getElem (by omega)];exact List.getElem_mem _)
  simp only[QY1]
  omega
theorem KZ7 {C:List Cr} (hL:Least (ovE C) (2*C.length+1) (QK4 C)) (hpos:∀ v,1<=v->v<2*C.length+1->1<=(QK4 C).getD v 0) (k:Nat) (hk:k<=2*C.length):QY1 (ovL C (2*C.length)) k=QQ6 (QK4 C) (k+1):=by
 induction k with
 |zero=>simp[QY1,QQ6]
 |succ k ih=>
  have h1:=ih (by omega)
  have e:(ovL C (2*C.length)).getD k 0=ovM C (k+1):=by simp[ovL,List.getD_eq_getElem?_getD,show k<2*C.length by omega]
  have hv:k+1<2*C.length+1:=by omega
  simp only[QY1]
  rw[h1,e]
  show max (QQ6 (QK4 C) (k+1)) (ovM C (k+1)+1)=QQ6 (QK4 C) (k+1)+(if 1<=k+1/\(QK4 C).getD (k+1) 0=k+1 then 1 else 0)
  by_cases hr:(QK4 C).getD (k+1) 0=k+1
  · rw[if_pos ⟨by omega,hr⟩]
    unfold ovM
    rw[hr]
    omega
  · rw[if_neg (fun z=>hr z.2)]
    have hle:=hL.le hv
    have hp:=hpos (k+1) (by omega) hv
    have hroot:=hL.root hv
    have h3:QQ6 (QK4 C) ((QK4 C).getD (k+1) 0+1)=ovM C (k+1)+1:=by
     show QQ6 (QK4 C) _+_=_
     rw[if_pos ⟨hp,hroot⟩]
     rfl
    have h4:=QD1 (QK4 C) ((QK4 C).getD (k+1) 0+1) (k+1) (by omega)
    omega
end Go.Proofs.YtjcagkgpbcdghaaDoor
/- Tables of numbers whose rows lie in blocks of their own; the walk of colour.clearBelow. -/
namespace Go.Proofs.YtjcagkgpbcdghaaDoor
open Go.RowKit
def hdr (n m:Nat) (gs:Nat->Nat):List Value:=(List.range n).map fun i=>.slice (some ⟨gs i,0,none⟩) m m
theorem Xf3 (n m:Nat) (gs:Nat->Nat):(hdr n m gs).length=n:=by simp[hdr]
theorem Zy6 (n m:Nat) (gs:Nat->Nat) (i:Nat) (h:i<n):(hdr n m gs)[i]?=some (.slice (some ⟨gs i,0,none⟩) m m):=by simp[hdr,h]
theorem JZ3 {n m:Nat} {gs:Nat->Nat} {l:List Value} (hl:l.length=n) (h:∀ i,i<n->l[i]?=some (.slice (some ⟨gs i,0,none⟩) m m)):l=hdr n m gs:=by
 apply List.ext_getElem?
 intro j
 by_cases hj:j<n
 · rw[h j hj,Zy6 n m gs j hj]
 · rw[List.getElem?_eq_none (by omega),List.getElem?_eq_none (by rw[Xf3];omega)]
structure TabO (B gt cap n m:Nat) (gs:Nat->Nat) (T:Nat->Nat->Int) (W:World):Prop where
 outer:W.ownsRow B 22 1 (.slice (some ⟨gt,0,none⟩) n cap) n (hdr n m gs)
 rows:∀ i,i<n->W.ownsRow B 3 1 (.slice (some ⟨gs i,0,none⟩) m m) m (QQ3 (QA8 m (T i)))
 inj:∀ i j,i<n->j<n->gs i=gs j->i=j
theorem TabO.any {B gt cap n m:Nat} {gs:Nat->Nat} {T:Nat->Nat->Int} {W W':World} (h:TabO B gt cap n m gs T W) (hg:W.grownBy W' none):TabO B gt cap n m gs T W':=
 ⟨own_any h.outer hg,fun i hi=>own_any (h.rows i hi) hg,h.inj⟩
theorem TabO.set {B gt cap n m : Nat} {gs : Nat → Nat} {T T' : Nat → Nat → Int} {W : World} (h : TabO B gt cap n m gs T W) (i j : Nat) (x : Int) (hi : i < n) (hT : ∀ a b, a < n → b < m → T' a b = if a = i ∧ b = j then x else T a b) :
    TabO B gt cap n m gs T' (W.setCell ⟨gs i,j,none⟩ (.int .i64 x))/\W.grownBy (W.setCell ⟨gs i,j,none⟩ (.int .i64 x)) (some (gs i)):=by
 have hst:=(h.rows i hi).stored j (.int .i64 x)
 rw[QK0]at hst
 refine⟨⟨h.outer.kept hst.2 (own_ne h.outer (h.rows i hi) (by decide)),fun a ha=>?_,h.inj⟩,hst.2⟩
 by_cases e:a=i
 · subst e
   rw[Qq5 m (T a) (T' a) j x (fun b hb=>by rw[hT a b ha hb];by_cases e:b=j<;>simp[e])]at hst
   exact hst.1
 · have hr:=(h.rows a ha).kept hst.2 (Or.inr (fun q=>e (h.inj a i ha hi (Option.some.inj q))))
   rw[Qb5 m (T' a) (T a) (fun b hb=>by rw[hT a b ha hb,if_neg (fun q=>e q.1)])]
   exact hr
theorem TabO.congr {B gt cap n m:Nat} {gs:Nat->Nat} {T T':Nat->Nat->Int} {W:World} (h:TabO B gt cap n m gs T W) (e:∀ x y,x<n->y<m->T' x y=T x y):TabO B gt cap n m gs T' W:=
 ⟨h.outer,fun i hi=>by rw[Qb5 m (T' i) (T i) (fun y hy=>e i y hi hy)];exact h.rows i hi,h.inj⟩
def swq (a b i:Nat):Nat:=if i=a then b else if i=b then a else i
theorem ZZ2 {a b i n:Nat} (ha:a<n) (hb:b<n) (hi:i<n):swq a b i<n:=by unfold swq;split;exact hb;split;exact ha;exact hi
theorem Zv2 (a b i:Nat):swq a b (swq a b i)=i:=by
 unfold swq
 by_cases h1:i=a
 · simp[h1]
 · by_cases h2:i=b
   · simp[h2]
   · simp[h1,h2]
theorem TabO.swap {B gt cap n m : Nat} {gs : Nat → Nat} {T : Nat → Nat → Int} {W : World} (h : TabO B gt cap n m gs T W) (a b : Nat) (ha : a < n) (hb : b < n) :
    TabO B gt cap n m (fun i=>gs (swq a b i)) (fun i=>T (swq a b i)) ((W.setCell ⟨gt,a,none⟩ (.slice (some ⟨gs b,0,none⟩) m m)).setCell ⟨gt,b,none⟩ (.slice (some ⟨gs a,0,none⟩) m m))/\W.grownBy ((W.setCell ⟨gt,a,none⟩ (.slice (some ⟨gs b,0,none⟩) m m)).setCell ⟨gt,b,none⟩ (.slice (some ⟨gs a,0,none⟩) m m)) (some gt):=by
 have h1:=h.outer.stored a (.slice (some ⟨gs b,0,none⟩) m m)
 have h2:=h1.1.stored b (.slice (some ⟨gs a,0,none⟩) m m)
 have hg:=grown_trans h1.2 h2.2
 refine⟨⟨?_,fun i hi=>?_,fun i j hi hj e=>?_⟩,hg⟩
 · have e : ((hdr n m gs).set a (.slice (some ⟨gs b, 0, none⟩) m m)).set b (.slice (some ⟨gs a, 0, none⟩) m m) = hdr n m (fun i => gs (swq a b i)) := by
     refine JZ3 (by simp[Xf3]) fun i hi=>?_
     simp only[List.getElem?_set,List.length_set,Xf3]
     unfold swq
     by_cases e1:b=i
     · subst e1
       simp[hb]
       by_cases e2:b=a
       · simp[e2]
       · simp[e2]
     · by_cases e2:a=i
       · subst e2
         simp[e1,ha]
       · simp[e1,e2,Ne.symm e1,Ne.symm e2,Zy6 n m gs i hi]
   rw[<-e]
   exact h2.1
 · exact(h.rows _ (ZZ2 ha hb hi)).kept hg (own_ne (h.rows _ (ZZ2 ha hb hi)) h.outer (by decide))
 · have:=h.inj _ _ (ZZ2 ha hb hi) (ZZ2 ha hb hj) e
   rw[<-Zv2 a b i,this,Zv2]
end Go.Proofs.YtjcagkgpbcdghaaDoor
/- Tables under way; the walk of colour.equations. -/
namespace Go.Proofs.YtjcagkgpbcdghaaDoor
open Go.RowKit
structure TabP (B n m:Nat) (gs:Nat->Nat) (T:Nat->Nat->Int) (v:Value) (W:World):Prop where
 outer:W.ownsRow B 22 1 v n (hdr n m gs)
 rows:∀ i,i<n->W.ownsRow B 3 1 (.slice (some ⟨gs i,0,none⟩) m m) m (QQ3 (QA8 m (T i)))
 inj:∀ i j,i<n->j<n->gs i=gs j->i=j
theorem TabP.any {B n m:Nat} {gs:Nat->Nat} {T:Nat->Nat->Int} {v:Value} {W W':World} (h:TabP B n m gs T v W) (hg:W.grownBy W' none):TabP B n m gs T v W':=
 ⟨own_any h.outer hg,fun i hi=>own_any (h.rows i hi) hg,h.inj⟩
theorem TabP.nil (B m:Nat) (gs:Nat->Nat) (T:Nat->Nat->Int) (W:World):TabP B 0 m gs T (.slice none 0 0) W:=
 ⟨World.ownsRow_nil _ _ _ _,fun _ hi=>absurd hi (Nat.not_lt_zero _),fun _ _ hi=>absurd hi (Nat.not_lt_zero _)⟩
theorem TabP.other {B n m g:Nat} {gs:Nat->Nat} {T:Nat->Nat->Int} {v:Value} {W W':World} (h:TabP B n m gs T v W) (hg:W.grownBy W' (some g)) (hv:v.ownBlock≠some g) (hr:∀ i,i<n->gs i≠g):TabP B n m gs T v W':=
 ⟨h.outer.kept hg (Or.inr hv),fun i hi=>(h.rows i hi).kept hg (Or.inr (fun e=>hr i hi (Option.some.inj e))),h.inj⟩
theorem KA6 (n m g:Nat) (gs:Nat->Nat):hdr n m gs++[.slice (some ⟨g,0,none⟩) m m]=hdr (n+1) m (fun i=>if i=n then g else gs i):=by
 unfold hdr
 rw[List.range_succ,List.map_append]
 congr 1
 · refine List.map_congr_left fun i hi=>?_
   have h:i≠n:=by have:=List.mem_range.1 hi;omega
   simp[h]
 · simp
theorem TabP.more {B n m g : Nat} {gs : Nat → Nat} {T : Nat → Nat → Int} {v v' : Value} {W W' : World} (h : TabP B n m gs T v W) (hr : W.ownsRow B 3 1 (.slice (some ⟨g, 0, none⟩) m m) m (QQ3 (QA8 m (T n)))) (hne : ∀ i, i < n → gs i ≠ g)
    (hg:W.grownBy W' v.ownBlock) (ho:W'.ownsRow B 22 1 v' (n+1) (hdr n m gs++[.slice (some ⟨g,0,none⟩) m m])):TabP B (n+1) m (fun i=>if i=n then g else gs i) T v' W':=by
 refine⟨by rw[<-KA6];exact ho,fun i hi=>?_,fun i j hi hj e=>?_⟩
 · by_cases e:i=n
   · subst e
     simp only[if_true]
     exact hr.kept hg (own_ne hr h.outer (by decide))
   · simp only[if_neg e]
     have:=h.rows i (by omega)
     exact this.kept hg (own_ne this h.outer (by decide))
 · have e:(if i=n then g else gs i)=(if j=n then g else gs j):=e
   by_cases e1:i=n
   · by_cases e2:j=n
     · omega
     · rw[if_pos e1,if_neg e2]at e;exact absurd e.symm (hne j (by omega))
   · by_cases e2:j=n
     · rw[if_neg e1,if_pos e2]at e;exact absurd e (hne i (by omega))
     · rw[if_neg e1,if_neg e2]at e;exact h.inj i j (by omega) (by omega) e
theorem TabP.whole {B n m:Nat} {gs:Nat->Nat} {T:Nat->Nat->Int} {v:Value} {W:World} (h:TabP B n m gs T v W) (hn:0<n):∃ gt cap,v=.slice (some ⟨gt,0,none⟩) n cap/\n<=cap/\TabO B gt cap n m gs T W:=by
 rcases h.outer.2 with⟨_,h0⟩|⟨g,cap,cur,hv,_,_,hc,_⟩
 · omega
 · subst hv
   exact⟨g,cap,rfl,hc,h.outer,h.rows,h.inj⟩
theorem TabP.empty {B m:Nat} {gs:Nat->Nat} {T:Nat->Nat->Int} {v:Value} {W:World} (h:TabP B 0 m gs T v W):∃ a c,v=.slice a 0 c:=by
 obtain⟨a,c,e⟩:=QZ7 h.outer
 exact⟨a,c,e⟩
theorem JG2 {C:List Cr} {loops:Int} (hm:QX3 C loops=true) (a:Nat) (h1:1<=a) (h2:a<2*C.length+1):ovM C a<ovC C:=by
 have hL:=QU4 (Qz2 hm)
 have hp:=hL.pos (fun e he=>⟨(QC4 hm e he).1.1,(QC4 hm e he).2.1⟩) h2 h1
 have h3:QQ6 (QK4 C) ((QK4 C).getD a 0+1)=ovM C a+1:=by
  show QQ6 (QK4 C) _+_=_
  rw[if_pos ⟨hp,hL.root h2⟩];rfl
 have h4:=QD1 (QK4 C) ((QK4 C).getD a 0+1) (2*C.length+1) (by have:=hL.le h2;omega)
 unfold ovC
 omega
structure EqSt (w:World) (q gr k m:Nat) (gs:Nat->Nat) (T:Nat->Nat->Int) (v:Value) (box:Array Value) (f:Nat->Int) (X:World):Prop where
 row:X.ownsRow w.heap.size 3 1 (.slice (some ⟨gr,0,none⟩) m m) m (QQ3 (QA8 m f))
 box:X.heap[q]?=some (.cells box 72 (0,0))
 tab:TabP w.heap.size k m gs T v X
 bel:Below w.heap.size w X
theorem EqSt.set {w X : World} {q gr k m : Nat} {gs : Nat → Nat} {T : Nat → Nat → Int} {v : Value} {box : Array Value} {f : Nat → Int} (h : EqSt w q gr k m gs T v box f X) (x : Nat) (z : Int) (f' : Nat → Int)
    (hf:∀ j,j<m->f' j=if j=x then z else f j) (hq:q≠gr) (hv:v.ownBlock≠some gr) (hr:∀ i,i<k->gs i≠gr):EqSt w q gr k m gs T v box f' (X.setCell ⟨gr,x,none⟩ (.int .i64 z)):=by
 have hst:=h.row.stored x (.int .i64 z)
 rw[QK0,Qq5 m f f' x z hf]at hst
 have hl:=h.row.lt gr rfl
 refine⟨hst.1,?_,h.tab.other hst.2 hv hr,h.bel.grown hst.2 h.bel.size (fun k hk=>by have:=Option.some.inj hk;omega)⟩
 have hqs:q<X.heap.size:=(Array.getElem?_eq_some_iff.1 h.box).1
 exact(hst.2.block q hqs (fun e=>hq (Option.some.inj e))).trans h.box
theorem EqSt.any {w X X':World} {q gr k m:Nat} {gs:Nat->Nat} {T:Nat->Nat->Int} {v:Value} {box:Array Value} {f:Nat->Int} (h:EqSt w q gr k m gs T v box f X) (hg:X.grownBy X' none):EqSt w q gr k m gs T v box f X':=
 ⟨own_any h.row hg,(hg.block q (Array.getElem?_eq_some_iff.1 h.box).1 (by simp)).trans h.box,h.tab.any hg,h.bel.grown hg h.bel.size (fun k hk=>by cases hk)⟩
theorem EqSt.cell {w X:World} {q gr k m:Nat} {gs:Nat->Nat} {T:Nat->Nat->Int} {v:Value} {box:Array Value} {f:Nat->Int} (h:EqSt w q gr k m gs T v box f X) (x:Nat) (hx:x<m):X.cell? ⟨gr,x,none⟩=some (.int .i64 (f x)):=by
 rw[h.row.cellAt x (by omega),QZ5 _ x (by rw[QB3];exact hx),XQ8 _ _ _ hx]
end Go.Proofs.YtjcagkgpbcdghaaDoor
/- Plain mathematics: what comes to crossings and what goes out, summed up; signs of crossings by shades: with these signs all equations of colourings together are nought. -/
namespace Go.Proofs.YtjcagkgpbcdghaaDoor
theorem Xk3 (F:Nat->Int) {x:Int} (h1:1<=x):∀ M:Nat,QX4 M (fun i=>F (i+1)*(if x=((i+1:Nat):Int) then 1 else 0))=if x<=M then F x.toNat else 0
 |0=>by rw[if_neg (by omega)];rfl
 |M+1=>by
  show QX4 M _+F (M+1)*(if x=((M+1:Nat):Int) then 1 else 0)=_
  rw[Xk3 F h1 M]
  by_cases e:x=((M+1:Nat):Int)
  · rw[if_neg (by omega),if_pos e,if_pos (by omega),show x.toNat=M+1 by omega];omega
  · rw[if_neg e,Int.mul_zero,Int.add_zero]
    by_cases g:x<=(M:Int)
    · rw[if_pos g,if_pos (by omega)]
    · rw[if_neg g,if_neg (by omega)]
def ioC (F:Nat->Int) (c:Cr) (p:Bool):Int:=(if c.comes 0=p then F (c.arc 0).toNat else 0)+(if c.comes 1=p then F (c.arc 1).toNat else 0)+(if c.comes 2=p then F (c.arc 2).toNat else 0)+(if c.comes 3=p then F (c.arc 3).toNat else 0)
theorem Qd1 (F:Nat->Int) (c:Cr) (p:Bool) (M s:Nat) (h:1<=c.arc s/\c.arc s<=M):QX4 M (fun i=>F (i+1)*(((if c.arc s=((i+1:Nat):Int)/\c.comes s=p then 1 else 0:Nat)):Int))=if c.comes s=p then F (c.arc s).toNat else 0:=by
 by_cases hc:c.comes s=p
 · rw[if_pos hc]
   have:=Xk3 F h.1 M
   rw[if_pos h.2]at this
   rw[<-this]
   refine QQ2 fun i _=>?_
   by_cases e:c.arc s=((i+1:Nat):Int)
   · rw[if_pos ⟨e,hc⟩,if_pos e];rfl
   · rw[if_neg (fun q=>e q.1),if_neg e];rfl
 · rw[if_neg hc,QQ2 (g:=fun _=>0) fun i _=>by rw[if_neg (fun q=>hc q.2)];simp,QJ4]
theorem Jx6 (F:Nat->Int) (c:Cr) (M:Nat) (h:∀ s,s<4->1<=c.arc s/\c.arc s<=M):QX4 M (fun i=>F (i+1)*((Qz1 c ((i+1:Nat):Int) 4:Nat):Int))=ioC F c true:=by
 unfold ioC
 rw[<-Qd1 F c true M 0 (h 0 (by omega)),<-Qd1 F c true M 1 (h 1 (by omega)),<-Qd1 F c true M 2 (h 2 (by omega)),<-Qd1 F c true M 3 (h 3 (by omega)),<-QX1,<-QX1,<-QX1]
 refine QQ2 fun i _=>?_
 have e:Qz1 c ((i+1:Nat):Int) 4=0+(if c.arc 0=((i+1:Nat):Int)/\c.comes 0=true then 1 else 0)+(if c.arc 1=((i+1:Nat):Int)/\c.comes 1=true then 1 else 0)+(if c.arc 2=((i+1:Nat):Int)/\c.comes 2=true then 1 else 0)+(if c.arc 3=((i+1:Nat):Int)/\c.comes 3=true then 1 else 0):=rfl
 rw[e,Nat.zero_add,Int.natCast_add,Int.natCast_add,Int.natCast_add,Int.mul_add,Int.mul_add,Int.mul_add]
theorem JH2 (F:Nat->Int) (c:Cr) (M:Nat) (h:∀ s,s<4->1<=c.arc s/\c.arc s<=M):QX4 M (fun i=>F (i+1)*((QF3 c ((i+1:Nat):Int) 4:Nat):Int))=ioC F c false:=by
 unfold ioC
 rw[<-Qd1 F c false M 0 (h 0 (by omega)),<-Qd1 F c false M 1 (h 1 (by omega)),<-Qd1 F c false M 2 (h 2 (by omega)),<-Qd1 F c false M 3 (h 3 (by omega)),<-QX1,<-QX1,<-QX1]
 refine QQ2 fun i _=>?_
 have e:QF3 c ((i+1:Nat):Int) 4=0+(if c.arc 0=((i+1:Nat):Int)/\c.comes 0=false then 1 else 0)+(if c.arc 1=((i+1:Nat):Int)/\c.comes 1=false then 1 else 0)+(if c.arc 2=((i+1:Nat):Int)/\c.comes 2=false then 1 else 0)+(if c.arc 3=((i+1:Nat):Int)/\c.comes 3=false then 1 else 0):=rfl
 rw[e,Nat.zero_add,Int.natCast_add,Int.natCast_add,Int.natCast_add,Int.mul_add,Int.mul_add,Int.mul_add]
section
variable {C:List Cr} {loops:Int} (hm:QX3 C loops=true)
include hm
theorem ZY4 {k s:Nat} (hk:k<C.length) (hs:s<4):1<=(C.getD k Cr.none).arc s/\(C.getD k Cr.none).arc s<=((2*C.length:Nat):Int):=by
 have h:=QV7 hm k s hk hs
 have h1:=h.1
 have h2:=h.2.1
 omega
theorem Kw3 (F:Nat->Int):∀ k,k<=C.length->QX4 (2*C.length) (fun i=>F (i+1)*((Kz3 C ((i+1:Nat):Int) k:Nat):Int))=QX4 k (fun j=>ioC F (C.getD j Cr.none) true)/\QX4 (2*C.length) (fun i=>F (i+1)*((Xx4 C ((i+1:Nat):Int) k:Nat):Int))=QX4 k (fun j=>ioC F (C.getD j Cr.none) false)
 |0,_=>by
  constructor
  · rw[QQ2 (g:=fun _=>0) fun i _=>by show F (i+1)*((0:Nat):Int)=0;simp,QJ4];rfl
  · rw[QQ2 (g:=fun _=>0) fun i _=>by show F (i+1)*((0:Nat):Int)=0;simp,QJ4];rfl
 |k+1,hk=>by
  obtain⟨h1,h2⟩:=Kw3 F k (by omega)
  constructor
  · show _=QX4 k _+ioC F (C.getD k Cr.none) true
    rw[<-h1,<-Jx6 F _ (2*C.length) (fun s hs=>ZY4 hm (by omega) hs),<-QX1]
    refine QQ2 fun i _=>?_
    show F (i+1)*((Kz3 C _ k+Qz1 (C.getD k Cr.none) _ 4:Nat):Int)=_
    rw[Int.natCast_add,Int.mul_add]
  · show _=QX4 k _+ioC F (C.getD k Cr.none) false
    rw[<-h2,<-JH2 F _ (2*C.length) (fun s hs=>ZY4 hm (by omega) hs),<-QX1]
    refine QQ2 fun i _=>?_
    show F (i+1)*((Xx4 C _ k+QF3 (C.getD k Cr.none) _ 4:Nat):Int)=_
    rw[Int.natCast_add,Int.mul_add]
theorem JZ1 (F:Nat->Int):QX4 C.length (fun j=>ioC F (C.getD j Cr.none) true)=QX4 C.length (fun j=>ioC F (C.getD j Cr.none) false):=by
 obtain⟨h1,h2⟩:=Kw3 hm F C.length (Nat.le_refl _)
 rw[<-h1,<-h2]
 refine QQ2 fun i hi=>?_
 have h:=hm
 unfold QX3 at h
 rw[Bool.and_eq_true,List.all_eq_true]at h
 have h3:=h.2 i (List.mem_range.2 hi)
 unfold XW8 at h3
 rw[Bool.and_eq_true,decide_eq_true_eq,decide_eq_true_eq]at h3
 rw[h3.1,h3.2]
theorem Jx1 {k:Nat} (hk:k<C.length):ovM C (C.getD k Cr.none).b.toNat=ovM C (C.getD k Cr.none).d.toNat:=by
 have hL:=QU4 (Qz2 hm)
 have hmem:((C.getD k Cr.none).b.toNat,(C.getD k Cr.none).d.toNat)∈ovE C:=by
  unfold ovE
  refine List.mem_map.2 ⟨C.getD k Cr.none,?_,rfl⟩
  rw[List.getD_eq_getElem?_getD,List.getElem?_eq_getElem hk]
  exact List.getElem_mem hk
 have hb:=Qz2 hm _ hmem
 unfold ovM
 rw[(hL.same hb.1 hb.2).2 (Con.edge hmem)]
end
end Go.Proofs.YtjcagkgpbcdghaaDoor
/- The walk of colour.Overs. -/
namespace Go.Proofs.YtjcagkgpbcdghaaDoor
open Go.RowKit
set_option maxHeartbeats 4000000
set_option maxRecDepth 100000
theorem KX8 (hFR : QX8) (v : Value) (C : List Cr) (loops : Int) (w : World) (hn : noN C loops = 0) (h : Crs w w.heap.size v C) :
    Calls Tryd.prog 42 #[.agg #[v,.int .i64 loops]] w fun e w'=>∃ a c,e=.returned (.tuple #[.slice a (2*C.length) c,.int .i64 0])/\Slots w' w'.heap.size (.slice a (2*C.length) c) (QK9 (ovL C (2*C.length)))/\Below w.heap.size w w':=by
 have HC:Hid (Crs w w.heap.size v C):=h
 obtain⟨hm,hp⟩:=QD6 hn
 have HM:Hid (QX3 C loops=true):=hm
 have HP:Hid (QZ1 C=true):=hp
 have HFA:Hid QX8:=hFR
 obtain⟨s1,s2,s3,s4⟩:=QJ7 (QU6 hm)
 obtain⟨a,cap,rfl,-,-⟩:=h
 have HB1:Hid (Below w.heap.size w (w.alloc (.cells #[.slice a C.length cap,.int .i64 loops] 27))):=(Below.refl _ _).alloc (Nat.le_refl _) _
 clear hm hp hn hFR
 go_enter Tryd.func42,Tryd.ntmps42
 go_wp2_with (go_at_call 32;refine(ZU5 HFA.out _ C loops _ HM.out HP.out (HC.out.up HB1.out)).mono ?_;rintro e9 w2 ⟨a',cap',gF,cF,gT,cT,rfl,hdr,hb2⟩;refine Hid.out ?_)
 refine Lib.hid ?_
 have HDR:Hid (Dr w2 a' cap' C gF gT):=hdr
 have HOV:Hid (∀ W,Dr W a' cap' C gF gT->Calls Tryd.prog 59 #[drV a' cap' C loops gF cF gT cT] W fun e w'=>∃ g,e=.returned (.tuple #[.slice (some ⟨g,0,none⟩) (2*C.length+1) (2*C.length+1),.int .i64 (ovC C:Nat)])/\w'.ownsRow W.heap.size 3 1 (.slice (some ⟨g,0,none⟩) (2*C.length+1) (2*C.length+1)) (2*C.length+1) (QK9 (XW4 C (2*C.length+1)))/\Below W.heap.size W w'):=fun W hW=>XU2 a' cap' C loops gF cF gT cT W HM.out hW
 unfold drV at HOV
 unfold drV
 have HB2:Hid (Below w.heap.size w w2):=HB1.out.trans (hb2.mono HB1.out.size)
 have hs2:=HB2.out.size
 have HBA:Hid (Below w2.heap.size w2 (w2.alloc (.cells #[.slice a' C.length cap',.int .i64 loops,.slice (some ⟨gF,0,none⟩) (2*C.length+1) cF,.slice (some ⟨gT,0,none⟩) (2*C.length+1) cT] 44))):=(Below.refl _ _).alloc (Nat.le_refl _) _
 clear hb2 hdr
 go_wp2_with (go_at_call 59;refine(HOV.out _ (HDR.out.on HBA.out)).mono ?_;rintro e9 w3 ⟨g,rfl,hr3,hb3⟩;refine Hid.out ?_)
 refine Lib.hid ?_
 have HSL : Hid (∀ c, Slots w3 w3.heap.size (.slice (some ⟨g, 1, none⟩) (2 * C.length) c) (QK9 (ovL C (2 * C.length)))) := fun c => ⟨_, _, by rw [QU5, Qy2], fun _ => ⟨g, 1, rfl, (hr3.lt g rfl).2, fun i hi => by
  rw[QU5,Qy2]at hi
  have e:(QK9 (ovL C (2*C.length))).getD i (.bool false)=.int .i64 ((ovL C (2*C.length)).getD i 0:Nat):=by
   rw[List.getD_eq_getElem?_getD,QV2 _ i (by rw[Qy2];exact hi)];rfl
  rw[hr3.cellAt (1+i) (by omega),QV2 _ (1+i) (by rw[QA4];omega),e,<-KZ0]
  simp[List.getD_eq_getElem?_getD,Nat.add_comm 1 i]⟩⟩
 have HSN:Hid (∀ a c,Slots w3 w3.heap.size (.slice a 0 c) (QK9 (ovL C 0))):=fun a c=>⟨_,_,by rw[QU5,Qy2],fun h1=>by rw[QU5,Qy2]at h1;omega⟩
 have HB3:Hid (Below w.heap.size w w3):=HB2.out.trans ((HBA.out.trans (hb3.mono (by simp))).mono hs2)
 clear hr3 hb3
 go_wp2
 all_goals
  go_ret2
  first
   |exact⟨_,_,rfl,HSL.out _,HB3.out⟩
   |exact⟨_,_,rfl,HSN.out _ _,HB3.out⟩
end Go.Proofs.YtjcagkgpbcdghaaDoor
/- What few says at 12; the walk of bracket.drawn. -/
namespace Go.Proofs.YtjcagkgpbcdghaaDoor
open Go.RowKit
set_option maxHeartbeats 4000000
set_option maxRecDepth 100000
theorem Jx9 {P:Prop} (h:P):Hid P:=h
theorem KV2 (hFR : QX8) (a : Option Addr) (cap : Nat) (C : List Cr) (loops : Int) (w : World) (hn : noN C loops = 0) (h12 : C.length ≤ 12) (h : Crs w w.heap.size (.slice a C.length cap) C) :
    Calls Tryd.prog 14 #[.agg #[.slice a C.length cap,.int .i64 loops]] w fun e w'=>(∃ gF cF gT cT,e=.returned (.tuple #[drV a cap C loops gF cF gT cT,.int .i64 0]))/\Below w.heap.size w w':=by
 have HC:Hid (Crs w w.heap.size (.slice a C.length cap) C):=h
 obtain⟨hm,hp⟩:=QD6 hn
 have HF:=Jx9 (fun W hW=>Xv7 hFR a cap C loops W hm hp hW)
 have hz1:decide ((12:Int)<(C.length:Int))=false:=by simp;omega
 clear hm hp
 have HB1:Hid (Below w.heap.size w ((w.alloc (.cells #[.slice a C.length cap,.int .i64 loops] 27)).alloc (.cells #[.slice none 0 0,.int .i64 0,.slice none 0 0,.slice none 0 0] 44))):=QF9 _ _ _
 go_enter Tryd.func14,Tryd.ntmps14
 go_wp2_with (go_at_call 32;refine(HF.out _ (HC.out.up HB1.out)).mono ?_;rintro e9 w2 ⟨gF,cF,gT,cT,rfl,-,hb2⟩;refine Hid.out ?_)
 refine Lib.hid ?_
 unfold drV
 have HB2:Hid (Below w.heap.size w w2):=HB1.out.trans (hb2.mono (by simp;omega))
 have hR:w2.heap[w.heap.size+1]?=some (.cells #[.slice none 0 0,.int .i64 0,.slice none 0 0,.slice none 0 0] 44 (0,0)):=(hb2.block _ (by simp)).trans (alloc_at (by simp))
 have hs2:w.heap.size+2<=w2.heap.size:=by have:=hb2.size;simpa using this
 have hA:(w2.alloc (.cells #[.slice a C.length cap,.int .i64 loops,.slice (some ⟨gF,0,none⟩) (2*C.length+1) cF,.slice (some ⟨gT,0,none⟩) (2*C.length+1) cT] 44)).heap[w.heap.size+1]?=some (.cells #[.slice none 0 0,.int .i64 0,.slice none 0 0,.slice none 0 0] 44 (0,0)):=alloc_old hR
 have HA:Hid ((w2.alloc (.cells #[.slice a C.length cap,.int .i64 loops,.slice (some ⟨gF,0,none⟩) (2*C.length+1) cF,.slice (some ⟨gT,0,none⟩) (2*C.length+1) cT] 44)).heap[w.heap.size+1]?=some (.cells #[.slice none 0 0,.int .i64 0,.slice none 0 0,.slice none 0 0] 44 (0,0))):=hA
 have HBA:Hid (Below w.heap.size w (w2.alloc (.cells #[.slice a C.length cap,.int .i64 loops,.slice (some ⟨gF,0,none⟩) (2*C.length+1) cF,.slice (some ⟨gT,0,none⟩) (2*C.length+1) cT] 44))):=HB2.out.alloc HB2.out.size _
 have c0:(w2.alloc (.cells #[.slice a C.length cap,.int .i64 loops,.slice (some ⟨gF,0,none⟩) (2*C.length+1) cF,.slice (some ⟨gT,0,none⟩) (2*C.length+1) cT] 44)).cell? ⟨w.heap.size+1,0,none⟩=some (.slice none 0 0):=QQ0 hA rfl
 have c1:(w2.alloc (.cells #[.slice a C.length cap,.int .i64 loops,.slice (some ⟨gF,0,none⟩) (2*C.length+1) cF,.slice (some ⟨gT,0,none⟩) (2*C.length+1) cT] 44)).cell? ⟨w.heap.size+1,1,none⟩=some (.int .i64 0):=QQ0 hA rfl
 have c2:(w2.alloc (.cells #[.slice a C.length cap,.int .i64 loops,.slice (some ⟨gF,0,none⟩) (2*C.length+1) cF,.slice (some ⟨gT,0,none⟩) (2*C.length+1) cT] 44)).cell? ⟨w.heap.size+1,2,none⟩=some (.slice none 0 0):=QQ0 hA rfl
 have c3:(w2.alloc (.cells #[.slice a C.length cap,.int .i64 loops,.slice (some ⟨gF,0,none⟩) (2*C.length+1) cF,.slice (some ⟨gT,0,none⟩) (2*C.length+1) cT] 44)).cell? ⟨w.heap.size+1,3,none⟩=some (.slice none 0 0):=QQ0 hA rfl
 have f0:(w2.alloc (.cells #[.slice a C.length cap,.int .i64 loops,.slice (some ⟨gF,0,none⟩) (2*C.length+1) cF,.slice (some ⟨gT,0,none⟩) (2*C.length+1) cT] 44)).frozen? ⟨w.heap.size+1,0,none⟩=false:=QQ4 hA
 have f1:(w2.alloc (.cells #[.slice a C.length cap,.int .i64 loops,.slice (some ⟨gF,0,none⟩) (2*C.length+1) cF,.slice (some ⟨gT,0,none⟩) (2*C.length+1) cT] 44)).frozen? ⟨w.heap.size+1,1,none⟩=false:=QQ4 hA
 have f2:(w2.alloc (.cells #[.slice a C.length cap,.int .i64 loops,.slice (some ⟨gF,0,none⟩) (2*C.length+1) cF,.slice (some ⟨gT,0,none⟩) (2*C.length+1) cT] 44)).frozen? ⟨w.heap.size+1,2,none⟩=false:=QQ4 hA
 have f3:(w2.alloc (.cells #[.slice a C.length cap,.int .i64 loops,.slice (some ⟨gF,0,none⟩) (2*C.length+1) cF,.slice (some ⟨gT,0,none⟩) (2*C.length+1) cT] 44)).frozen? ⟨w.heap.size+1,3,none⟩=false:=QQ4 hA
 have hN:(w2.alloc (.cells #[.slice a C.length cap,.int .i64 loops,.slice (some ⟨gF,0,none⟩) (2*C.length+1) cF,.slice (some ⟨gT,0,none⟩) (2*C.length+1) cT] 44)).heap[w2.heap.size]?=some (.cells #[.slice a C.length cap,.int .i64 loops,.slice (some ⟨gF,0,none⟩) (2*C.length+1) cF,.slice (some ⟨gT,0,none⟩) (2*C.length+1) cT] 44 (0,0)):=alloc_at rfl
 clear hb2 hR hA
 go_wp2
 have hG:=QJ6 (w2.alloc (.cells #[.slice a C.length cap,.int .i64 loops,.slice (some ⟨gF,0,none⟩) (2*C.length+1) cF,.slice (some ⟨gT,0,none⟩) (2*C.length+1) cT] 44)) (w.heap.size+1) (.slice a C.length cap) (.int .i64 loops) (.slice (some ⟨gF,0,none⟩) (2*C.length+1) cF) (.slice (some ⟨gT,0,none⟩) (2*C.length+1) cT)
 have hX:=QW5 (a:=.slice a C.length cap) (b:=.int .i64 loops) (c:=.slice (some ⟨gF,0,none⟩) (2*C.length+1) cF) (d:=.slice (some ⟨gT,0,none⟩) (2*C.length+1) cT) HA.out
 have x0:=QQ0 (i:=0) (v:=.slice a C.length cap) hX rfl
 have x1:=QQ0 (i:=1) (v:=.int .i64 loops) hX rfl
 have x2:=QQ0 (i:=2) (v:=.slice (some ⟨gF,0,none⟩) (2*C.length+1) cF) hX rfl
 have x3:=QQ0 (i:=3) (v:=.slice (some ⟨gT,0,none⟩) (2*C.length+1) cT) hX rfl
 have hbb:=HBA.out.grown hG HBA.out.size (fun k hk=>by have:=Option.some.inj hk;omega)
 unfold st4 at x0 x1 x2 x3
 exact bodyPost_ret (v:=.tuple #[.agg #[.slice a C.length cap,.int .i64 loops,.slice (some ⟨gF,0,none⟩) (2*C.length+1) cF,.slice (some ⟨gT,0,none⟩) (2*C.length+1) cT],.int .i64 0]) (by simp[results,Tryd.results14,go_sem,x0,x1,x2,x3]) rfl ⟨⟨gF,cF,gT,cT,rfl⟩,hbb⟩
end Go.Proofs.YtjcagkgpbcdghaaDoor
