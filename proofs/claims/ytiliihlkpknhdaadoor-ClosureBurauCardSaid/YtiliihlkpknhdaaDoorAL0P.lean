/- Several texts of the proof, one behind the other. -/
import Derived.Test.YtiliihlkpknhdaaDoorBK0P
import Derived.Test.YtiliihlkpknhdaaDoorPT4
import Derived.Test.YtiliihlkpknhdaaDoorO0P
import Derived.Deep.QuietTactic
import Derived.BigQuiet
import Derived.Test.YtiliihlkpknhdaaDoorZ0P
import Derived.Test.YtiliihlkpknhdaaDoorBaseP
/- Plain mathematics of Alexander's table: polynomials of two terms, and the places of a row. -/
namespace Go.Proofs.YtiliihlkpknhdaaDoor
open Go.RowKit
def aPol (x y:Int):List (Int×Int):=(if x=0 then [] else [(0,x)])++(if y=0 then [] else [(1,y)])
def aFun (x y:Int) (e:Int):Int:=if e=0 then x else if e=1 then y else 0
theorem canon_aPol (x y:Int):Poly.Canon (aPol x y) (aFun x y):=by
 unfold aPol
 constructor
 · by_cases hx:x=0<;>by_cases hy:y=0<;>simp[hx,hy]
 · intro e c
   by_cases hx:x=0<;>by_cases hy:y=0<;>by_cases h0:e=0<;>by_cases h1:e=1<;>simp[aFun,hx,hy,h0,h1]<;>omega
theorem aPol_len (x y:Int):(aPol x y).length<=2:=by
 unfold aPol
 by_cases hx:x=0<;>by_cases hy:y=0<;>simp[hx,hy]
theorem aPol_may (x y:Int) (hx : -100<=x/\x<=100) (hy : -100<=y/\y<=100):Poly.mayB (aPol x y)=true:=by
 refine(Poly.may_iff _).2 ⟨Nat.le_trans (aPol_len x y) (by decide),fun i hi=>?_⟩
 rw[Poly.okB_iff]
 unfold aPol at hi ⊢
 by_cases h0:x=0<;>by_cases h1:y=0<;>simp only[h0,h1,if_true,if_false,List.nil_append,List.append_nil,List.length_nil,List.length_cons,List.singleton_append]at hi ⊢
 · omega
 · obtain rfl:i=0:=by omega
   simp
   omega
 · obtain rfl:i=0:=by omega
   simp
   omega
 · have:i=0∨i=1:=by omega
   rcases this with rfl|rfl<;>simp<;>omega
theorem coef_aPol (x y e:Int):Poly.coefL (aPol x y) e=aFun x y e:=by
 unfold aPol aFun
 by_cases hx:x=0<;>by_cases hy:y=0<;>by_cases h0:e=0<;>by_cases h1:e=1<;>simp[Poly.coefL,hx,hy,h0,h1]<;>omega
theorem aFun_add (x y dx dy e:Int):aFun x y e+aFun dx dy e=aFun (x+dx) (y+dy) e:=by
 unfold aFun
 by_cases h0:e=0
 · simp[h0]
 · by_cases h1:e=1
   · simp[h1]
   · simp[h0,h1]
theorem aPol_sum {r:List (Int×Int)} {x y dx dy:Int} (h:Poly.Canon r (fun e=>Poly.coefL (aPol x y) e+Poly.coefL (aPol dx dy) e)):r=aPol (x+dx) (y+dy):=
 Poly.canon_unique (Poly.canon_congr h fun e=>by rw[coef_aPol,coef_aPol,aFun_add]) (canon_aPol _ _)
def addFa (F:Nat->Int×Int) (p:Nat) (dx dy:Int):Nat->Int×Int:=fun j=>if j=p then((F j).1+dx,(F j).2+dy) else F j
def zeroF:Nat->Int×Int:=fun _=>(0,0)
def rowF (o i v:Nat):Nat->Int×Int:=addFa (addFa (addFa zeroF o 1 0) i 0 (-1)) v (-1) 1
def inC (C:List Cr) (c:Cr):Nat:=if c.plus=true then ovM C c.a.toNat else ovM C c.c.toNat
def outC' (C:List Cr) (c:Cr):Nat:=if c.plus=true then ovM C c.c.toNat else ovM C c.a.toNat
def alF (C:List Cr) (k:Nat):Nat->Int×Int:=rowF (outC' C (C.getD k Cr.none)) (inC C (C.getD k Cr.none)) (ovM C (C.getD k Cr.none).b.toNat)
def smallF (F:Nat->Int×Int) (b:Int):Prop:=∀ j,-b<=(F j).1/\(F j).1<=b /\ -b<=(F j).2/\(F j).2<=b
theorem small_zero:smallF zeroF 0:=fun _=>by simp[zeroF]
theorem small_add {F:Nat->Int×Int} {b:Int} (h:smallF F b) (p:Nat) {dx dy:Int} (hx : -1<=dx/\dx<=1) (hy : -1<=dy/\dy<=1):smallF (addFa F p dx dy) (b+1):=fun j=>by
 have:=h j
 unfold addFa
 by_cases e:j=p
 · rw[if_pos e];simp only;omega
 · rw[if_neg e];omega
def valsL (m:Nat) (f:Nat->Value):List Value:=(List.range m).map f
theorem valsL_len (m:Nat) (f:Nat->Value):(valsL m f).length=m:=by simp[valsL]
theorem valsL_get (m:Nat) (f:Nat->Value) (i:Nat) (h:i<m):(valsL m f)[i]?=some (f i):=by simp[valsL,h]
theorem valsL_set (m:Nat) (f g:Nat->Value) (i:Nat) (x:Value) (h:∀ j,j<m->g j=if j=i then x else f j):(valsL m f).set i x=valsL m g:=by
 apply List.ext_getElem?
 intro j
 by_cases hj:j<m
 · rw[valsL_get m g j hj,h j hj,List.getElem?_set]
   by_cases e:i=j
   · subst e;simp[valsL_len,hj]
   · rw[if_neg e,if_neg (fun h=>e h.symm),valsL_get m f j hj]
 · rw[List.getElem?_eq_none (by simp[valsL_len];omega),List.getElem?_eq_none (by simp[valsL_len];omega)]
theorem made_nilsV (n:Nat):(madeCells (Value.slice none 0 0).cells (n*1)).toList=valsL n fun _=>.slice none 0 0:=by
 have e:(Value.slice none 0 0).cells=#[Value.slice none 0 0]:=rfl
 rw[e,toList_madeCells_one,Nat.mul_one]
 apply List.ext_getElem?
 intro j
 by_cases hj:j<n
 · rw[valsL_get _ _ _ hj];simp[hj]
 · rw[List.getElem?_eq_none (by simp;omega),List.getElem?_eq_none (by simp[valsL_len];omega)]
structure PlcAt (B m g:Nat) (vals:Nat->Value) (F:Nat->Int×Int) (wr:World):Prop where
 row:wr.ownsRow B 34 1 (.slice (some ⟨g,0,none⟩) m m) m (valsL m vals)
 each:∀ j,j<m->wr.ownsRow B 40 2 (vals j) (aPol (F j).1 (F j).2).length (Poly.flat (aPol (F j).1 (F j).2))
theorem PlcAt.any {B m g:Nat} {vals:Nat->Value} {F:Nat->Int×Int} {w w':World} (h:PlcAt B m g vals F w) (hg:w.grownBy w' none):PlcAt B m g vals F w':=⟨own_any h.row hg,fun j hj=>own_any (h.each j hj) hg⟩
theorem PlcAt.set {B m g : Nat} {vals : Nat → Value} {F : Nat → Int × Int} {w w' : World} (h : PlcAt B m g vals F w) (hb : Below w.heap.size w w') (hB : B ≤ w.heap.size) (p : Nat) (dx dy : Int) (v : Value)
    (hv:w'.ownsRow w.heap.size 40 2 v (aPol ((F p).1+dx) ((F p).2+dy)).length (Poly.flat (aPol ((F p).1+dx) ((F p).2+dy)))):PlcAt B m g (fun j=>if j=p then v else vals j) (addFa F p dx dy) (w'.setCell ⟨g,p,none⟩ v):=by
 have h1:=h.any (grown_below hb none)
 have hst:=h1.row.stored p v
 refine⟨?_,fun j hj=>?_⟩
 · rw[<-valsL_set m vals _ p v fun j _=>rfl]
   exact hst.1
 · unfold addFa
   by_cases e:j=p
   · rw[if_pos e,if_pos e,e]
     exact(own_low hv hB).kept hst.2 (own_ne (own_low hv hB) h1.row (by decide))
   · rw[if_neg e,if_neg e]
     exact(h1.each j hj).kept hst.2 (own_ne (h1.each j hj) h1.row (by decide))
end Go.Proofs.YtiliihlkpknhdaaDoor
/- Which of two tellings is less: the walks of cmp.Compare, slices.Compare and canon.compare. -/
namespace Go.Proofs.YtiliihlkpknhdaaDoor
open Go.RowKit
def cmpI (x y:Int):Int:=if x<y then -1 else if y<x then 1 else 0
def lexC:List Int->List Int->Int
 |[],[]=>0
 |[],_::_ => -1
 |_::_,[]=>1
 |x::s,y::t=>if x=y then lexC s t else cmpI x y
def cmpT (p q:List Nat×List Int):Int:=if p.1.length=q.1.length then lexC p.2 q.2 else cmpI p.1.length q.1.length
end Go.Proofs.YtiliihlkpknhdaaDoor
/- Words: the walks of ref.WordsMay, and of places and their trades. -/
namespace Go.Proofs.YtiliihlkpknhdaaDoor
open Go.RowKit
theorem wpList_append_in {P : Program} {w : World} {ops : Array Oper} {rest : List Oper} {o : Oper} {a : Act} {Q : Exit → Act → World → Prop} (hgd : o.guard = none) (s x : Operand) (t : TypeId)
    (ho:o.op=.call { callee:=.builtin .append,args:=#[s,x],argTypes:=#[t,t] })
    (base:Nat) (e:TypeId) (i:TypeInfo) (z:Value) (size bytes:Nat) (ht:P.underlying t=some (.slice e)) (hi:P.info? e=some i) (hz:i.zero=some z)
    (hsize:i.size=size) (hby:i.bytes=bytes) (hzs:z.cells.size=size) (hsz:0<size) (v0:Value) (n0:Nat) (ys:List Value) (hs:a.eval s=v0) (hown:w.ownsRow base e size v0 n0 ys)
    (v:Value) (B n:Nat) (xs:List Value) (hx:a.eval x=v) (hin:InAt w B size v n xs) (hl:xs.length=n*size) (h1:∀ u∈xs,u.oneCell'=true)
    (h63:n0+n<=maxLen) (hbytes:(n0+n)*bytes<=140737488355328) (hbase:base<=w.heap.size)
    (h:∀ v' w',w'.ownsRow base e size v' (n0+n) (ys++xs)->w.grownBy w' v0.ownBlock->wpList P ops Q rest (a.put o.dst v') w'):wpList P ops Q (o::rest) a w:=by
 rcases hin with⟨rfl,rfl⟩|⟨ad,cap,rfl,rfl⟩|⟨b,off,cap,rfl,hlt,hc⟩
 · obtain rfl:xs=[]:=List.length_eq_zero_iff.1 (by omega)
   exact wpList_append_own_none hgd s x t ho base e i size ht hi _ n0 ys hs hown hx (h _ _ (by simpa using hown) (World.grownBy.refl _ _))
 · obtain rfl:xs=[]:=List.length_eq_zero_iff.1 (by omega)
   exact wpList_append_own _ hgd s x t ho base e i z size bytes ht hi hz hsize hby hzs hsz _ n0 ys hs hown ad 0 cap [] hx (by simp) (fun j u h=>by simp at h) (fun u h=>by simp at h) (by omega) hbytes hbase
    fun v' w' g1 g2 _=>h v' w' g1 g2
 · refine wpList_append_own _ hgd s x t ho base e i z size bytes ht hi hz hsize hby hzs hsz _ n0 ys hs hown ⟨b, off, none⟩ n cap xs hx hl (fun j u hj => ?_) h1 (by omega) hbytes hbase
     fun v' w' g1 g2 _=>h v' w' g1 g2
   have hlt2:j<xs.length:=(List.getElem?_eq_some_iff.1 hj).1
   have:=hc j (by omega)
   rw[hj]at this
   unfold Addr.add
   split
   · rename_i h0;subst h0;exact this
   · exact this
end Go.Proofs.YtiliihlkpknhdaaDoor
/- Plain mathematics: both searches count the same. -/
namespace Go.Proofs.YtiliihlkpknhdaaDoor
theorem ovM_in {C:List Cr} {loops:Int} (hm:mayD C loops=true) (a:Nat) (h1:1<=a) (h2:a<=2*C.length):ovM C a<ovC C:=by
 have hL:=lowM_least (ovE_lt hm)
 have hp:=hL.pos (fun e he=>⟨(ovE_in hm e he).1.1,(ovE_in hm e he).2.1⟩) (v:=a) (by omega) h1
 have h3:=rootsN_at (lowM C) ((lowM C).getD a 0) hp
 rw[if_pos (hL.root (by omega))]at h3
 have h4:=rootsN_mono (lowM C) ((lowM C).getD a 0+1) (2*C.length+1) (by have:=hL.le (v:=a) (by omega);omega)
 show rootsN (lowM C) ((lowM C).getD a 0)<rootsN (lowM C) (2*C.length+1)
 omega
end Go.Proofs.YtiliihlkpknhdaaDoor
