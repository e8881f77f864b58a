/- Several texts of the proof, one behind the other. -/
import Derived.Test.YtefooihnoajnlaaH6P
import Derived.Test.YtefooihnoajnlaaW11P
import Derived.Test.YtefooihnoajnlaaLevP
import Derived.Test.YtefooihnoajnlaaW6P
/- Plain mathematics: edges and the edges that cross them; where Euler's number is that of spheres, a set of edges that comes to each corner an even number of times is the boundary of a set of faces. -/
namespace Go.Proofs.Ytefooihnoajnlaa
def xs (g:Nat->Bool):Nat->Bool
 |0=>false
 |m+1=>xor (xs g m) (g m)
end Go.Proofs.Ytefooihnoajnlaa
/- Slices that are read; lists of numbers that stand in a function's values; which walk an arc lies in. -/
namespace Go.Proofs.Ytefooihnoajnlaa
open Go.RowKit
def RdAt (w:World) (B size:Nat) (v:Value) (n:Nat) (xs:List Value):Prop:=∃ a cap,v=.slice a n cap/\(0<n->∃ b off,a=some ⟨b,off,none⟩/\b<B/\∀ j,j<n*size->w.cell? ⟨b,off+j,none⟩=xs[j]?)
theorem RdAt.on {w w':World} {B size n:Nat} {v:Value} {xs:List Value} (h:RdAt w B size v n xs) (hb:Below B w w'):RdAt w' B size v n xs:=by
 obtain⟨a,cap,rfl,f⟩:=h
 refine⟨a,cap,rfl,fun h0=>?_⟩
 obtain⟨b,off,rfl,hlt,hc⟩:=f h0
 exact⟨b,off,rfl,hlt,fun j hj=>bcell hb hlt (hc j hj)⟩
theorem RdAt.mono {w:World} {B B' size n:Nat} {v:Value} {xs:List Value} (h:RdAt w B size v n xs) (hB:B<=B'):RdAt w B' size v n xs:=by
 obtain⟨a,cap,rfl,f⟩:=h
 refine⟨a,cap,rfl,fun h0=>?_⟩
 obtain⟨b,off,rfl,hlt,hc⟩:=f h0
 exact⟨b,off,rfl,Nat.lt_of_lt_of_le hlt hB,hc⟩
def NatsRd (w:World) (B:Nat) (v:Value) (L:List (List Nat)):Prop:=∃ ys:List Value,ys.length=L.length/\RdAt w B 1 v L.length ys/\∀ j,j<L.length->RdAt w B 1 (ys.getD j (.bool false)) (L.getD j []).length (nats (L.getD j []))
theorem NatsRd.on {w w':World} {B:Nat} {v:Value} {L:List (List Nat)} (h:NatsRd w B v L) (hb:Below B w w'):NatsRd w' B v L:=by
 obtain⟨ys,hy,h1,h2⟩:=h
 exact⟨ys,hy,h1.on hb,fun j hj=>(h2 j hj).on hb⟩
theorem NatsRd.mono {w:World} {B B':Nat} {v:Value} {L:List (List Nat)} (h:NatsRd w B v L) (hB:B<=B'):NatsRd w B' v L:=by
 obtain⟨ys,hy,h1,h2⟩:=h
 exact⟨ys,hy,h1.mono hB,fun j hj=>(h2 j hj).mono hB⟩
theorem NatsRd.up {w w':World} {v:Value} {L:List (List Nat)} (h:NatsRd w w.heap.size v L) (hb:Below w.heap.size w w'):NatsRd w' w'.heap.size v L:=(h.on hb).mono hb.size
theorem NatsRd.len {w:World} {B:Nat} {v:Value} {L:List (List Nat)} (h:NatsRd w B v L):∃ a cap,v=.slice a L.length cap:=by
 obtain⟨ys,hy,⟨a,cap,e,-⟩,h2⟩:=h
 exact⟨a,cap,e⟩
theorem NatsRd.row {w : World} {B : Nat} {a : Option Addr} {cap : Nat} {L : List (List Nat)} (h : NatsRd w B (.slice a L.length cap) L) (j : Nat) (hj : j < L.length) :
    ∃ b off ar cr,a=some ⟨b,off,none⟩/\b<B/\w.cell? ⟨b,off+j,none⟩=some (.slice ar (L.getD j []).length cr)/\RdAt w B 1 (.slice ar (L.getD j []).length cr) (L.getD j []).length (nats (L.getD j [])):=by
 obtain⟨ys,hy,⟨a',cap',e,f⟩,h2⟩:=h
 injection e with e1 e2 e3
 obtain⟨b,off,eb,hlt,hc⟩:=f (by omega)
 have hr:=h2 j hj
 obtain⟨ar,cr,er,-⟩:=hr
 have hr:=h2 j hj
 rw[er]at hr
 refine⟨b,off,ar,cr,e1.trans eb,hlt,?_,hr⟩
 rw[hc j (by omega),<-er]
 simp[List.getD,hy,hj]
def pt (L:List (List Nat)) (a:Nat):Nat:=L.findIdx fun l=>decide (a∈l)
end Go.Proofs.Ytefooihnoajnlaa
/- Plain mathematics: rings of a renaming are closed; in which face a dart lies. -/
namespace Go.Proofs.Ytefooihnoajnlaa
def fo (C:List Cr) (j:Nat):Nat:=pt (facesM C) j
end Go.Proofs.Ytefooihnoajnlaa
/- A crossing is stored whole into a row. -/
namespace Go.Proofs.Ytefooihnoajnlaa
open Go.RowKit
theorem cells_setR (C:List Cr) (i:Nat) (hi:i<C.length) (r:Nat) (hr:r<5) (v:Value) (x:Cr) (hx:(crossCells [C.getD i Cr.none]).set r v=crossCells [x]):(crossCells C).set (i*5+r) v=crossCells (C.set i x):=by
 induction C generalizing i with
 |nil=>simp at hi
 |cons t l ih=>
  have e:∀ y:Cr,∀ m:List Cr,crossCells (y::m)=crossCells [y]++crossCells m:=fun y m=>by simp[crossCells]
  have el:(crossCells [t]).length=5:=by simp[crossCells]
  cases i with
  |zero=>
   rw[List.set_cons_zero,e t l,e x l,Nat.zero_mul,Nat.zero_add,List.set_append_left _ _ (by rw[el];exact hr)]
   rw[show(t::l).getD 0 Cr.none=t from rfl]at hx
   rw[hx]
  |succ i=>
   rw[List.set_cons_succ,e t l,e t (l.set i x),List.set_append_right _ _ (by rw[el];omega),el,show(i+1)*5+r-5=i*5+r by omega]
   rw[ih i (by simpa using hi) (by simpa using hx)]
theorem crs_set_atR (Cs:List Cr) (c:Nat) (y:Cr) (hc:c<Cs.length):(Cs.set c y).getD c Cr.none=y:=by
 rw[List.getD_eq_getElem?_getD,List.getElem?_set_self hc,Option.getD_some]
theorem put5R {w : World} {B n g cap c : Nat} {Cs : List Cr} (h : w.ownsRow B 60 5 (.slice (some ⟨g, 0, none⟩) n cap) n (crossCells Cs)) (hc : c < Cs.length) (y : Cr) :
    (((((w.setCell ⟨g,c*5,none⟩ (.int .i64 y.a)).setCell ⟨g,c*5+1,none⟩ (.int .i64 y.b)).setCell ⟨g,c*5+2,none⟩ (.int .i64 y.c)).setCell ⟨g,c*5+3,none⟩ (.int .i64 y.d)).setCell ⟨g,c*5+4,none⟩ (.bool y.plus)).ownsRow B 60 5 (.slice (some ⟨g,0,none⟩) n cap) n (crossCells (Cs.set c y))/\
    w.grownBy (((((w.setCell ⟨g,c*5,none⟩ (.int .i64 y.a)).setCell ⟨g,c*5+1,none⟩ (.int .i64 y.b)).setCell ⟨g,c*5+2,none⟩ (.int .i64 y.c)).setCell ⟨g,c*5+3,none⟩ (.int .i64 y.d)).setCell ⟨g,c*5+4,none⟩ (.bool y.plus)) (some g):=by
 obtain⟨x,hx⟩:∃ x,Cs.getD c Cr.none=x:=⟨_,rfl⟩
 have h0:=h.stored (c*5) (.int .i64 y.a)
 have e0:=cells_setR Cs c hc 0 (by omega) (.int .i64 y.a) ⟨y.a,x.b,x.c,x.d,x.plus⟩ (by rw[hx];rfl)
 rw[Nat.add_zero]at e0
 rw[e0]at h0
 have h1:=h0.1.stored (c*5+1) (.int .i64 y.b)
 rw[cells_setR _ c (by simpa using hc) 1 (by omega) (.int .i64 y.b) ⟨y.a,y.b,x.c,x.d,x.plus⟩ (by rw[crs_set_atR _ _ _ hc];rfl),List.set_set]at h1
 have h2:=h1.1.stored (c*5+2) (.int .i64 y.c)
 rw[cells_setR _ c (by simpa using hc) 2 (by omega) (.int .i64 y.c) ⟨y.a,y.b,y.c,x.d,x.plus⟩ (by rw[crs_set_atR _ _ _ hc];rfl),List.set_set]at h2
 have h3:=h2.1.stored (c*5+3) (.int .i64 y.d)
 rw[cells_setR _ c (by simpa using hc) 3 (by omega) (.int .i64 y.d) ⟨y.a,y.b,y.c,y.d,x.plus⟩ (by rw[crs_set_atR _ _ _ hc];rfl),List.set_set]at h3
 have h4:=h3.1.stored (c*5+4) (.bool y.plus)
 rw[cells_setR _ c (by simpa using hc) 4 (by omega) (.bool y.plus) y (by rw[crs_set_atR _ _ _ hc];rfl),List.set_set]at h4
 exact⟨h4.1,grown_trans (grown_trans (grown_trans (grown_trans h0.2 h1.2) h2.2) h3.2) h4.2⟩
end Go.Proofs.Ytefooihnoajnlaa
