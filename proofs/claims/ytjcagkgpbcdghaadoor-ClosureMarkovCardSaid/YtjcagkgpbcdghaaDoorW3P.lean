/- Several texts of the proof, one behind the other. -/
import Derived.Test.YtjcagkgpbcdghaaDoorBaseP
import Derived.Test.YtjcagkgpbcdghaaDoorH7
import Derived.Laws.AppendOwnNone
import Derived.Lib.Hide
import Derived.Test.YtjcagkgpbcdghaaDoorPMathP
import Derived.Test.YtjcagkgpbcdghaaDoorPT4
/- Lists of numbers that a call owns; the walk of Drawing.Walks. -/
namespace Go.Proofs.YtjcagkgpbcdghaaDoor
open Go.RowKit
def QK9 (l:List Nat):List Value:=l.map fun x=>.int .i64 (x:Nat)
def bools (l:List Bool):List Value:=l.map fun x=>.bool x
theorem QU5 (l:List Nat):(QK9 l).length=l.length:=by simp[QK9]
theorem QV2 (l:List Nat) (i:Nat) (h:i<l.length):(QK9 l)[i]?=some (.int .i64 (l.getD i 0:Nat)):=by simp[QK9,List.getD,h]
theorem KW5 (l:List Bool) (i:Nat) (b:Bool):(bools l).set i (.bool b)=bools (l.set i b):=by simp[bools,List.map_set]
theorem XA1 (l:List Nat) (x:Nat):QK9 (l++[x])=QK9 l++[.int .i64 (x:Nat)]:=by simp[QK9]
def NatsOwn (w:World) (B:Nat) (v:Value) (L:List (List Nat)):Prop:=
 ∃ ys:List Value,ys.length=L.length/\w.ownsRow B 22 1 v ys.length ys/\∀ j,j<L.length->w.ownsRow B 3 1 (ys.getD j (.bool false)) (L.getD j []).length (QK9 (L.getD j []))
theorem NatsOwn.any {w w':World} {B:Nat} {v:Value} {L:List (List Nat)} (h:NatsOwn w B v L) (hg:w.grownBy w' none):NatsOwn w' B v L:=by
 obtain⟨ys,h1,h2,h3⟩:=h
 exact⟨ys,h1,own_any h2 hg,fun j hj=>own_any (h3 j hj) hg⟩
theorem NatsOwn.low {w:World} {B B':Nat} {v:Value} {L:List (List Nat)} (h:NatsOwn w B v L) (hB:B'<=B):NatsOwn w B' v L:=by
 obtain⟨ys,h1,h2,h3⟩:=h
 exact⟨ys,h1,QZ6 h2 hB,fun j hj=>QZ6 (h3 j hj) hB⟩
theorem grown_none {w w':World} {row:Option Nat} (h:w.grownBy w' none):w.grownBy w' row:=⟨h.os,h.tape,h.output,h.size,fun k hk _=>h.block k hk (by simp)⟩
theorem grown_new {W X Y:World} {row r2:Option Nat} (h:W.grownBy X row) (g:X.grownBy Y r2) (hr:∀ k,r2=some k->W.heap.size<=k):W.grownBy Y row:=
 ⟨g.os.trans h.os,g.tape.trans h.tape,g.output.trans h.output,Nat.le_trans h.size g.size,fun k hk hn=>(g.block k (Nat.lt_of_lt_of_le hk h.size) (fun e=>by have:=hr k e.symm;omega)).trans (h.block k hk hn)⟩
def lenOf:Value->Nat
 |.slice _ n _=>n
 |_=>0
theorem QB7:(Tryd.prog.info? 3).map (fun i=>(i.zero,i.size,i.bytes))=some (some (.int .i64 0),1,8):=by kernel_rfl
theorem KA3:(Tryd.prog.info? 22).map (fun i=>(i.zero,i.size,i.bytes))=some (some (.slice none 0 0),1,24):=by kernel_rfl
theorem JZ2 (x:Int):∀ u∈[Value.int .i64 x],u.oneCell'=true:=by
 intro u hu
 simp only[List.mem_singleton]at hu
 subst hu
 rfl
end Go.Proofs.YtjcagkgpbcdghaaDoor
/- The walks of ref.DiagramOf and gauss.Strands; rows that are the same. -/
namespace Go.Proofs.YtjcagkgpbcdghaaDoor
open Go.RowKit
def QQ7 (C:List Cr):List Value:=C.flatMap fun x=>[.int .i64 x.a,.int .i64 x.b,.int .i64 x.c,.int .i64 x.d,.bool x.plus]
theorem Qd8 (C:List Cr):(QQ7 C).length=C.length*5:=by
 induction C with
 |nil=>rfl
 |cons t l ih=>simp[QQ7]at *;omega
theorem XJ2 (C:List Cr) (i:Nat) (hi:i<C.length):(QQ7 C)[i*5]?=some (.int .i64 (C.getD i Cr.none).a)/\(QQ7 C)[i*5+1]?=some (.int .i64 (C.getD i Cr.none).b)/\(QQ7 C)[i*5+2]?=some (.int .i64 (C.getD i Cr.none).c)/\(QQ7 C)[i*5+3]?=some (.int .i64 (C.getD i Cr.none).d)/\(QQ7 C)[i*5+4]?=some (.bool (C.getD i Cr.none).plus):=by
 induction C generalizing i with
 |nil=>simp at hi
 |cons t l ih=>
  have e:QQ7 (t::l)=.int .i64 t.a::.int .i64 t.b::.int .i64 t.c::.int .i64 t.d::.bool t.plus::QQ7 l:=rfl
  cases i with
  |zero=>rw[e];exact⟨rfl,rfl,rfl,rfl,rfl⟩
  |succ i=>
   have:=ih i (by simpa using hi)
   have e1:(i+1)*5=i*5+1+1+1+1+1:=by omega
   rw[e,e1]
   exact this
theorem JJ0 {w:World} {B e:Nat} {v:Value} {C:List Cr} (h:w.ownsRow B e 5 v C.length (QQ7 C)) (hn:C.length<=maxLen):Crs w w.heap.size v C:=by
 have h0:=h
 rcases h.2 with⟨rfl,h1⟩|⟨g,cap,cur,rfl,_,_,_⟩
 · exact⟨none,0,by rw[h1],hn,fun hp=>by omega⟩
 · refine⟨some ⟨g,0,none⟩,cap,rfl,hn,fun _=>⟨g,0,rfl,(h0.lt g rfl).2,fun i hi=>?_⟩⟩
   have g0:=XJ2 C i hi
   rw[Nat.zero_add]
   exact⟨(h0.cellAt (i*5) (by omega)).trans g0.1,(h0.cellAt (i*5+1) (by omega)).trans g0.2.1,(h0.cellAt (i*5+2) (by omega)).trans g0.2.2.1,(h0.cellAt (i*5+3) (by omega)).trans g0.2.2.2.1,(h0.cellAt (i*5+4) (by omega)).trans g0.2.2.2.2⟩
def CrsW (w:World) (B:Nat) (v:Value) (C:List Cr):Prop:=
 (v=.slice none 0 0/\C=[])∨(∃ ad cap,v=.slice (some ad) 0 cap/\C=[])∨∃ b off cap,v=.slice (some ⟨b,off,none⟩) C.length cap/\b<B/\CrossAt w b off C
theorem CrsW.crs {w:World} {B:Nat} {v:Value} {C:List Cr} (h:CrsW w B v C) (hn:C.length<=maxLen):Crs w B v C:=by
 rcases h with⟨rfl,rfl⟩|⟨ad,cap,rfl,rfl⟩|⟨b,off,cap,rfl,hlt,hC⟩
 · exact⟨none,0,rfl,hn,fun hp=>by simp at hp⟩
 · exact⟨some ad,cap,rfl,hn,fun hp=>by simp at hp⟩
 · exact⟨some ⟨b,off,none⟩,cap,rfl,hn,fun _=>⟨b,off,rfl,hlt,hC⟩⟩
theorem CrsW.up {w w':World} {v:Value} {C:List Cr} (h:CrsW w w.heap.size v C) (hb:Below w.heap.size w w'):CrsW w' w'.heap.size v C:=by
 rcases h with h|h|⟨b,off,cap,hv,hlt,hC⟩
 · exact Or.inl h
 · exact Or.inr (Or.inl h)
 · exact Or.inr (Or.inr ⟨b,off,cap,hv,Nat.lt_of_lt_of_le hlt hb.size,hC.on hb hlt⟩)
theorem KJ1:(Tryd.prog.info? 72).map (fun i=>(i.zero,i.size,i.bytes))=some (some (.agg #[.int .i64 0,.int .i64 0,.int .i64 0,.int .i64 0,.bool false]),5,40):=by kernel_rfl
theorem Qw4 {w:World} {B e n g c:Nat} {l:List (Int×Int)} (h:w.ownsRow B e 2 (.slice (some ⟨g,0,none⟩) n c) n (flat l)) (hl:l.length=n):TermsAt w g 0 l:=by
 intro i hi
 have g0:=flat_get l i hi
 rw[Nat.zero_add]
 exact⟨(h.cellAt (i*2) (by omega)).trans g0.1,(h.cellAt (i*2+1) (by omega)).trans g0.2⟩
end Go.Proofs.YtjcagkgpbcdghaaDoor
/- Visits: lists of them that a call owns; the walks of gauss.visits and gauss.signs. -/
namespace Go.Proofs.YtjcagkgpbcdghaaDoor
open Go.RowKit
def QF1 (V:List (Nat×Bool)):List Value:=V.flatMap fun t=>[.int .i64 (t.1:Nat),.bool t.2]
theorem Xu1 (l m:List (Nat×Bool)):QF1 (l++m)=QF1 l++QF1 m:=by simp[QF1]
theorem Zg1 (l:List (Nat×Bool)) (i:Nat) (hi:i<l.length):(QF1 l)[i*2]?=some (.int .i64 ((l.getD i (0,false)).1:Nat))/\(QF1 l)[i*2+1]?=some (.bool (l.getD i (0,false)).2):=by
 induction l generalizing i with
 |nil=>simp at hi
 |cons t l ih=>
  have e:QF1 (t::l)=.int .i64 (t.1:Nat)::.bool t.2::QF1 l:=rfl
  cases i with
  |zero=>rw[e];exact⟨rfl,rfl⟩
  |succ i=>
   have:=ih i (by simpa using hi)
   rw[e,show(i+1)*2=i*2+1+1 by omega]
   exact this
theorem Zg0 (l:List (Nat×Bool)):∀ u∈QF1 l,u.oneCell'=true:=by
 intro u hu
 simp only[QF1,List.mem_flatMap]at hu
 obtain⟨t,_,ht⟩:=hu
 simp at ht
 rcases ht with rfl|rfl<;>rfl
def WksAt (w:World) (v:Value) (L:List (List Nat)):Prop:=∃ ys:List Value,ys.length=L.length/\Slots w w.heap.size v ys/\∀ j,j<L.length->Slots w w.heap.size (ys.getD j (.bool false)) (QK9 (L.getD j []))
theorem WksAt.on {w w':World} {v:Value} {L:List (List Nat)} (h:WksAt w v L) (hb:Below w.heap.size w w'):WksAt w' v L:=by
 obtain⟨ys,h1,h2,h3⟩:=h
 exact⟨ys,h1,(h2.on hb).mono hb.size,fun j hj=>((h3 j hj).on hb).mono hb.size⟩
end Go.Proofs.YtjcagkgpbcdghaaDoor
/- The walk of gauss.signs; rows of visits and of signs that are the same. -/
namespace Go.Proofs.YtjcagkgpbcdghaaDoor
open Go.RowKit
def VS (w:World) (v:Value) (V:List (Nat×Bool)):Prop:=∃ a cap,v=.slice a V.length cap/\(0<V.length->∃ b off,a=some ⟨b,off,none⟩/\b<w.heap.size/\∀ i,i<V.length->w.cell? ⟨b,off+i*2,none⟩=some (.int .i64 ((V.getD i (0,false)).1:Nat))/\w.cell? ⟨b,off+i*2+1,none⟩=some (.bool (V.getD i (0,false)).2))
def VsAt (w:World) (v:Value) (L:List (List (Nat×Bool))):Prop:=∃ ys:List Value,ys.length=L.length/\Slots w w.heap.size v ys/\∀ j,j<L.length->VS w (ys.getD j (.bool false)) (L.getD j [])
theorem VS.on {w w':World} {v:Value} {V:List (Nat×Bool)} (h:VS w v V) (hb:Below w.heap.size w w'):VS w' v V:=by
 obtain⟨a,cap,rfl,g⟩:=h
 refine⟨a,cap,rfl,fun hp=>?_⟩
 obtain⟨b,off,rfl,hlt,hc⟩:=g hp
 exact⟨b,off,rfl,Nat.lt_of_lt_of_le hlt hb.size,fun i hi=>⟨bcell hb hlt (hc i hi).1,bcell hb hlt (hc i hi).2⟩⟩
theorem VsAt.on {w w':World} {v:Value} {L:List (List (Nat×Bool))} (h:VsAt w v L) (hb:Below w.heap.size w w'):VsAt w' v L:=by
 obtain⟨ys,h1,h2,h3⟩:=h
 exact⟨ys,h1,(h2.on hb).mono hb.size,fun j hj=>(h3 j hj).on hb⟩
end Go.Proofs.YtjcagkgpbcdghaaDoor
/- Lists of whole numbers that a call owns; the walk of gauss.evenNumbers. -/
namespace Go.Proofs.YtjcagkgpbcdghaaDoor
open Go.RowKit
def QQ3 (l:List Int):List Value:=l.map fun x=>.int .i64 x
theorem XK3 (l:List Int):(QQ3 l).length=l.length:=by simp[QQ3]
theorem QZ5 (l:List Int) (i:Nat) (h:i<l.length):(QQ3 l)[i]?=some (.int .i64 (l.getD i 0)):=by simp[QQ3,List.getD,h]
theorem QK0 (l:List Int) (i:Nat) (x:Int):(QQ3 l).set i (.int .i64 x)=QQ3 (l.set i x):=by simp[QQ3,List.map_set]
theorem Qw7 (n:Nat):(madeCells (Value.int .i64 0).cells (n*1)).toList=QQ3 (List.replicate n 0):=by
 have e:(Value.int .i64 0).cells=#[Value.int .i64 0]:=rfl
 rw[e,toList_madeCells_one,Nat.mul_one]
 simp[QQ3]
end Go.Proofs.YtjcagkgpbcdghaaDoor
/- Slices that are read; lists of numbers that stand in a function's values; which walk an arc lies in. -/
namespace Go.Proofs.YtjcagkgpbcdghaaDoor
open Go.RowKit
def RdAt (w:World) (B size:Nat) (v:Value) (n:Nat) (xs:List Value):Prop:=∃ a cap,v=.slice a n cap/\(0<n->∃ b off,a=some ⟨b,off,none⟩/\b<B/\∀ j,j<n*size->w.cell? ⟨b,off+j,none⟩=xs[j]?)
theorem RdAt.on {w w':World} {B size n:Nat} {v:Value} {xs:List Value} (h:RdAt w B size v n xs) (hb:Below B w w'):RdAt w' B size v n xs:=by
 obtain⟨a,cap,rfl,f⟩:=h
 refine⟨a,cap,rfl,fun h0=>?_⟩
 obtain⟨b,off,rfl,hlt,hc⟩:=f h0
 exact⟨b,off,rfl,hlt,fun j hj=>bcell hb hlt (hc j hj)⟩
theorem RdAt.mono {w:World} {B B' size n:Nat} {v:Value} {xs:List Value} (h:RdAt w B size v n xs) (hB:B<=B'):RdAt w B' size v n xs:=by
 obtain⟨a,cap,rfl,f⟩:=h
 refine⟨a,cap,rfl,fun h0=>?_⟩
 obtain⟨b,off,rfl,hlt,hc⟩:=f h0
 exact⟨b,off,rfl,Nat.lt_of_lt_of_le hlt hB,hc⟩
theorem XU7 {w:World} {B e size n:Nat} {v:Value} {xs:List Value} (h:w.ownsRow B e size v n xs):RdAt w w.heap.size size v n xs:=by
 have h0:=h
 rcases h.2 with⟨rfl,h1⟩|⟨g,cap,cur,rfl,_,_,_⟩
 · exact⟨none,0,by rw[h1],fun hp=>by omega⟩
 · exact⟨some ⟨g,0,none⟩,cap,rfl,fun _=>⟨g,0,rfl,(h0.lt g rfl).2,fun j hj=>by rw[Nat.zero_add];exact h0.cellAt j hj⟩⟩
def NatsRd (w:World) (B:Nat) (v:Value) (L:List (List Nat)):Prop:=∃ ys:List Value,ys.length=L.length/\RdAt w B 1 v L.length ys/\∀ j,j<L.length->RdAt w B 1 (ys.getD j (.bool false)) (L.getD j []).length (QK9 (L.getD j []))
theorem NatsRd.on {w w':World} {B:Nat} {v:Value} {L:List (List Nat)} (h:NatsRd w B v L) (hb:Below B w w'):NatsRd w' B v L:=by
 obtain⟨ys,hy,h1,h2⟩:=h
 exact⟨ys,hy,h1.on hb,fun j hj=>(h2 j hj).on hb⟩
theorem NatsRd.mono {w:World} {B B':Nat} {v:Value} {L:List (List Nat)} (h:NatsRd w B v L) (hB:B<=B'):NatsRd w B' v L:=by
 obtain⟨ys,hy,h1,h2⟩:=h
 exact⟨ys,hy,h1.mono hB,fun j hj=>(h2 j hj).mono hB⟩
theorem NatsRd.up {w w':World} {v:Value} {L:List (List Nat)} (h:NatsRd w w.heap.size v L) (hb:Below w.heap.size w w'):NatsRd w' w'.heap.size v L:=(h.on hb).mono hb.size
theorem NatsOwn.rd {w:World} {B:Nat} {v:Value} {L:List (List Nat)} (h:NatsOwn w B v L):NatsRd w w.heap.size v L:=by
 obtain⟨ys,hy,h1,h2⟩:=h
 exact⟨ys,hy,by rw[<-hy];exact XU7 h1,fun j hj=>XU7 (h2 j hj)⟩
theorem NatsRd.len {w:World} {B:Nat} {v:Value} {L:List (List Nat)} (h:NatsRd w B v L):∃ a cap,v=.slice a L.length cap:=by
 obtain⟨ys,hy,⟨a,cap,e,-⟩,h2⟩:=h
 exact⟨a,cap,e⟩
theorem NatsRd.row {w : World} {B : Nat} {a : Option Addr} {cap : Nat} {L : List (List Nat)} (h : NatsRd w B (.slice a L.length cap) L) (j : Nat) (hj : j < L.length) :
    ∃ b off ar cr,a=some ⟨b,off,none⟩/\b<B/\w.cell? ⟨b,off+j,none⟩=some (.slice ar (L.getD j []).length cr)/\RdAt w B 1 (.slice ar (L.getD j []).length cr) (L.getD j []).length (QK9 (L.getD j [])):=by
 obtain⟨ys,hy,⟨a',cap',e,f⟩,h2⟩:=h
 injection e with e1 e2 e3
 obtain⟨b,off,eb,hlt,hc⟩:=f (by omega)
 have hr:=h2 j hj
 obtain⟨ar,cr,er,-⟩:=hr
 have hr:=h2 j hj
 rw[er]at hr
 refine⟨b,off,ar,cr,e1.trans eb,hlt,?_,hr⟩
 rw[hc j (by omega),<-er]
 simp[List.getD,hy,hj]
theorem RdAt.nat {w : World} {B : Nat} {a : Option Addr} {cap : Nat} {l : List Nat} (h : RdAt w B 1 (.slice a l.length cap) l.length (QK9 l)) (k : Nat) (hk : k < l.length) :
    ∃ b off,a=some ⟨b,off,none⟩/\b<B/\w.cell? ⟨b,off+k,none⟩=some (.int .i64 (l.getD k 0:Nat)):=by
 obtain⟨a',cap',e,f⟩:=h
 injection e with e1 e2 e3
 obtain⟨b,off,eb,hlt,hc⟩:=f (by omega)
 exact⟨b,off,e1.trans eb,hlt,(hc k (by omega)).trans (QV2 l k hk)⟩
def QA8 (m:Nat) (f:Nat->Int):List Int:=(List.range m).map f
theorem QB3 (m:Nat) (f:Nat->Int):(QA8 m f).length=m:=by simp[QA8]
theorem Qg7 (m:Nat) (f:Nat->Int) (i:Nat) (h:i<m):(QA8 m f)[i]?=some (f i):=by simp[QA8,h]
theorem XQ8 (m:Nat) (f:Nat->Int) (i:Nat) (h:i<m):(QA8 m f).getD i 0=f i:=by rw[List.getD_eq_getElem?_getD,Qg7 m f i h];rfl
theorem Qq5 (m:Nat) (f g:Nat->Int) (i:Nat) (x:Int) (h:∀ j,j<m->g j=if j=i then x else f j):(QA8 m f).set i x=QA8 m g:=by
 apply List.ext_getElem?
 intro j
 by_cases hj:j<m
 · rw[Qg7 m g j hj,h j hj,List.getElem?_set]
   by_cases e:i=j
   · subst e;simp[QB3,hj]
   · rw[if_neg e,if_neg (fun h=>e h.symm),Qg7 m f j hj]
 · rw[List.getElem?_eq_none (by simp[QB3];omega),List.getElem?_eq_none (by simp[QB3];omega)]
theorem KK3 (m:Nat) (f:Nat->Int) (h:∀ j,j<m->f j=0):QA8 m f=List.replicate m 0:=by
 apply List.ext_getElem?
 intro j
 by_cases hj:j<m
 · rw[Qg7 m f j hj,h j hj];simp[hj]
 · rw[List.getElem?_eq_none (by simp[QB3];omega),List.getElem?_eq_none (by simp;omega)]
theorem Qb5 (m:Nat) (f g:Nat->Int) (h:∀ j,j<m->f j=g j):QA8 m f=QA8 m g:=List.map_congr_left fun j hj=>h j (List.mem_range.1 hj)
def pt (L:List (List Nat)) (a:Nat):Nat:=L.findIdx fun l=>decide (a∈l)
theorem ZJ0 (a:Nat):∀ (L:List (List Nat)) (i j:Nat),i<j->j<L.length->a∈L.getD i []->a∈L.getD j []->2<=L.flatten.count a
 |[],i,j,_,h,_,_=>absurd h (by simp)
 |x::t,0,j+1,_,hj,h1,h2=>by
  have h3:1<=x.count a:=List.one_le_count_iff.2 (by simpa using h1)
  have hj':j<t.length:=by simpa using hj
  have h4:a∈t.flatten:=by
   refine List.mem_flatten.2 ⟨t.getD j [],?_,by simpa using h2⟩
   rw[List.getD_eq_getElem?_getD,List.getElem?_eq_getElem hj']
   exact List.getElem_mem hj'
  have h5:1<=t.flatten.count a:=List.one_le_count_iff.2 h4
  rw[List.flatten_cons,List.count_append]
  omega
 |x::t,i+1,j+1,hij,hj,h1,h2=>by
  have:=ZJ0 a t i j (by omega) (by simpa using hj) (by simpa using h1) (by simpa using h2)
  rw[List.flatten_cons,List.count_append]
  omega
theorem JY0 {L:List (List Nat)} {a i:Nat} (h1:L.flatten.count a=1) (hi:i<L.length) (ha:a∈L.getD i []):pt L a=i:=by
 have hle:pt L a<=i:=by
  refine Classical.byContradiction fun hc=>?_
  have:=List.not_of_lt_findIdx (p:=fun l=>decide (a∈l)) (xs:=L) (i:=i) (by unfold pt at hc;omega)
  rw[List.getD_eq_getElem?_getD,List.getElem?_eq_getElem hi]at ha
  simp at this
  exact this (by simpa using ha)
 rcases Nat.lt_or_ge (pt L a) i with h|h
 · have hl:pt L a<L.length:=by omega
   have hm:=List.findIdx_getElem (p:=fun l=>decide (a∈l)) (xs:=L) (w:=hl)
   have hm2:a∈L.getD (pt L a) []:=by
    rw[List.getD_eq_getElem?_getD,List.getElem?_eq_getElem hl]
    exact of_decide_eq_true hm
   have:=ZJ0 a L (pt L a) i h hi hm2 ha
   omega
 · omega
theorem Jq8 {L:List (List Nat)} {a:Nat} (h1:L.flatten.count a=1):pt L a<L.length:=by
 have:a∈L.flatten:=List.one_le_count_iff.1 (by omega)
 obtain⟨l,hl,ha⟩:=List.mem_flatten.1 this
 exact List.findIdx_lt_length_of_exists ⟨l,hl,by simpa using ha⟩
theorem Kj5 {L:List (List Nat)} {a i:Nat} (h1:L.flatten.count a=1) (hi:i<L.length):a∈L.getD i []↔pt L a=i:=by
 constructor
 · exact JY0 h1 hi
 · intro e
   have hl:pt L a<L.length:=by omega
   have hm:=List.findIdx_getElem (p:=fun l=>decide (a∈l)) (xs:=L) (w:=hl)
   rw[<-e,List.getD_eq_getElem?_getD,List.getElem?_eq_getElem hl]
   exact of_decide_eq_true hm
end Go.Proofs.YtjcagkgpbcdghaaDoor
/- Words of braids, and what they make of texts: plain mathematics. -/
namespace Go.Proofs.YtjcagkgpbcdghaaDoor
def QY4 (n x:Int):Bool:=decide (x=0)||(decide (x <= -n)||decide (n<=x))
def Qf1 (n:Int) (w:List Int):Int:=if n<2∨6<n then 3 else if w.any (QY4 n) then 3 else if 20<w.length then 2 else 0
theorem JV7 {n x:Int} (h:QY4 n x=false):x≠0 /\ -n<x/\x<n:=by
 unfold QY4 at h
 simp only[Bool.or_eq_false_iff,decide_eq_false_iff_not]at h
 omega
theorem Qf5 {n:Int} {w:List Int} (h:Qf1 n w=0):2<=n/\n<=6/\(∀ j,j<w.length->w.getD j 0≠0 /\ -n<w.getD j 0/\w.getD j 0<n)/\w.length<=20:=by
 unfold Qf1 at h
 by_cases h1:n<2∨6<n
 · rw[if_pos h1]at h;cases h
 · rw[if_neg h1]at h
   by_cases h2:w.any (QY4 n)=true
   · rw[if_pos h2]at h;cases h
   · rw[if_neg h2]at h
     by_cases h3:20<w.length
     · rw[if_pos h3]at h;cases h
     · refine⟨by omega,by omega,fun j hj=>?_,by omega⟩
       have h4:QY4 n (w.getD j 0)=false:=by
        cases hb:QY4 n (w.getD j 0) with
        |false=>rfl
        |true=>
         exact absurd (List.any_eq_true.2 ⟨w.getD j 0,by rw[List.getD_eq_getElem?_getD,List.getElem?_eq_getElem hj];exact List.getElem_mem hj,hb⟩) h2
       exact JV7 h4
def push (o:List Int) (x:Int):List Int:=if 0<o.length/\o.getD (o.length-1) 0 = -x then o.take (o.length-1) else o++[x]
def gl (a b:List Int):List Int:=b.foldl push a
def Jj2 (a:List Int):Prop:=∀ i,i+1<a.length->a.getD i 0 ≠ -a.getD (i+1) 0
def SmI (a:List Int):Prop:=∀ i,-6<=a.getD i 0/\a.getD i 0<=6
structure TxOk (n m:Nat) (T:List (List Int)):Prop where
 ln:T.length=n
 red:∀ j,Jj2 (T.getD j [])
 len:∀ j,(T.getD j []).length<=m
 sm:∀ j,SmI (T.getD j [])
theorem TxOk.up {n m m':Nat} {T:List (List Int)} (h:TxOk n m T) (hm:m<=m'):TxOk n m' T:=⟨h.ln,h.red,fun j=>Nat.le_trans (h.len j) hm,h.sm⟩
def trd (l:List Int) (i:Nat):List Int:=(l.set (i-1) (l.getD i 0)).set i (l.getD (i-1) 0)
def Qj2 (n:Nat) (w:List Int) (k:Nat):List Int:=(w.take k).foldl (fun l x=>trd l x.natAbs) (QA8 n fun i=>(i:Int)+1)
theorem Qu5 (n:Nat) (w:List Int) (k:Nat) (h:k<w.length):Qj2 n w (k+1)=trd (Qj2 n w k) (w.getD k 0).natAbs:=by
 unfold Qj2
 rw[List.take_succ_eq_append_getElem h,List.foldl_append,List.getD_eq_getElem?_getD,List.getElem?_eq_getElem h]
 rfl
structure PlOk (n:Nat) (l:List Int):Prop where
 ln:l.length=n
 rng:∀ i,i<n->1<=l.getD i 0/\l.getD i 0<=n
theorem QD0 (l:List Int) (i j:Nat) (x:Int):(l.set i x).getD j 0=if j=i/\i<l.length then x else l.getD j 0:=by
 rw[List.getD_eq_getElem?_getD,List.getElem?_set]
 by_cases e:i=j
 · subst e
   by_cases h:i<l.length
   · rw[if_pos rfl,if_pos h,if_pos ⟨rfl,h⟩];rfl
   · rw[if_pos rfl,if_neg h,if_neg (fun q=>h q.2),List.getD_eq_getElem?_getD,List.getElem?_eq_none (by omega)]
 · rw[if_neg e,if_neg (fun q=>e q.1.symm),List.getD_eq_getElem?_getD]
theorem PlOk.trd {n:Nat} {l:List Int} (h:PlOk n l) {i:Nat} (hi:i<n):PlOk n (trd l i):=by
 refine⟨by unfold Go.Proofs.YtjcagkgpbcdghaaDoor.trd;simp[h.ln],fun j hj=>?_⟩
 unfold Go.Proofs.YtjcagkgpbcdghaaDoor.trd
 rw[QD0,QD0]
 split
 · exact h.rng _ (by omega)
 · split
   · exact h.rng _ hi
   · exact h.rng _ hj
theorem Qy8 (n:Nat) (w:List Int) (hw:∀ j,j<w.length->(w.getD j 0).natAbs<n) (k:Nat) (hk:k<=w.length):PlOk n (Qj2 n w k):=by
 induction k with
 |zero=>exact⟨QB3 _ _,fun i hi=>by show 1<=(QA8 n fun i=>(i:Int)+1).getD i 0/\_;rw[show(Qj2 n w 0)=QA8 n fun i=>(i:Int)+1 from rfl,XQ8 _ _ _ hi];omega⟩
 |succ k ih=>
  rw[Qu5 n w k (by omega)]
  exact(ih (by omega)).trd (hw k (by omega))
def Qd9 (l:List Int) (k:Nat):List Int:=(List.range k).foldl (fun o i=>o.set (l.getD i 0-1).toNat ((i:Int)+1)) (List.replicate l.length 0)
theorem XK8 (l:List Int) (k:Nat):Qd9 l (k+1)=(Qd9 l k).set (l.getD k 0-1).toNat ((k:Int)+1):=by
 unfold Qd9
 rw[List.range_succ,List.foldl_append]
 rfl
theorem XA9 (l:List Int) (k:Nat):(Qd9 l k).length=l.length:=by
 induction k with
 |zero=>simp[Qd9]
 |succ k ih=>rw[XK8,List.length_set,ih]
end Go.Proofs.YtjcagkgpbcdghaaDoor
/- Slices as they are handed in, and copies of them. -/
namespace Go.Proofs.YtjcagkgpbcdghaaDoor
open Go.RowKit
def InAt (w:World) (B size:Nat) (v:Value) (n:Nat) (xs:List Value):Prop:=
 (v=.slice none 0 0/\n=0)∨(∃ ad cap,v=.slice (some ad) 0 cap/\n=0)∨∃ b off cap,v=.slice (some ⟨b,off,none⟩) n cap/\b<B/\∀ j,j<n*size->w.cell? ⟨b,off+j,none⟩=xs[j]?
theorem InAt.on {w w':World} {B size n:Nat} {v:Value} {xs:List Value} (h:InAt w B size v n xs) (hb:Below B w w'):InAt w' B size v n xs:=by
 rcases h with h|h|⟨b,off,cap,rfl,hlt,hc⟩
 · exact Or.inl h
 · exact Or.inr (Or.inl h)
 · exact Or.inr (Or.inr ⟨b,off,cap,rfl,hlt,fun j hj=>bcell hb hlt (hc j hj)⟩)
theorem Xx8 {w:World} {B e size n:Nat} {v:Value} {xs:List Value} (h:w.ownsRow B e size v n xs):InAt w w.heap.size size v n xs:=by
 have h0:=h
 rcases h.2 with⟨rfl,h1⟩|⟨g,cap,cur,rfl,_,_,_⟩
 · exact Or.inl ⟨rfl,h1⟩
 · exact Or.inr (Or.inr ⟨g,0,cap,rfl,(h0.lt g rfl).2,fun j hj=>by rw[Nat.zero_add];exact h0.cellAt j hj⟩)
theorem InAt.up {w w':World} {size n:Nat} {v:Value} {xs:List Value} (h:InAt w w.heap.size size v n xs) (hb:Below w.heap.size w w'):InAt w' w'.heap.size size v n xs:=by
 rcases h.on hb with h|h|⟨b,off,cap,e,hlt,hc⟩
 · exact Or.inl h
 · exact Or.inr (Or.inl h)
 · exact Or.inr (Or.inr ⟨b,off,cap,e,Nat.lt_of_lt_of_le hlt hb.size,hc⟩)
end Go.Proofs.YtjcagkgpbcdghaaDoor
/- Plain mathematics: overpasses; labels that are merged edge by edge come to the least of what is joined. -/
namespace Go.Proofs.YtjcagkgpbcdghaaDoor
def mer (W:List Nat) (x y:Nat):List Nat:=W.map fun z=>if z=max (W.getD x 0) (W.getD y 0) then min (W.getD x 0) (W.getD y 0) else z
theorem XG4 (W:List Nat) (x y:Nat):(mer W x y).length=W.length:=by simp[mer]
theorem QC0 (W:List Nat) (x y v:Nat) (hv:v<W.length):(mer W x y).getD v 0=if W.getD v 0=max (W.getD x 0) (W.getD y 0) then min (W.getD x 0) (W.getD y 0) else W.getD v 0:=by
 simp[mer,List.getD_eq_getElem?_getD,hv]
theorem Qw6 {F:List (Nat×Nat)} {n:Nat} {W:List Nat} (h:Least F n W) (x y:Nat) (hx:x<n) (hy:y<n) (hF:∀ e,e∈F->e.1<n/\e.2<n):Least (F++[(x,y)]) n (mer W x y):=by
 obtain⟨hl,h2⟩:=h
 have up:∀ {u v:Nat},Con F u v->Con (F++[(x,y)]) u v:=fun hc S hS hu=>hc S (fun e he=>hS e (List.mem_append_left _ he)) hu
 have hxy:Con (F++[(x,y)]) x y:=Con.edge (List.mem_append_right _ (List.Mem.head _))
 have lx:=up (h2 x hx).1
 have ly:=up (h2 y hy).1
 have hWW:Con (F++[(x,y)]) (W.getD x 0) (W.getD y 0):=lx.symm.trans (hxy.trans ly)
 have hmm:Con (F++[(x,y)]) (max (W.getD x 0) (W.getD y 0)) (min (W.getD x 0) (W.getD y 0)):=by
  rcases Nat.le_total (W.getD x 0) (W.getD y 0) with hle|hle
  · rw[Nat.max_eq_right hle,Nat.min_eq_left hle];exact hWW.symm
  · rw[Nat.max_eq_left hle,Nat.min_eq_right hle];exact hWW
 have hcon:∀ v,v<n->Con (F++[(x,y)]) v ((mer W x y).getD v 0):=fun v hv=>by
  rw[QC0 W x y v (by omega)]
  split
  · rename_i he
    have:=up (h2 v hv).1
    rw[he]at this
    exact this.trans hmm
  · exact up (h2 v hv).1
 have hle:∀ v,v<n->(mer W x y).getD v 0<=v:=fun v hv=>by
  have h3:=(h2 v hv).2 v (Con.refl F v)
  rw[QC0 W x y v (by omega)]
  split
  · rename_i he;omega
  · exact h3
 refine⟨by rw[XG4];exact hl,fun v hv=>⟨hcon v hv,fun u hu=>?_⟩⟩
 have hcl:Closed (F++[(x,y)]) (fun z=>z<n/\(mer W x y).getD z 0=(mer W x y).getD v 0):=fun e he=>by
  rcases List.mem_append.1 he with h4|h4
  · obtain⟨e1,e2⟩:=hF e h4
    have hs:W.getD e.1 0=W.getD e.2 0:=by
     have c:Con F e.1 e.2:=Con.edge (by cases e;exact h4)
     exact Nat.le_antisymm ((h2 _ e1).2 _ (c.trans (h2 _ e2).1)) ((h2 _ e2).2 _ (c.symm.trans (h2 _ e1).1))
    have hm:(mer W x y).getD e.1 0=(mer W x y).getD e.2 0:=by
     rw[QC0 W x y _ (by omega),QC0 W x y _ (by omega),hs]
    show(e.1<n/\(mer W x y).getD e.1 0=_)↔(e.2<n/\(mer W x y).getD e.2 0=_)
    rw[hm];exact⟨fun q=>⟨e2,q.2⟩,fun q=>⟨e1,q.2⟩⟩
  · have:e=(x,y):=by simpa using h4
    subst this
    have hm:(mer W x y).getD x 0=(mer W x y).getD y 0:=by
     rw[QC0 W x y _ (by omega),QC0 W x y _ (by omega)]
     split<;>split<;>omega
    show(x<n/\(mer W x y).getD x 0=_)↔(y<n/\(mer W x y).getD y 0=_)
    rw[hm];exact⟨fun q=>⟨hy,q.2⟩,fun q=>⟨hx,q.2⟩⟩
 obtain⟨a1,a2⟩:=hu _ hcl ⟨hv,rfl⟩
 rw[<-a2]
 exact hle u a1
def QF5 (W:List Nat):List (Nat×Nat)->List Nat
 |[]=>W
 |e::E=>QF5 (mer W e.1 e.2) E
theorem ZW5 (W:List Nat) (E F:List (Nat×Nat)):QF5 W (E++F)=QF5 (QF5 W E) F:=by
 induction E generalizing W with
 |nil=>rfl
 |cons e E ih=>exact ih _
theorem QC8 (n:Nat):Least [] n (List.range n):=by
 refine⟨by simp,fun v hv=>?_⟩
 have e:(List.range n).getD v 0=v:=by simp[List.getD_eq_getElem?_getD,hv]
 rw[e]
 exact ⟨Con.refl _ v, fun u hu => by
  have:=hu (fun z=>z=v) (fun e he=>by cases he) rfl
  omega⟩
theorem Qb4 (n:Nat):∀ (E F:List (Nat×Nat)) (W:List Nat),(∀ e,e∈F++E->e.1<n/\e.2<n)->Least F n W->Least (F++E) n (QF5 W E):=by
 intro E
 induction E with
 |nil=>intro F W _ h;simpa[QF5] using h
 |cons e E ih=>
  intro F W hE h
  obtain⟨e1,e2⟩:=hE e (by simp)
  have h':=Qw6 h e.1 e.2 e1 e2 (fun f hf=>hE f (List.mem_append_left _ hf))
  have:=ih (F++[(e.1,e.2)]) _ (fun f hf=>hE f (by simpa using hf)) h'
  simpa[QF5] using this
def ovE (C:List Cr):List (Nat×Nat):=C.map fun c=>(c.b.toNat,c.d.toNat)
def QK4 (C:List Cr):List Nat:=QF5 (List.range (2*C.length+1)) (ovE C)
def QQ6 (L:List Nat):Nat->Nat
 |0=>0
 |k+1=>QQ6 L k+(if 1<=k/\L.getD k 0=k then 1 else 0)
def ovM (C:List Cr) (a:Nat):Nat:=QQ6 (QK4 C) ((QK4 C).getD a 0)
def ovC (C:List Cr):Nat:=QQ6 (QK4 C) (2*C.length+1)
theorem QD1 (L:List Nat) (i j:Nat) (h:i<=j):QQ6 L i<=QQ6 L j:=by
 induction j with
 | zero => obtain rfl : i = 0 := by omega
           exact Nat.le_refl _
 |succ j ih=>
  rcases Nat.lt_or_ge j i with h1|h1
  · obtain rfl:i=j+1:=by omega
    exact Nat.le_refl _
  · exact Nat.le_trans (ih h1) (by simp[QQ6])
theorem XZ0 (L:List Nat) (i:Nat):QQ6 L i<=i:=by
 induction i with
 |zero=>exact Nat.le_refl _
 |succ i ih=>simp only[QQ6];split<;>omega
theorem QC4 {C:List Cr} {loops:Int} (hm:QX3 C loops=true):∀ e,e∈ovE C->(1<=e.1/\e.1<2*C.length+1)/\(1<=e.2/\e.2<2*C.length+1):=fun e he=>by
 obtain⟨c,hc,rfl⟩:=List.mem_map.1 he
 obtain⟨i,hi,rfl⟩:=List.getElem_of_mem hc
 have h1:=QV7 hm i 1 hi (by omega)
 have h3:=QV7 hm i 3 hi (by omega)
 have e:C.getD i Cr.none=C[i]:=by simp[List.getD_eq_getElem?_getD,hi]
 have a1:(C.getD i Cr.none).arc 1=C[i].b:=by rw[e];rfl
 have a3:(C.getD i Cr.none).arc 3=C[i].d:=by rw[e];rfl
 have g1:=h1.1
 have g2:=h1.2.1
 have g3:=h3.1
 have g4:=h3.2.1
 rw[a1]at g1 g2
 rw[a3]at g3 g4
 refine⟨⟨?_,?_⟩,?_,?_⟩<;>dsimp only<;>omega
theorem Qz2 {C:List Cr} {loops:Int} (hm:QX3 C loops=true):∀ e,e∈ovE C->e.1<2*C.length+1/\e.2<2*C.length+1:=fun e he=>⟨(QC4 hm e he).1.2,(QC4 hm e he).2.2⟩
theorem QU4 {C:List Cr} (hE:∀ e,e∈ovE C->e.1<2*C.length+1/\e.2<2*C.length+1):Least (ovE C) (2*C.length+1) (QK4 C):=by
 have:=Qb4 (2*C.length+1) (ovE C) [] (List.range (2*C.length+1)) (fun e he=>hE e (by simpa using he)) (QC8 _)
 simpa[QK4] using this
theorem Least.root {E:List (Nat×Nat)} {n:Nat} {W:List Nat} (h:Least E n W) {v:Nat} (hv:v<n):W.getD (W.getD v 0) 0=W.getD v 0:=(h.same (h.lt hv) hv).2 (h.2 v hv).1.symm
theorem Least.le {E:List (Nat×Nat)} {n:Nat} {W:List Nat} (h:Least E n W) {v:Nat} (hv:v<n):W.getD v 0<=v:=(h.2 v hv).2 v (Con.refl E v)
theorem Least.pos {E:List (Nat×Nat)} {n:Nat} {W:List Nat} (h:Least E n W) (hE:∀ e,e∈E->1<=e.1/\1<=e.2) {v:Nat} (hv:v<n) (h1:1<=v):1<=W.getD v 0:=by
 have:=(h.2 v hv).1 (fun z=>1<=z) (fun e he=>by simp[hE e he]) h1
 exact this
end Go.Proofs.YtjcagkgpbcdghaaDoor
/- Plain mathematics: labels merged place by place. -/
namespace Go.Proofs.YtjcagkgpbcdghaaDoor
open Go.RowKit
theorem Zb9 {T G:Prop} (h:Hid T->G) (hT:T):G:=h hT
def Qx5 (W:List Nat) (x y k:Nat):List Nat:=(List.range W.length).map fun v=>if v<k then(mer W x y).getD v 0 else W.getD v 0
theorem QW6 (W:List Nat) (x y k:Nat):(Qx5 W x y k).length=W.length:=by simp[Qx5]
theorem QA5 (W:List Nat) (x y k v:Nat) (hv:v<W.length):(Qx5 W x y k).getD v 0=if v<k then(mer W x y).getD v 0 else W.getD v 0:=by simp[Qx5,List.getD_eq_getElem?_getD,hv]
theorem Qv3 {l m:List Nat} (h:l.length=m.length) (g:∀ v,v<l.length->l.getD v 0=m.getD v 0):l=m:=by
 refine List.ext_getElem h fun i h1 h2=>?_
 have:=g i h1
 simpa[List.getD_eq_getElem?_getD,h1,h2] using this
theorem ZH9 (W:List Nat) (x y:Nat):Qx5 W x y 0=W:=Qv3 (QW6 _ _ _ _) fun v hv=>by
 rw[QW6]at hv;rw[QA5 _ _ _ _ _ hv,if_neg (by omega)]
theorem KK2 (W:List Nat) (x y:Nat):Qx5 W x y W.length=mer W x y:=Qv3 (by rw[QW6,XG4]) fun v hv=>by
 rw[QW6]at hv;rw[QA5 _ _ _ _ _ hv,if_pos hv]
theorem ZA1 (W:List Nat) (x y k z:Nat) (hk:k<W.length) (hz:(mer W x y).getD k 0=z):(Qx5 W x y k).set k z=Qx5 W x y (k+1):=Qv3 (by simp[QW6]) fun v hv=>by
 have hv':v<W.length:=by simpa[QW6] using hv
 rw[QD7 _ _ _ _ (by rw[QW6];exact hk),QA5 _ _ _ _ _ hv',QA5 _ _ _ _ _ hv']
 by_cases e:v=k
 · subst e;rw[if_pos rfl,if_pos (by omega),hz]
 · rw[if_neg e]
   by_cases h2:v<k
   · rw[if_pos h2,if_pos (by omega)]
   · rw[if_neg h2,if_neg (by omega)]
theorem ZA0 (W:List Nat) (x y k:Nat) (hk:k<W.length) (hz:(mer W x y).getD k 0=W.getD k 0):Qx5 W x y k=Qx5 W x y (k+1):=Qv3 (by simp[QW6]) fun v hv=>by
 have hv':v<W.length:=by simpa[QW6] using hv
 rw[QA5 _ _ _ _ _ hv',QA5 _ _ _ _ _ hv']
 by_cases e:v=k
 · subst e;rw[if_neg (by omega),if_pos (by omega),hz]
 · by_cases h2:v<k
   · rw[if_pos h2,if_pos (by omega)]
   · rw[if_neg h2,if_neg (by omega)]
theorem KG6 (E:List (Nat×Nat)):∀ W:List Nat,(QF5 W E).length=W.length:=by
 induction E with
 |nil=>intro W;rfl
 |cons e E ih=>intro W;rw[QF5,ih,XG4]
end Go.Proofs.YtjcagkgpbcdghaaDoor
/- Diagrams under way: crossings that are appended to one; the walks of drawing.crossOf and drawing.Turned. -/
namespace Go.Proofs.YtjcagkgpbcdghaaDoor
open Go.RowKit
structure OutAt (w:World) (B g:Nat) (v:Value) (loops:Int) (C:List Cr):Prop where
 box:w.heap[g]?=some (.cells #[v,.int .i64 loops] 27 (0,0))
 row:w.ownsRow B 72 5 v C.length (QQ7 C)
theorem OutAt.nil {w:World} {B g:Nat} {loops:Int} (h:w.heap[g]?=some (.cells #[.slice none 0 0,.int .i64 loops] 27 (0,0))):OutAt w B g (.slice none 0 0) loops []:=⟨h,World.ownsRow_nil _ _ _ _⟩
theorem OutAt.on {w w':World} {B g:Nat} {v:Value} {loops:Int} {C:List Cr} (h:OutAt w B g v loops C) (hb:Below w.heap.size w w'):OutAt w' B g v loops C:=
 ⟨(hb.block _ (Array.getElem?_eq_some_iff.1 h.box).1).trans h.box,own_any h.row (grown_below hb none)⟩
theorem OutAt.kept {w w':World} {B g q:Nat} {v:Value} {loops:Int} {C:List Cr} (h:OutAt w B g v loops C) (hg:w.grownBy w' (some q)) (hq:q≠g) (hB:q<B):OutAt w' B g v loops C:=by
 refine⟨(hg.block _ (Array.getElem?_eq_some_iff.1 h.box).1 (fun e=>hq (Option.some.inj e).symm)).trans h.box,h.row.kept hg ?_⟩
 cases hv:v.ownBlock with
 |none=>exact Or.inl rfl
 |some k=>exact Or.inr (fun e=>by have h1:=(h.row.lt k hv).1;have h2:=Option.some.inj e;omega)
theorem OutAt.below {w w8 W:World} {B B0 g:Nat} {v v8:Value} {loops:Int} {C:List Cr} {o:Obj} (h:OutAt w B g v loops C) (hb:Below B0 W w) (hB:B0<=B) (hs:B0<=w.heap.size) (h0:B0<=g) (hg8:(w.alloc o).grownBy w8 v.ownBlock):Below B0 W (w8.setCell ⟨g,0,none⟩ v8):=
 ((hb.alloc hs _).grown hg8 (by simp;omega) (fun q hq=>Nat.le_trans hB (h.row.lt q hq).1)).grown (QX9 w8 g 0 v8) (by have:=hg8.size;simp at this;omega) (fun q hq=>by have:=Option.some.inj hq;omega)
theorem OutAt.other {w w8:World} {B g k:Nat} {v v8:Value} {loops:Int} {C:List Cr} {o p:Obj} (h:OutAt w B g v loops C) (hk:w.heap[k]?=some p) (hkB:k<B) (hkg:k≠g) (hg8:(w.alloc o).grownBy w8 v.ownBlock):(w8.setCell ⟨g,0,none⟩ v8).heap[k]?=some p:=by
 have hlt:=(Array.getElem?_eq_some_iff.1 hk).1
 have hs:=hg8.size
 simp only[World.size_alloc]at hs
 have hb8:w8.heap[k]?=some p:=(hg8.block _ (by simp;omega) (fun e=>by have:=(h.row.lt k e.symm).1;omega)).trans (alloc_old hk)
 exact((QX9 w8 g 0 v8).block k (by omega) (fun e=>hkg (Option.some.inj e))).trans hb8
def turn (x:Cr) (f:Nat):Cr:=⟨x.arc (f%4),x.arc ((f+1)%4),x.arc ((f+2)%4),x.arc ((f+3)%4),x.plus⟩
end Go.Proofs.YtjcagkgpbcdghaaDoor
/- A crossing is stored whole into a row. -/
namespace Go.Proofs.YtjcagkgpbcdghaaDoor
open Go.RowKit
theorem QG8 (C:List Cr) (i:Nat) (hi:i<C.length) (r:Nat) (hr:r<5) (v:Value) (x:Cr) (hx:(QQ7 [C.getD i Cr.none]).set r v=QQ7 [x]):(QQ7 C).set (i*5+r) v=QQ7 (C.set i x):=by
 induction C generalizing i with
 |nil=>simp at hi
 |cons t l ih=>
  have e:∀ y:Cr,∀ m:List Cr,QQ7 (y::m)=QQ7 [y]++QQ7 m:=fun y m=>by simp[QQ7]
  have el:(QQ7 [t]).length=5:=by simp[QQ7]
  cases i with
  |zero=>
   rw[List.set_cons_zero,e t l,e x l,Nat.zero_mul,Nat.zero_add,List.set_append_left _ _ (by rw[el];exact hr)]
   rw[show(t::l).getD 0 Cr.none=t from rfl]at hx
   rw[hx]
  |succ i=>
   rw[List.set_cons_succ,e t l,e t (l.set i x),List.set_append_right _ _ (by rw[el];omega),el,show(i+1)*5+r-5=i*5+r by omega]
   rw[ih i (by simpa using hi) (by simpa using hx)]
theorem QA6 (Cs:List Cr) (c:Nat) (y:Cr) (hc:c<Cs.length):(Cs.set c y).getD c Cr.none=y:=by
 rw[List.getD_eq_getElem?_getD,List.getElem?_set_self hc,Option.getD_some]
theorem Jq7 {w : World} {B n g cap c : Nat} {Cs : List Cr} (h : w.ownsRow B 72 5 (.slice (some ⟨g, 0, none⟩) n cap) n (QQ7 Cs)) (hc : c < Cs.length) (y : Cr) :
    (((((w.setCell ⟨g,c*5,none⟩ (.int .i64 y.a)).setCell ⟨g,c*5+1,none⟩ (.int .i64 y.b)).setCell ⟨g,c*5+2,none⟩ (.int .i64 y.c)).setCell ⟨g,c*5+3,none⟩ (.int .i64 y.d)).setCell ⟨g,c*5+4,none⟩ (.bool y.plus)).ownsRow B 72 5 (.slice (some ⟨g,0,none⟩) n cap) n (QQ7 (Cs.set c y))/\
    w.grownBy (((((w.setCell ⟨g,c*5,none⟩ (.int .i64 y.a)).setCell ⟨g,c*5+1,none⟩ (.int .i64 y.b)).setCell ⟨g,c*5+2,none⟩ (.int .i64 y.c)).setCell ⟨g,c*5+3,none⟩ (.int .i64 y.d)).setCell ⟨g,c*5+4,none⟩ (.bool y.plus)) (some g):=by
 obtain⟨x,hx⟩:∃ x,Cs.getD c Cr.none=x:=⟨_,rfl⟩
 have h0:=h.stored (c*5) (.int .i64 y.a)
 have e0:=QG8 Cs c hc 0 (by omega) (.int .i64 y.a) ⟨y.a,x.b,x.c,x.d,x.plus⟩ (by rw[hx];rfl)
 rw[Nat.add_zero]at e0
 rw[e0]at h0
 have h1:=h0.1.stored (c*5+1) (.int .i64 y.b)
 rw[QG8 _ c (by simpa using hc) 1 (by omega) (.int .i64 y.b) ⟨y.a,y.b,x.c,x.d,x.plus⟩ (by rw[QA6 _ _ _ hc];rfl),List.set_set]at h1
 have h2:=h1.1.stored (c*5+2) (.int .i64 y.c)
 rw[QG8 _ c (by simpa using hc) 2 (by omega) (.int .i64 y.c) ⟨y.a,y.b,y.c,x.d,x.plus⟩ (by rw[QA6 _ _ _ hc];rfl),List.set_set]at h2
 have h3:=h2.1.stored (c*5+3) (.int .i64 y.d)
 rw[QG8 _ c (by simpa using hc) 3 (by omega) (.int .i64 y.d) ⟨y.a,y.b,y.c,y.d,x.plus⟩ (by rw[QA6 _ _ _ hc];rfl),List.set_set]at h3
 have h4:=h3.1.stored (c*5+4) (.bool y.plus)
 rw[QG8 _ c (by simpa using hc) 4 (by omega) (.bool y.plus) y (by rw[QA6 _ _ _ hc];rfl),List.set_set]at h4
 exact⟨h4.1,grown_trans (grown_trans (grown_trans (grown_trans h0.2 h1.2) h2.2) h3.2) h4.2⟩
def JU2 (w:World) (g c:Nat) (y:Cr):World:=((((w.setCell ⟨g,c*5,none⟩ (.int .i64 y.a)).setCell ⟨g,c*5+1,none⟩ (.int .i64 y.b)).setCell ⟨g,c*5+2,none⟩ (.int .i64 y.c)).setCell ⟨g,c*5+3,none⟩ (.int .i64 y.d)).setCell ⟨g,c*5+4,none⟩ (.bool y.plus)
end Go.Proofs.YtjcagkgpbcdghaaDoor
/- A row that is taken from at its head and appended to at its end: in the world, and the step of append upon it. -/
namespace Go.Proofs.YtjcagkgpbcdghaaDoor
open Go.RowKit
def QueAt (w:World) (base:Nat) (e:TypeId) (v:Value) (xs:List Value):Prop:=
 ∃ g off cap cur,v=.slice (some ⟨g,off,none⟩) xs.length cap/\base<=g/\w.heap[g]?=some (.cells cur e (0,0))/\xs.length<=cap/\cap<=maxLen/\off+cap<=cur.size/\(cur.toList.drop off).take xs.length=xs
theorem QueAt.kept {w w':World} {base:Nat} {e:TypeId} {v:Value} {xs:List Value} {row:Option Nat} (h:QueAt w base e v xs) (hg:w.grownBy w' row) (hne:v.ownBlock≠row):QueAt w' base e v xs:=by
 obtain⟨g,off,cap,cur,rfl,hb,hgg,rest⟩:=h
 refine⟨g,off,cap,cur,rfl,hb,?_,rest⟩
 rw[hg.block g (Array.getElem?_eq_some_iff.1 hgg).1 (by simpa[Value.ownBlock] using hne)]
 exact hgg
theorem QueAt.lt {w:World} {base:Nat} {e:TypeId} {v:Value} {xs:List Value} (h:QueAt w base e v xs):∀ k,v.ownBlock=some k->base<=k/\k<w.heap.size:=by
 intro k hk
 obtain⟨g,off,cap,cur,rfl,hb,hgg,rest⟩:=h
 have e:=Option.some.inj hk
 have e2:g=k:=e
 subst e2
 exact⟨hb,(Array.getElem?_eq_some_iff.1 hgg).1⟩
theorem QueAt.shape {w:World} {base:Nat} {e:TypeId} {v:Value} {xs:List Value} (h:QueAt w base e v xs):∃ g off cap,v=.slice (some ⟨g,off,none⟩) xs.length cap/\xs.length<=cap:=by
 obtain⟨g,off,cap,cur,rfl,_,_,h2,_⟩:=h
 exact⟨g,off,cap,rfl,h2⟩
theorem QueAt.size {w:World} {base g off n cap:Nat} {e:TypeId} {xs:List Value} (h:QueAt w base e (.slice (some ⟨g,off,none⟩) n cap) xs):n=xs.length/\n<=cap/\cap<=maxLen/\base<=g/\g<w.heap.size:=by
 obtain⟨g',off',cap',cur,ev,hb,hgg,h1,h2,_⟩:=h
 injection ev with e1 e2 e3
 injection e1 with e1
 injection e1 with e4 e5
 subst e4 e2 e3
 exact⟨rfl,h1,h2,hb,(Array.getElem?_eq_some_iff.1 hgg).1⟩
theorem QueAt.cell {w:World} {base g off n cap:Nat} {e:TypeId} {xs:List Value} (h:QueAt w base e (.slice (some ⟨g,off,none⟩) n cap) xs) (j:Nat) (u:Value) (hj:xs[j]?=some u):w.cell? ⟨g,off+j,none⟩=some u:=by
 obtain⟨g',off',cap',cur,ev,hb,hgg,h1,h2,h3,h4⟩:=h
 injection ev with e1 e2 e3
 injection e1 with e1
 injection e1 with e4 e5
 subst e4 e5
 rw[cell_of_row w g _ cur e (0,0) hgg]
 rw[<-h4,List.getElem?_take]at hj
 split at hj
 · rw[List.getElem?_drop]at hj
   simpa using hj
 · cases hj
theorem QueAt.tail {w:World} {base g off n cap:Nat} {e:TypeId} {x:Value} {xs:List Value} (h:QueAt w base e (.slice (some ⟨g,off,none⟩) n cap) (x::xs)):QueAt w base e (.slice (some ⟨g,off+1,none⟩) (n-1) (cap-1)) xs:=by
 obtain⟨g',off',cap',cur,ev,hb,hgg,h1,h2,h3,h4⟩:=h
 injection ev with e1 e2 e3
 injection e1 with e1
 injection e1 with e4 e5
 subst e4 e5 e3
 simp only[List.length_cons]at e2 h1 h4
 refine⟨g,off+1,cap-1,cur,by rw[e2];simp,hb,hgg,by omega,by omega,by omega,?_⟩
 have h5:((cur.toList.drop off).take (xs.length+1)).drop 1=xs:=by rw[h4];rfl
 rw[List.drop_take,List.drop_drop]at h5
 simpa using h5
theorem QueAt.tail1 {w:World} {base g off n:Nat} {e:TypeId} {x:Value} {xs:List Value} (h:QueAt w base e (.slice (some ⟨g,off,none⟩) n 1) (x::xs)):QueAt w base e (.slice (some ⟨g,off,none⟩) (n-1) 0) xs/\xs=[]:=by
 obtain⟨g',off',cap',cur,ev,hb,hgg,h1,h2,h3,h4⟩:=h
 injection ev with e1 e2 e3
 injection e1 with e1
 injection e1 with e4 e5
 subst e4 e5 e3
 simp only[List.length_cons]at e2 h1 h4
 have hx:xs=[]:=List.length_eq_zero_iff.1 (by omega)
 subst hx
 exact⟨⟨g,off,0,cur,by rw[e2];simp,hb,hgg,Nat.zero_le _,Nat.zero_le _,by omega,by simp⟩,rfl⟩
theorem QueAt.made {w:World} {base g n cap:Nat} {e:TypeId} {xs:List Value} (h:w.ownsRow base e 1 (.slice (some ⟨g,0,none⟩) n cap) n xs):QueAt w base e (.slice (some ⟨g,0,none⟩) n cap) xs:=by
 obtain⟨hl,h⟩:=h
 rcases h with⟨h,_⟩|⟨g',cap',cur,ev,hb,hgg,h1,h2,h3,h4⟩
 · cases h
 · injection ev with e1 e2 e3
   injection e1 with e1
   injection e1 with e4
   subst e4 e3
   rw[Nat.mul_one]at hl h3 h4
   exact⟨g,0,cap,cur,by rw[hl],hb,hgg,by omega,h2,by omega,by rw[hl];simpa using h4⟩
theorem XU1 {P : Program} (w : World) (base : Nat) (t ty e : TypeId) (i : TypeInfo) (z : Value) (bytes : Nat) (ht : P.underlying t = some (.slice e)) (hi : P.info? e = some i) (hz : i.zero = some z)
    (hsize:i.size=1) (hby:i.bytes=bytes) (hzs:z.cells.size=1)
    (v:Value) (xs:List Value) (hown:QueAt w base e v xs)
    (a:Addr) (c:Nat) (u:Value) (hnews:w.cell? a=some u) (h1:u.oneCell'=true)
    (h63:xs.length+1<=maxLen) (hbytes:(xs.length+1)*bytes<=140737488355328) (hbase:base<=w.heap.size):
    ∃ v' w',(Builtin.append_ #[t,t] ty #[v,.slice (some a) 1 c]).run P w=.ok v' w'/\QueAt w' base e v' (xs++[u])/\w.grownBy w' v.ownBlock:=by
 subst hby
 have hsmall:xs.length+1<=9223372036854775807:=by simp only[maxLen]at h63;omega
 have hl:[u].length=1*i.size:=by rw[hsize];rfl
 have hcells:∀ j v,[u][j]?=some v->w.cell? (a.add j)=some v:=by
  intro j v hj
  cases j with
  |zero=>
   have e:v=u:=by simpa using hj.symm
   subst e
   have ha:a.add 0=a:=by unfold Addr.add;split<;>simp_all
   rw[ha]
   exact hnews
  |succ j=>simp at hj
 obtain⟨g,off,cap,cur,rfl,hb,hgg,hnc,hcm,hcs,htake⟩:=hown
 by_cases hroom:xs.length+1<=cap
 · have hf:=run_firstCells_some (P:=P) w i.size 1 a 1 c [u] hl hcells
   have hst:=run_storeCells_at P g (off+xs.length) e [u] 0 cur w hgg (by simp;omega) (by simpa using h1)
   simp only[Nat.add_zero]at hst
   refine⟨.slice (some ⟨g,off,none⟩) (xs.length+1) cap,w.setRow g (cur.toList.take (off+xs.length)++[u]++cur.toList.drop (off+xs.length+[u].length)).toArray,?_,⟨g,off,cap,_,by simp,hb,setRow_heap w g cur _ e _ hgg,by simpa using hroom,hcm,?_,?_⟩,⟨rfl,rfl,rfl,by simp,fun k _ hk=>setRow_other w g k _ (fun e=>hk (by simp[Value.ownBlock,e]))⟩⟩
   · rw[hsize]at hf
     simp[Builtin.append_,run_underlying ht,sizeOf,typeInfo,hi,hsize,Builtin.lenOf,hroom,hf,Addr.add_lit]
     simp at hst
     simp[hst]
   · simp only[List.size_toArray,List.length_append,List.length_take,List.length_drop,Array.length_toList,List.length_cons,List.length_nil]
     omega
   · have h5:(cur.toList.take (off+xs.length)).drop off=xs:=by rw[List.drop_take,Nat.add_sub_cancel_left];exact htake
     simp only[List.append_assoc]
     rw[List.drop_append_of_le_length (by simp;omega),h5,<-List.append_assoc]
     exact List.take_left
 · have holds : ∀ j v, xs[j]? = some v → w.cell? ((⟨g, off, none⟩ : Addr).add j) = some v := fun j v hj => by
     have hadd:(⟨g,off,none⟩:Addr).add j=⟨g,off+j,none⟩:=by unfold Addr.add;split<;>simp_all
     rw[hadd]
     exact QueAt.cell (⟨g,off,cap,cur,rfl,hb,hgg,hnc,hcm,hcs,htake⟩:QueAt w base e (.slice (some ⟨g,off,none⟩) xs.length cap) xs) j v hj
   have hr:=run_append_grow (P:=P) w t ty e i z ht hi hz ⟨g,off,none⟩ xs.length cap xs (by rw[hsize,Nat.mul_one]) holds a 1 c [u] hl hcells (by omega) (by omega) (growslice_fits (by omega) hbytes)
   have hge:=grownCap_ge w (xs.length+1) cap e
   refine⟨_,_,hr,⟨w.heap.size,0,_,_,by simp,hbase,heap_alloc_new w.drew _,by simpa using hge,grownCap_le_maxLen w (xs.length+1) cap e h63,?_,?_⟩,⟨rfl,rfl,rfl,by simp,fun k hk _=>Array.getElem?_push_lt hk▸(Array.getElem?_eq_getElem hk).symm⟩⟩
   · simp only[Array.size_append,List.size_toArray,size_zeroCells,hzs,List.length_cons,List.length_nil]
     omega
   · simp only[Array.toList_append,List.drop_zero]
     exact List.take_left
theorem QH0 {P : Program} (w : World) {ops : Array Oper} {rest : List Oper} {o : Oper} {a : Act} {Q : Exit → Act → World → Prop} (hgd : o.guard = none) (s x : Operand) (t : TypeId)
    (ho:o.op=.call { callee:=.builtin .append,args:=#[s,x],argTypes:=#[t,t] })
    (base:Nat) (e:TypeId) (i:TypeInfo) (z:Value) (bytes:Nat) (ht:P.underlying t=some (.slice e)) (hi:P.info? e=some i) (hz:i.zero=some z)
    (hsize:i.size=1) (hby:i.bytes=bytes) (hzs:z.cells.size=1)
    (v:Value) (xs:List Value) (hs:a.eval s=v) (hown:QueAt w base e v xs)
    (ad:Addr) (c:Nat) (u:Value) (hx:a.eval x=.slice (some ad) 1 c) (hnews:w.cell? ad=some u) (h1:u.oneCell'=true)
    (h63:xs.length+1<=maxLen) (hbytes:(xs.length+1)*bytes<=140737488355328) (hbase:base<=w.heap.size)
    (h:∀ v' w',QueAt w' base e v' (xs++[u])->w.grownBy w' v.ownBlock->wpList P ops Q rest (a.put o.dst v') w'):wpList P ops Q (o::rest) a w:=by
 refine wpList_plain hgd fun _ hK=>?_
 obtain⟨v',w',hr,h2,h3⟩:=XU1 (P:=P) w base t o.type e i z bytes ht hi hz hsize hby hzs v xs hown ad c u hnews h1 h63 hbytes hbase
 unfold Oper.wp execOp
 simp only[ho,resolve,invoke,builtin,Sem.run_bind,Sem.run_pure,Result.andThen_ok,List.map_toArray,List.map_cons,List.map_nil,hs,hx,hr]
 exact hK _ _ (h v' w' h2 h3)
end Go.Proofs.YtjcagkgpbcdghaaDoor
/- The walks of Drawing.End, Drawing.Onward, way; ref.dartCode, ref.NextDart. -/
namespace Go.Proofs.YtjcagkgpbcdghaaDoor
open Go.RowKit
set_option maxHeartbeats 2000000
set_option maxRecDepth 100000
theorem Dr.endAt {w : World} {a : Option Addr} {cap : Nat} {C : List Cr} {gF gT : Nat} {loops : Int} (h : Dr w a cap C gF gT) (hm : QX3 C loops = true) (x : Nat) (h1 : 1 ≤ x) (h2 : x ≤ 2 * C.length) :
    w.cell? ⟨gT,x*2,none⟩=some (.int .i64 (enC C x true:Nat))/\w.cell? ⟨gT,x*2+1,none⟩=some (.int .i64 (enS C x true:Nat))/\w.cell? ⟨gF,x*2,none⟩=some (.int .i64 (enC C x false:Nat))/\w.cell? ⟨gF,x*2+1,none⟩=some (.int .i64 (enS C x false:Nat)):=by
 have hT:=h.to x (by rw[QZ4];omega)
 have hF:=h.from_ x (by rw[QZ4];omega)
 rw[Qy4 C true C.length 0 x h1 h2,Nat.zero_add]at hT
 rw[Qy4 C false C.length 0 x h1 h2,Nat.zero_add]at hF
 have e:QB0 C x true C.length 0=QC2 C x true C.length:=rfl
 have e2:QB0 C x false C.length 0=QC2 C x false C.length:=rfl
 rw[e,(QJ3 hm x true h1 h2).1]at hT
 rw[e2,(QJ3 hm x false h1 h2).1]at hF
 exact⟨hT.1,hT.2,hF.1,hF.2⟩
theorem XG9 (a : Option Addr) (cap : Nat) (C : List Cr) (loops : Int) (gF cF gT cT : Nat) (x : Nat) (p : Bool) (w : World) (hm : QX3 C loops = true) (h1 : 1 ≤ x) (h2 : x ≤ 2 * C.length) (hD : Dr w a cap C gF gT) :
    Calls Tryd.prog 69 #[drV a cap C loops gF cF gT cT,.agg #[.int .i64 x,.bool p]] w fun e w'=>e=.returned (.agg #[.int .i64 (enC C x (!p):Nat),.int .i64 (enS C x (!p):Nat)])/\Below w.heap.size w w':=by
 unfold drV
 obtain⟨c0,c1,c2,c3⟩:=hD.endAt hm x h1 h2
 have l1:=hD.ltT
 have l2:=hD.ltF
 clear hD
 have hB3:Below w.heap.size w (((w.alloc (.cells #[.slice a C.length cap,.int .i64 loops,.slice (some ⟨gF,0,none⟩) (2*C.length+1) cF,.slice (some ⟨gT,0,none⟩) (2*C.length+1) cT] 44)).alloc (.cells #[.int .i64 x,.bool p] 125)).alloc (.cells #[.int .i64 0,.int .i64 0] 118)):=XY3 _ _ _ _
 have d0:=bcell hB3 l1 c0
 have d1:=bcell hB3 l1 c1
 have d2:=bcell hB3 l2 c2
 have d3:=bcell hB3 l2 c3
 clear hB3 c0 c1 c2 c3
 obtain⟨t0,ht0⟩:∃ t0,enC C x true=t0:=⟨_,rfl⟩
 obtain⟨t1,ht1⟩:∃ t1,enS C x true=t1:=⟨_,rfl⟩
 obtain⟨f0,hf0⟩:∃ f0,enC C x false=f0:=⟨_,rfl⟩
 obtain⟨f1,hf1⟩:∃ f1,enS C x false=f1:=⟨_,rfl⟩
 rw[ht0]at d0
 rw[ht1]at d1
 rw[hf0]at d2
 rw[hf1]at d3
 have hx:x<2*C.length+1:=by omega
 cases p with
 |true=>
  have hG:(((w.alloc (.cells #[.slice a C.length cap,.int .i64 loops,.slice (some ⟨gF,0,none⟩) (2*C.length+1) cF,.slice (some ⟨gT,0,none⟩) (2*C.length+1) cT] 44)).alloc (.cells #[.int .i64 x,.bool true] 125)).alloc (.cells #[.int .i64 f0,.int .i64 f1] 118)).heap[w.heap.size+1+1]?=some (.cells #[.int .i64 f0,.int .i64 f1] 118 (0,0)):=alloc_at (by simp)
  have x0:=QQ0 (i:=0) (v:=.int .i64 f0) hG rfl
  have x1:=QQ0 (i:=1) (v:=.int .i64 f1) hG rfl
  have HB:Hid (Below w.heap.size w (((w.alloc (.cells #[.slice a C.length cap,.int .i64 loops,.slice (some ⟨gF,0,none⟩) (2*C.length+1) cF,.slice (some ⟨gT,0,none⟩) (2*C.length+1) cT] 44)).alloc (.cells #[.int .i64 x,.bool true] 125)).alloc (.cells #[.int .i64 f0,.int .i64 f1] 118))):=XY3 _ _ _ _
  clear hG
  go_enter Tryd.func69,Tryd.ntmps69
  go_wp2
  exact bodyPost_ret (v:=.agg #[.int .i64 f0,.int .i64 f1]) (by simp[results,Tryd.results69,go_sem,x0,x1]) rfl ⟨by simp[hf0,hf1],HB.out⟩
 |false=>
  have hG:(((w.alloc (.cells #[.slice a C.length cap,.int .i64 loops,.slice (some ⟨gF,0,none⟩) (2*C.length+1) cF,.slice (some ⟨gT,0,none⟩) (2*C.length+1) cT] 44)).alloc (.cells #[.int .i64 x,.bool false] 125)).alloc (.cells #[.int .i64 t0,.int .i64 t1] 118)).heap[w.heap.size+1+1]?=some (.cells #[.int .i64 t0,.int .i64 t1] 118 (0,0)):=alloc_at (by simp)
  have x0:=QQ0 (i:=0) (v:=.int .i64 t0) hG rfl
  have x1:=QQ0 (i:=1) (v:=.int .i64 t1) hG rfl
  have HB:Hid (Below w.heap.size w (((w.alloc (.cells #[.slice a C.length cap,.int .i64 loops,.slice (some ⟨gF,0,none⟩) (2*C.length+1) cF,.slice (some ⟨gT,0,none⟩) (2*C.length+1) cT] 44)).alloc (.cells #[.int .i64 x,.bool false] 125)).alloc (.cells #[.int .i64 t0,.int .i64 t1] 118))):=XY3 _ _ _ _
  clear hG
  go_enter Tryd.func69,Tryd.ntmps69
  go_wp2
  exact bodyPost_ret (v:=.agg #[.int .i64 t0,.int .i64 t1]) (by simp[results,Tryd.results69,go_sem,x0,x1]) rfl ⟨by simp[ht0,ht1],HB.out⟩
theorem Kd3 (x : Int) (p : Bool) (w : World) :
    Calls Tryd.prog 88 #[.agg #[.int .i64 x,.bool p]] w fun e w'=>e=.returned (.int .i64 (if p=true then 1 else 0))/\Below w.heap.size w w':=by
 go_enter Tryd.func88,Tryd.ntmps88
 cases p with
 |true=>
  go_wp2
  go_ret
  exact⟨rfl,(Below.refl _ _).alloc (Nat.le_refl _) _⟩
 |false=>
  go_wp2
  go_ret
  exact⟨rfl,(Below.refl _ _).alloc (Nat.le_refl _) _⟩
end Go.Proofs.YtjcagkgpbcdghaaDoor
/- Tellings of pieces: plain mathematics; the walk of ref.otherEnd. -/
namespace Go.Proofs.YtjcagkgpbcdghaaDoor
open Go.RowKit
def nbS (C:List Cr) (k s:Nat):Nat:=enS C ((C.getD k Cr.none).arc s).toNat (!(C.getD k Cr.none).comes s)
theorem XU8 {C : List Cr} {loops : Int} (hm : QX3 C loops = true) (k s : Nat) (hk : k < C.length) (hs : s < 4) :
    (1<=((C.getD k Cr.none).arc s).toNat/\((C.getD k Cr.none).arc s).toNat<=2*C.length/\(C.getD k Cr.none).arc s=(((C.getD k Cr.none).arc s).toNat:Int))/\
    QC2 C ((C.getD k Cr.none).arc s).toNat (!(C.getD k Cr.none).comes s) C.length=((nbC C k s:Int),(nbS C k s:Int))/\nbC C k s<C.length/\nbS C k s<4:=by
 have hf:=QV7 hm k s hk hs
 have g1:=hf.1
 have g2:=hf.2.1
 have ha:1<=((C.getD k Cr.none).arc s).toNat/\((C.getD k Cr.none).arc s).toNat<=2*C.length:=by omega
 have h:=QJ3 hm _ (!(C.getD k Cr.none).comes s) ha.1 ha.2
 exact⟨⟨ha.1,ha.2,by omega⟩,h.1,h.2.1,h.2.2.1⟩
def teS (C:List Cr) (c:Nat) (p:List Nat×List Int) (s:Nat):List Nat×List Int:=
 let o:=if nbC C c s∈p.1 then p.1 else p.1++[nbC C c s]
 (o,p.2++[(o.idxOf (nbC C c s):Int),(nbS C c s:Int)])
def teK (C:List Cr) (i:Nat) (p:List Nat×List Int):Nat->List Nat×List Int
 |0=>(p.1,p.2++[if(C.getD (p.1.getD i 0) Cr.none).plus=true then 1 else 0])
 |k+1=>teS C (p.1.getD i 0) (teK C i p k) k
def teI (C:List Cr) (first:Nat):Nat->List Nat×List Int
 |0=>([first],[])
 |i+1=>if i<(teI C first i).1.length then teK C i (teI C first i) 4 else teI C first i
def te (C:List Cr) (first:Nat):List Nat×List Int:=teI C first C.length
structure TeOk (C:List Cr) (p:List Nat×List Int):Prop where
 lt:∀ x,x∈p.1->x<C.length
 nd:p.1.Nodup
theorem TeOk.few {C:List Cr} {p:List Nat×List Int} (h:TeOk C p):p.1.length<=C.length:=by
 have:=List.Nodup.length_le_of_subset h.nd (l₂:=List.range C.length) (fun x hx=>List.mem_range.2 (h.lt x hx))
 simpa using this
theorem JD0 {C:List Cr} {loops:Int} (hm:QX3 C loops=true) {c:Nat} (hc:c<C.length) {p:List Nat×List Int} (h:TeOk C p) {s:Nat} (hs:s<4):TeOk C (teS C c p s):=by
 have hn:=(XU8 hm c s hc hs).2.2.1
 unfold teS
 simp only
 split
 · exact⟨h.lt,h.nd⟩
 · rename_i hno
   refine⟨fun x hx=>?_,?_⟩
   · rcases List.mem_append.1 hx with hx|hx
     · exact h.lt x hx
     · simp only[List.mem_singleton]at hx;omega
   · refine List.nodup_append.2 ⟨h.nd,by simp,fun a ha b hb e=>?_⟩
     simp only[List.mem_singleton]at hb
     rw[e,hb]at ha
     exact hno ha
end Go.Proofs.YtjcagkgpbcdghaaDoor
/- Sums: the walks of Drawing.Has and of the closure that numbers arcs anew, and of drawing.Renumbered with it. -/
namespace Go.Proofs.YtjcagkgpbcdghaaDoor
open Go.RowKit
def Boxes (w:World) (x:Cr) (more cut other:Int) (pc px po pm:Nat):Prop:=(pc<w.heap.size/\px<w.heap.size/\po<w.heap.size/\pm<w.heap.size)/\w.cell? ⟨pc,0,none⟩=some (.int .i64 cut)/\w.cell? ⟨px,0,none⟩=some (.int .i64 x.a)/\w.cell? ⟨px,1,none⟩=some (.int .i64 x.b)/\w.cell? ⟨px,2,none⟩=some (.int .i64 x.c)/\w.cell? ⟨px,3,none⟩=some (.int .i64 x.d)/\w.cell? ⟨px,4,none⟩=some (.bool x.plus)/\w.cell? ⟨po,0,none⟩=some (.int .i64 other)/\w.cell? ⟨pm,0,none⟩=some (.int .i64 more)
theorem Boxes.kept {B:Nat} {w w':World} {x:Cr} {more cut other:Int} {pc px po pm:Nat} (h:Boxes w x more cut other pc px po pm) (hb:Below B w w') (l1:pc<B) (l2:px<B) (l3:po<B) (l4:pm<B):Boxes w' x more cut other pc px po pm:=by
 obtain⟨⟨a1,a2,a3,a4⟩,c0,c1,c2,c3,c4,c5,c6,c7⟩:=h
 have hs:=hb.size
 exact⟨⟨by omega,by omega,by omega,by omega⟩,bcell hb l1 c0,bcell hb l2 c1,bcell hb l2 c2,bcell hb l2 c3,bcell hb l2 c4,bcell hb l2 c5,bcell hb l3 c6,bcell hb l4 c7⟩
end Go.Proofs.YtjcagkgpbcdghaaDoor
/- Plain mathematics: rows modulo a prime, what they span, and how many columns have a first place in it. -/
namespace Go.Proofs.YtjcagkgpbcdghaaDoor
structure Sub (p m:Nat) (S:(Nat->Int)->Prop):Prop where
 zero:S (fun _=>0)
 add:∀ u v (k:Int),S u->S v->S (fun j=>u j+k*v j)
 mod:∀ u v,(∀ j,j<m->(p:Int) ∣ u j-v j)->S u->S v
def Sp (p m:Nat) (R:(Nat->Int)->Prop) (v:Nat->Int):Prop:=∀ S,Sub p m S->(∀ r,R r->S r)->S v
theorem Sp.mem {p m:Nat} {R:(Nat->Int)->Prop} {r:Nat->Int} (h:R r):Sp p m R r:=fun _ _ hR=>hR r h
theorem Sp.sub (p m:Nat) (R:(Nat->Int)->Prop):Sub p m (Sp p m R):=
 ⟨fun _ hS _=>hS.zero,fun u v k hu hv S hS hR=>hS.add u v k (hu S hS hR) (hv S hS hR),fun u v h hu S hS hR=>hS.mod u v h (hu S hS hR)⟩
theorem Sp.le {p m:Nat} {R R':(Nat->Int)->Prop} {v:Nat->Int} (h:∀ r,R r->Sp p m R' r) (hv:Sp p m R v):Sp p m R' v:=hv _ (Sp.sub p m R') h
def Vc (p m:Nat) (R0:(Nat->Int)->Prop) (c:Nat) (v:Nat->Int):Prop:=Sp p m R0 v/\∀ j,j<c->(p:Int) ∣ v j
def Inv (p m:Nat) (R0:(Nat->Int)->Prop) (c:Nat) (R:(Nat->Int)->Prop):Prop:=∀ v,Sp p m R v↔Vc p m R0 c v
theorem JD5 {p m c:Nat} {R:(Nat->Int)->Prop} (hc:c<m) (h:∀ r,R r->(p:Int) ∣ r c) {v:Nat->Int} (hv:Sp p m R v):(p:Int) ∣ v c:=
 hv (fun v => (p : Int) ∣ v c) ⟨Int.dvd_zero _, fun u v k hu hv => Int.dvd_add hu (Int.dvd_mul_of_dvd_right hv), fun u v h hu => by
  have h1:=Int.dvd_sub hu (h c hc)
  have e:u c-(u c-v c)=v c:=by omega
  rw[e]at h1
  exact h1⟩ h
theorem Inv.start {p m:Nat} {R0 R:(Nat->Int)->Prop} (h1:∀ r,R r->∃ q,R0 q/\∀ j,j<m->(p:Int) ∣ q j-r j) (h2:∀ r,R0 r->∃ q,R q/\∀ j,j<m->(p:Int) ∣ q j-r j):Inv p m R0 0 R:=fun v=>
 ⟨fun hv => ⟨Sp.le (fun r hr => by obtain ⟨q, hq, e⟩ := h1 r hr; exact (Sp.sub p m R0).mod q r e (Sp.mem hq)) hv, fun j hj => absurd hj (Nat.not_lt_zero _)⟩,
  fun hv=>Sp.le (fun r hr=>by obtain⟨q,hq,e⟩:=h2 r hr;exact(Sp.sub p m R).mod q r e (Sp.mem hq)) hv.1⟩
theorem Inv.none {p m c:Nat} {R0 R:(Nat->Int)->Prop} (h:Inv p m R0 c R) (hc:c<m) (hn:∀ r,R r->(p:Int) ∣ r c):Inv p m R0 (c+1) R:=fun v=>
 ⟨fun hv => ⟨((h v).1 hv).1, fun j hj => by
     by_cases e:j=c
     · rw[e];exact JD5 hc hn hv
     · exact((h v).1 hv).2 j (by omega)⟩,
  fun hv=>(h v).2 ⟨hv.1,fun j hj=>hv.2 j (by omega)⟩⟩
end Go.Proofs.YtjcagkgpbcdghaaDoor
/- Plain mathematics of Alexander's table: polynomials of two terms, and the places of a row. -/
namespace Go.Proofs.YtjcagkgpbcdghaaDoor
open Go.RowKit
def QY5 (x y:Int):List (Int×Int):=(if x=0 then [] else [(0,x)])++(if y=0 then [] else [(1,y)])
def Kz4 (x y:Int) (e:Int):Int:=if e=0 then x else if e=1 then y else 0
theorem Zq6 (x y:Int):Poly.Canon (QY5 x y) (Kz4 x y):=by
 unfold QY5
 constructor
 · by_cases hx:x=0<;>by_cases hy:y=0<;>simp[hx,hy]
 · intro e c
   by_cases hx:x=0<;>by_cases hy:y=0<;>by_cases h0:e=0<;>by_cases h1:e=1<;>simp[Kz4,hx,hy,h0,h1]<;>omega
theorem Kx9 (x y:Int):(QY5 x y).length<=2:=by
 unfold QY5
 by_cases hx:x=0<;>by_cases hy:y=0<;>simp[hx,hy]
theorem XC5 (x y:Int) (hx : -100<=x/\x<=100) (hy : -100<=y/\y<=100):Poly.mayB (QY5 x y)=true:=by
 refine(Poly.may_iff _).2 ⟨Nat.le_trans (Kx9 x y) (by decide),fun i hi=>?_⟩
 rw[Poly.okB_iff]
 unfold QY5 at hi ⊢
 by_cases h0:x=0<;>by_cases h1:y=0<;>simp only[h0,h1,if_true,if_false,List.nil_append,List.append_nil,List.length_nil,List.length_cons,List.singleton_append]at hi ⊢
 · omega
 · obtain rfl:i=0:=by omega
   simp
   omega
 · obtain rfl:i=0:=by omega
   simp
   omega
 · have:i=0∨i=1:=by omega
   rcases this with rfl|rfl<;>simp<;>omega
theorem Xw4 (x y e:Int):Poly.coefL (QY5 x y) e=Kz4 x y e:=by
 unfold QY5 Kz4
 by_cases hx:x=0<;>by_cases hy:y=0<;>by_cases h0:e=0<;>by_cases h1:e=1<;>simp[Poly.coefL,hx,hy,h0,h1]<;>omega
theorem Kz1 (x y dx dy e:Int):Kz4 x y e+Kz4 dx dy e=Kz4 (x+dx) (y+dy) e:=by
 unfold Kz4
 by_cases h0:e=0
 · simp[h0]
 · by_cases h1:e=1
   · simp[h1]
   · simp[h0,h1]
theorem Kx8 {r:List (Int×Int)} {x y dx dy:Int} (h:Poly.Canon r (fun e=>Poly.coefL (QY5 x y) e+Poly.coefL (QY5 dx dy) e)):r=QY5 (x+dx) (y+dy):=
 Poly.canon_unique (Poly.canon_congr h fun e=>by rw[Xw4,Xw4,Kz1]) (Zq6 _ _)
def QX7 (F:Nat->Int×Int) (p:Nat) (dx dy:Int):Nat->Int×Int:=fun j=>if j=p then((F j).1+dx,(F j).2+dy) else F j
def QK1:Nat->Int×Int:=fun _=>(0,0)
def rowF (o i v:Nat):Nat->Int×Int:=QX7 (QX7 (QX7 QK1 o 1 0) i 0 (-1)) v (-1) 1
def inC (C:List Cr) (c:Cr):Nat:=if c.plus=true then ovM C c.a.toNat else ovM C c.c.toNat
def XW7 (C:List Cr) (c:Cr):Nat:=if c.plus=true then ovM C c.c.toNat else ovM C c.a.toNat
def alF (C:List Cr) (k:Nat):Nat->Int×Int:=rowF (XW7 C (C.getD k Cr.none)) (inC C (C.getD k Cr.none)) (ovM C (C.getD k Cr.none).b.toNat)
def QY0 (F:Nat->Int×Int) (b:Int):Prop:=∀ j,-b<=(F j).1/\(F j).1<=b /\ -b<=(F j).2/\(F j).2<=b
theorem QB4:QY0 QK1 0:=fun _=>by simp[QK1]
theorem QG0 {F:Nat->Int×Int} {b:Int} (h:QY0 F b) (p:Nat) {dx dy:Int} (hx : -1<=dx/\dx<=1) (hy : -1<=dy/\dy<=1):QY0 (QX7 F p dx dy) (b+1):=fun j=>by
 have:=h j
 unfold QX7
 by_cases e:j=p
 · rw[if_pos e];simp only;omega
 · rw[if_neg e];omega
def QY6 (m:Nat) (f:Nat->Value):List Value:=(List.range m).map f
theorem QW4 (m:Nat) (f:Nat->Value):(QY6 m f).length=m:=by simp[QY6]
theorem QK2 (m:Nat) (f:Nat->Value) (i:Nat) (h:i<m):(QY6 m f)[i]?=some (f i):=by simp[QY6,h]
theorem XX3 (m:Nat) (f g:Nat->Value) (i:Nat) (x:Value) (h:∀ j,j<m->g j=if j=i then x else f j):(QY6 m f).set i x=QY6 m g:=by
 apply List.ext_getElem?
 intro j
 by_cases hj:j<m
 · rw[QK2 m g j hj,h j hj,List.getElem?_set]
   by_cases e:i=j
   · subst e;simp[QW4,hj]
   · rw[if_neg e,if_neg (fun h=>e h.symm),QK2 m f j hj]
 · rw[List.getElem?_eq_none (by simp[QW4];omega),List.getElem?_eq_none (by simp[QW4];omega)]
theorem Qb6 (n:Nat):(madeCells (Value.slice none 0 0).cells (n*1)).toList=QY6 n fun _=>.slice none 0 0:=by
 have e:(Value.slice none 0 0).cells=#[Value.slice none 0 0]:=rfl
 rw[e,toList_madeCells_one,Nat.mul_one]
 apply List.ext_getElem?
 intro j
 by_cases hj:j<n
 · rw[QK2 _ _ _ hj];simp[hj]
 · rw[List.getElem?_eq_none (by simp;omega),List.getElem?_eq_none (by simp[QW4];omega)]
structure PlcAt (B m g:Nat) (vals:Nat->Value) (F:Nat->Int×Int) (wr:World):Prop where
 row:wr.ownsRow B 33 1 (.slice (some ⟨g,0,none⟩) m m) m (QY6 m vals)
 each:∀ j,j<m->wr.ownsRow B 56 2 (vals j) (QY5 (F j).1 (F j).2).length (Poly.flat (QY5 (F j).1 (F j).2))
theorem PlcAt.any {B m g:Nat} {vals:Nat->Value} {F:Nat->Int×Int} {w w':World} (h:PlcAt B m g vals F w) (hg:w.grownBy w' none):PlcAt B m g vals F w':=⟨own_any h.row hg,fun j hj=>own_any (h.each j hj) hg⟩
theorem PlcAt.set {B m g : Nat} {vals : Nat → Value} {F : Nat → Int × Int} {w w' : World} (h : PlcAt B m g vals F w) (hb : Below w.heap.size w w') (hB : B ≤ w.heap.size) (p : Nat) (dx dy : Int) (v : Value)
    (hv:w'.ownsRow w.heap.size 56 2 v (QY5 ((F p).1+dx) ((F p).2+dy)).length (Poly.flat (QY5 ((F p).1+dx) ((F p).2+dy)))):PlcAt B m g (fun j=>if j=p then v else vals j) (QX7 F p dx dy) (w'.setCell ⟨g,p,none⟩ v):=by
 have h1:=h.any (grown_below hb none)
 have hst:=h1.row.stored p v
 refine⟨?_,fun j hj=>?_⟩
 · rw[<-XX3 m vals _ p v fun j _=>rfl]
   exact hst.1
 · unfold QX7
   by_cases e:j=p
   · rw[if_pos e,if_pos e,e]
     exact(QZ6 hv hB).kept hst.2 (own_ne (QZ6 hv hB) h1.row (by decide))
   · rw[if_neg e,if_neg e]
     exact(h1.each j hj).kept hst.2 (own_ne (h1.each j hj) h1.row (by decide))
end Go.Proofs.YtjcagkgpbcdghaaDoor
/- Plain mathematics of the bracket: states that tie the same, together; one crossing more; all states. -/
namespace Go.Proofs.YtjcagkgpbcdghaaDoor
def exS (s:Nat):Nat->Int
 |0=>0
 |k+1=>exS s k+(if s / 2 ^ k%2=1 then 1 else -1)
def kyS (C:List Cr) (s k:Nat):List Nat:=Xq7 (prS (arQ C) s) (2*k)
def wS (C:List Cr) (c0 s k:Nat):Int->Int:=shA (exS s k) (dlN (c0+QC3 (prS (arQ C) s) (2*k)) QJ2)
def mS (C:List Cr) (c0 k:Nat) (T:List Nat):Int->Int:=fun y=>QX4 (2 ^ k) fun s=>if kyS C s k=T then wS C c0 s k y else 0
def t4 (T:List Nat) (p q r s:Nat):List Nat:=Qu8 (Qu8 T p q) r s
def c4 (T:List Nat) (p q r s:Nat):Nat:=XF3 T p q+XF3 (Qu8 T p q) r s
def tA (C:List Cr) (k:Nat) (T:List Nat):List Nat:=t4 T (arQ C k 0) (arQ C k 1) (arQ C k 2) (arQ C k 3)
def cA (C:List Cr) (k:Nat) (T:List Nat):Nat:=c4 T (arQ C k 0) (arQ C k 1) (arQ C k 2) (arQ C k 3)
def tB (C:List Cr) (k:Nat) (T:List Nat):List Nat:=t4 T (arQ C k 1) (arQ C k 2) (arQ C k 3) (arQ C k 0)
def cB (C:List Cr) (k:Nat) (T:List Nat):Nat:=c4 T (arQ C k 1) (arQ C k 2) (arQ C k 3) (arQ C k 0)
theorem XF7 (T:List Nat) (p q r s:Nat):c4 T p q r s<=2:=by
 unfold c4 XF3;split<;>split<;>omega
theorem Zz9 {k s:Nat}:∀ j,j<=k->exS (2 ^ k+s) j=exS s j
 |0,_=>rfl
 |j+1,h=>by
  show exS (2 ^ k+s) j+_=exS s j+_
  rw[Zz9 j (by omega),Zk4 (by omega:j<k)]
theorem Zz7 (C:List Cr) {k s j:Nat} (h:j<=k):kyS C (2 ^ k+s) j=kyS C s j:=(XX4 (2*j) fun i hi=>Kj6 _ (by omega)).1
theorem Kq8 (C:List Cr) {k s j:Nat} (h:j<=k):QC3 (prS (arQ C) (2 ^ k+s)) (2*j)=QC3 (prS (arQ C) s) (2*j):=(XX4 (2*j) fun i hi=>Kj6 _ (by omega)).2.1
theorem JC9 (C:List Cr) (c0:Nat) {k s j:Nat} (h:j<=k):wS C c0 (2 ^ k+s) j=wS C c0 s j:=by
 unfold wS;rw[Zz9 j h,Kq8 C h]
theorem XG7 (C:List Cr) (s k:Nat):kyS C s (k+1)=if s / 2 ^ k%2=1 then tA C k (kyS C s k) else tB C k (kyS C s k):=by
 unfold kyS tA tB t4
 rw[show 2*(k+1)=2*k+1+1 by omega]
 show Qu8 (Qu8 (Xq7 _ (2*k)) (prS _ s (2*k)).1 (prS _ s (2*k)).2) (prS _ s (2*k+1)).1 (prS _ s (2*k+1)).2=_
 rw[KU7,KU8]
 by_cases h:s / 2 ^ k%2=1
 · simp only[if_pos h]
 · simp only[if_neg h]
theorem Xw6 (C:List Cr) (s k:Nat):QC3 (prS (arQ C) s) (2*(k+1))=QC3 (prS (arQ C) s) (2*k)+if s / 2 ^ k%2=1 then cA C k (kyS C s k) else cB C k (kyS C s k):=by
 unfold kyS cA cB c4
 rw[show 2*(k+1)=2*k+1+1 by omega]
 show QC3 _ (2*k)+XF3 (Xq7 _ (2*k)) (prS _ s (2*k)).1 (prS _ s (2*k)).2+XF3 (Qu8 (Xq7 _ (2*k)) (prS _ s (2*k)).1 (prS _ s (2*k)).2) (prS _ s (2*k+1)).1 (prS _ s (2*k+1)).2=_
 rw[KU7,KU8]
 by_cases h:s / 2 ^ k%2=1
 · simp only[if_pos h];omega
 · simp only[if_neg h];omega
theorem Kz9 (C:List Cr) (c0 s k:Nat):wS C c0 s (k+1)=if s / 2 ^ k%2=1 then dlN (cA C k (kyS C s k)) (shA 1 (wS C c0 s k)) else dlN (cB C k (kyS C s k)) (shA (-1) (wS C c0 s k)):=by
 unfold wS
 rw[Xw6]
 show shA (exS s k+_) _=_
 by_cases h:s / 2 ^ k%2=1
 · simp only[if_pos h]
   rw[JU6,Ku4,Zb4,Int.add_comm 1]
   congr 2;omega
 · simp only[if_neg h]
   rw[JU6,Ku4,Zb4,Int.add_comm (-1)]
   congr 2;omega
def Kz2 (C:List Cr) (c0 k:Nat) (U:List Nat) (y:Int) (s:Nat):Int:=
 (if tA C k (kyS C s k)=U then dlN (cA C k (kyS C s k)) (shA 1 (wS C c0 s k)) y else 0)+(if tB C k (kyS C s k)=U then dlN (cB C k (kyS C s k)) (shA (-1) (wS C c0 s k)) y else 0)
def Xq5 (C:List Cr) (c0 k:Nat) (dn:List Nat->Bool) (U:List Nat):Int->Int:=fun y=>QX4 (2 ^ k) fun s=>if dn (kyS C s k)=true then Kz2 C c0 k U y s else 0
theorem KB0 (C:List Cr) (c0 k:Nat) (U:List Nat) {dn:List Nat->Bool} (h:∀ s,s<2 ^ k->dn (kyS C s k)=true):Xq5 C c0 k dn U=mS C c0 (k+1) U:=by
 funext y
 unfold mS Xq5
 rw[ZJ3]
 refine QQ2 fun s hs=>?_
 rw[if_pos (h s hs)]
 unfold Kz2
 have b0:¬ s / 2 ^ k%2=1:=by rw[XH4 hs];decide
 have k0:kyS C s (k+1)=tB C k (kyS C s k):=by rw[XG7,if_neg b0]
 have w0:wS C c0 s (k+1)=dlN (cB C k (kyS C s k)) (shA (-1) (wS C c0 s k)):=by rw[Kz9,if_neg b0]
 have k1:kyS C (2 ^ k+s) (k+1)=tA C k (kyS C s k):=by rw[XG7,if_pos (Xz2 hs),Zz7 C (Nat.le_refl k)]
 have w1:wS C c0 (2 ^ k+s) (k+1)=dlN (cA C k (kyS C s k)) (shA 1 (wS C c0 s k)):=by rw[Kz9,if_pos (Xz2 hs),Zz7 C (Nat.le_refl k),JC9 C c0 (Nat.le_refl k)]
 rw[k0,w0,k1,w1]
 omega
theorem Ku5 (c n:Nat) (P:Nat->Prop) [∀ s,Decidable (P s)] (F:Nat->Int->Int):dlN c (fun y=>QX4 n fun s=>if P s then F s y else 0)=fun y=>QX4 n fun s=>if P s then dlN c (F s) y else 0:=by
 have e:(fun y=>QX4 n fun s=>if P s then F s y else 0)=fun y=>QX4 n fun s=>(if P s then F s else fun _=>0) y:=by
  funext y;refine QQ2 fun s _=>?_;split<;>rfl
 have z:∀ c,dlN c (fun _=>0)=fun _=>0:=by
  intro c
  induction c with
  |zero=>rfl
  |succ c ih=>show dlA (dlN c _)=_;rw[ih];rfl
 rw[e,JK0]
 funext y
 refine QQ2 fun s _=>?_
 by_cases h:P s
 · rw[if_pos h,if_pos h]
 · rw[if_neg h,if_neg h,z]
theorem Zg4 (C : List Cr) (c0 k : Nat) (U T : List Nat) {dn dn' : List Nat → Bool} (h0 : dn T = false) (h : ∀ s, dn' (kyS C s k) = true ↔ dn (kyS C s k) = true ∨ kyS C s k = T) (y : Int) :
    Xq5 C c0 k dn' U y=Xq5 C c0 k dn U y+(if tA C k T=U then dlN (cA C k T) (shA 1 (mS C c0 k T)) y else 0)+(if tB C k T=U then dlN (cB C k T) (shA (-1) (mS C c0 k T)) y else 0):=by
 unfold Xq5
 rw[Xk4 (F:=Kz2 C c0 k U y) (P:=fun s=>dn (kyS C s k)) (Q:=fun s=>decide (kyS C s k=T)) (R:=fun s=>dn' (kyS C s k)) (fun s _=>by rw[h s];simp) (fun s _ e=>by have:=of_decide_eq_true e.2;rw[this,h0]at e;simp at e)]
 rw[Int.add_assoc]
 congr 1
 have hs:∀ e,shA e (mS C c0 k T)=fun y=>QX4 (2 ^ k) fun s=>if kyS C s k=T then shA e (wS C c0 s k) y else 0:=fun e=>rfl
 rw[hs,hs,Ku5,Ku5]
 by_cases h1:tA C k T=U<;>by_cases h2:tB C k T=U
 · rw[if_pos h1,if_pos h2,<-QX1]
   refine QQ2 fun s _=>?_
   by_cases e:kyS C s k=T
   · unfold Kz2;rw[e];simp[h1,h2]
   · simp[e]
 · rw[if_pos h1,if_neg h2,Int.add_zero]
   refine QQ2 fun s _=>?_
   by_cases e:kyS C s k=T
   · unfold Kz2;rw[e];simp[h1,h2]
   · simp[e]
 · rw[if_neg h1,if_pos h2,Int.zero_add]
   refine QQ2 fun s _=>?_
   by_cases e:kyS C s k=T
   · unfold Kz2;rw[e];simp[h1,h2]
   · simp[e]
 · rw[if_neg h1,if_neg h2]
   rw[show(0:Int)+0=QX4 (2 ^ k) (fun _=>0) from(QJ4 _).symm]
   refine QQ2 fun s _=>?_
   by_cases e:kyS C s k=T
   · unfold Kz2;rw[e];simp[h1,h2]
   · simp[e]
theorem Zg5 (C:List Cr) (c0 k:Nat) (U:List Nat) {dn:List Nat->Bool} (h:∀ s,s<2 ^ k->dn (kyS C s k)=false) (y:Int):Xq5 C c0 k dn U y=0:=by
 unfold Xq5
 rw[QQ2 (g:=fun _=>0) fun s hs=>by rw[h s hs];rfl,QJ4]
def KU2 (C:List Cr) (c0 k:Nat) (dn:List Nat->Bool):Int->Int:=fun y=>QX4 (2 ^ k) fun s=>if dn (kyS C s k)=true then wS C c0 s k y else 0
def JC4 (C:List Cr) (c0 k:Nat):Int->Int:=fun y=>QX4 (2 ^ k) fun s=>wS C c0 s k y
theorem ZY5 (C:List Cr) (c0 k:Nat) {dn:List Nat->Bool} (h:∀ s,s<2 ^ k->dn (kyS C s k)=true):KU2 C c0 k dn=JC4 C c0 k:=by
 funext y;exact QQ2 fun s hs=>by rw[if_pos (h s hs)]
theorem KW8 (C:List Cr) (c0 k:Nat) {dn:List Nat->Bool} (h:∀ s,s<2 ^ k->dn (kyS C s k)=false) (y:Int):KU2 C c0 k dn y=0:=by
 unfold KU2
 rw[QQ2 (g:=fun _=>0) fun s hs=>by rw[h s hs];rfl,QJ4]
theorem KW7 (C:List Cr) (c0 k:Nat) (T:List Nat) {dn dn':List Nat->Bool} (h0:dn T=false) (h:∀ s,dn' (kyS C s k)=true↔dn (kyS C s k)=true∨kyS C s k=T) (y:Int):KU2 C c0 k dn' y=KU2 C c0 k dn y+mS C c0 k T y:=by
 unfold KU2 mS
 rw[Xk4 (F:=fun s=>wS C c0 s k y) (P:=fun s=>dn (kyS C s k)) (Q:=fun s=>decide (kyS C s k=T)) (R:=fun s=>dn' (kyS C s k)) (fun s _=>by rw[h s];simp) (fun s _ e=>by have:=of_decide_eq_true e.2;rw[this,h0]at e;simp at e)]
 congr 1
 exact QQ2 fun s _=>by simp
theorem Zd5 (C:List Cr) (s:Nat):∀ k,QC3 (prS (arQ C) s) (2*k)<=2*k
 |0=>Nat.le_refl _
 |k+1=>by
  have:=Zd5 C s k
  have a:=XF7 (kyS C s k) (arQ C k 0) (arQ C k 1) (arQ C k 2) (arQ C k 3)
  have b:=XF7 (kyS C s k) (arQ C k 1) (arQ C k 2) (arQ C k 3) (arQ C k 0)
  rw[Xw6];unfold cA cB;split<;>omega
theorem JC5 (C:List Cr) (c0 s k:Nat) (y:Int):(wS C c0 s k y).natAbs<=2 ^ (c0+2*k):=by
 have h:=ZK0 Kv0 (c0+QC3 (prS (arQ C) s) (2*k)) (y-exS s k)
 rw[Nat.mul_one]at h
 exact Nat.le_trans h (Nat.pow_le_pow_right (by omega) (by have:=Zd5 C s k;omega))
theorem JU0 (C:List Cr) (c0 k:Nat) (T:List Nat) (y:Int):(mS C c0 k T y).natAbs<=2 ^ (c0+3*k):=by
 refine Nat.le_trans (Xb5 (H:=2 ^ (c0+2*k)) fun s _=>?_) ?_
 · by_cases e:kyS C s k=T
   · rw[if_pos e];exact JC5 C c0 s k y
   · rw[if_neg e];exact Nat.zero_le _
 · rw[<-Nat.pow_add];exact Nat.pow_le_pow_right (by omega) (by omega)
theorem Ku2 (C:List Cr) (c0 s k c:Nat) (e:Int) (hc:c<=2) (y:Int):(dlN c (shA e (wS C c0 s k)) y).natAbs<=2 ^ (c0+2*k+2):=by
 have h:=ZK0 (f:=shA e (wS C c0 s k)) (H:=2 ^ (c0+2*k)) (fun y=>JC5 C c0 s k (y-e)) c y
 rw[<-Nat.pow_add]at h
 exact Nat.le_trans h (Nat.pow_le_pow_right (by omega) (by omega))
theorem Kd6 (C:List Cr) (c0 k:Nat) (dn:List Nat->Bool) (U:List Nat) (y:Int):(Xq5 C c0 k dn U y).natAbs<=2 ^ (c0+3*k+3):=by
 refine Nat.le_trans (Xb5 (H:=2 ^ (c0+2*k+3)) fun s _=>?_) ?_
 · have a:=Ku2 C c0 s k (cA C k (kyS C s k)) 1 (XF7 _ _ _ _ _) y
   have b:=Ku2 C c0 s k (cB C k (kyS C s k)) (-1) (XF7 _ _ _ _ _) y
   have e:2 ^ (c0+2*k+3)=2 ^ (c0+2*k+2)+2 ^ (c0+2*k+2):=by rw[Nat.pow_succ];omega
   unfold Kz2
   split
   · split<;>split<;>omega
   · exact Nat.zero_le _
 · rw[<-Nat.pow_add];exact Nat.pow_le_pow_right (by omega) (by omega)
theorem Zf1 (C:List Cr) (c0 k:Nat) (dn:List Nat->Bool) (y:Int):(KU2 C c0 k dn y).natAbs<=2 ^ (c0+3*k):=by
 refine Nat.le_trans (Xb5 (H:=2 ^ (c0+2*k)) fun s _=>?_) ?_
 · split
   · exact JC5 C c0 s k y
   · exact Nat.zero_le _
 · rw[<-Nat.pow_add];exact Nat.pow_le_pow_right (by omega) (by omega)
def rgS (C:List Cr) (loops s:Nat):Nat:=2*C.length+loops-QF2 (prS (arN C) s) (2*C.length)
def brS (C:List Cr) (loops:Nat):Int->Int:=fun y=>QX4 (2 ^ C.length) fun s=>shA (exS s C.length) (dlN (rgS C loops s-1) QJ2) y
theorem Zd8 {C:List Cr} {l:Int} {loops:Nat} (hm:QX3 C l=true) (_hl:l=loops) (h12:C.length<=12):JC4 C (if C.length=0 then loops-1 else loops) C.length=brS C loops:=by
 funext y
 refine QQ2 fun s _=>?_
 unfold wS rgS
 by_cases h0:C.length=0
 · rw[if_pos h0,h0]
   have e1:loops-1+QC3 (prS (arQ C) s) (2*0)=loops-1:=rfl
   have e2:2*0+loops-QF2 (prS (arN C) s) (2*0)-1=loops-1:=by
    have:QF2 (prS (arN C) s) (2*0)=0:=rfl
    rw[this];omega
   rw[e1,e2]
 · rw[if_neg h0]
   have h:=KQ4 hm h12 (by omega) s
   congr 2;congr 1;omega
end Go.Proofs.YtjcagkgpbcdghaaDoor
