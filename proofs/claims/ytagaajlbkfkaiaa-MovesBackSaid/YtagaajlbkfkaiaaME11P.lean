/- Several texts of the proof, one behind the other. -/
import Derived.Test.YtagaajlbkfkaiaaME9P
import Derived.Test.YtagaajlbkfkaiaaMVs
import Derived.Deep.QuietTactic
import Derived.BigQuiet
import Derived.Test.YtagaajlbkfkaiaaMW1P
import Derived.Test.YtagaajlbkfkaiaaF2P
/- The walk of ref.slideOf, where it may be done, from its copy on. Made by genme11.py. -/
namespace Go.Proofs.Ytagaajlbkfkaiaa
open Go.RowKit
def slLs (C:List Cr) (l:List Nat):Nat->List Cr
 |0=>C
 |k+1=>slL C (slLs C l k) (dA (l.getD k 0))
theorem slLs_len (C:List Cr) (l:List Nat):∀ k,(slLs C l k).length=C.length
 |0=>rfl
 |k+1=>by
  show(slL C (slLs C l k) (dA (l.getD k 0))).length=C.length
  rw[slL_len,slLs_len C l k]
structure SrAt (Z W:World) (p1 p2 q1 q2:Nat) (g h:Nat):Prop where
 b0:W.heap[g]?=some (.cells #[.int .i64 (p1:Nat),.int .i64 (p2:Nat)] 96 (0,0))
 b1:W.heap[h]?=some (.cells #[.int .i64 (q1:Nat),.int .i64 (q2:Nat)] 96 (0,0))
 ne:g≠h
 l0:Z.heap.size<=g
 l1:Z.heap.size<=h
 bel:Below Z.heap.size Z W
theorem SrAt.on {Z W W':World} {p1 p2 q1 q2 g h:Nat} (a:SrAt Z W p1 p2 q1 q2 g h) (hb:Below W.heap.size W W'):SrAt Z W' p1 p2 q1 q2 g h:=
 have hl {k:Nat} {o:Obj} (e:W.heap[k]?=some o):W'.heap[k]?=some o:=(hb.block _ (Array.getElem?_eq_some_iff.1 e).1).trans e
 ⟨hl a.b0,hl a.b1,a.ne,a.l0,a.l1,a.bel.trans (hb.mono a.bel.size)⟩
theorem SrAt.set0 {Z W:World} {p1 p2 q1 q2 g h:Nat} (a:SrAt Z W p1 p2 q1 q2 g h) (x y:Nat):SrAt Z ((W.setCell ⟨g,0,none⟩ (.int .i64 (x:Nat))).setCell ⟨g,1,none⟩ (.int .i64 (y:Nat))) x y q1 q2 g h:=
 have hg:=QZ5 W g 0 (.int .i64 (x:Nat)) (.int .i64 (y:Nat))
 ⟨st2b a.b0,(hg.block h (Array.getElem?_eq_some_iff.1 a.b1).1 (fun e=>a.ne (Option.some.inj e).symm)).trans a.b1,a.ne,a.l0,a.l1,a.bel.grown hg a.bel.size (fun q hq=>by have:=Option.some.inj hq;have:=a.l0;omega)⟩
theorem SrAt.set1 {Z W:World} {p1 p2 q1 q2 g h:Nat} (a:SrAt Z W p1 p2 q1 q2 g h) (x y:Nat):SrAt Z ((W.setCell ⟨h,0,none⟩ (.int .i64 (x:Nat))).setCell ⟨h,1,none⟩ (.int .i64 (y:Nat))) p1 p2 x y g h:=
 have hg:=QZ5 W h 0 (.int .i64 (x:Nat)) (.int .i64 (y:Nat))
 ⟨(hg.block g (Array.getElem?_eq_some_iff.1 a.b0).1 (fun e=>a.ne (Option.some.inj e))).trans a.b0,st2b a.b1,a.ne,a.l0,a.l1,a.bel.grown hg a.bel.size (fun q hq=>by have:=Option.some.inj hq;have:=a.l1;omega)⟩
theorem SrAt.of {Z W:World} {g h:Nat} (a:W.heap[g]?=some (.cells #[.int .i64 0,.int .i64 0] 96 (0,0))/\W.heap[h]?=some (.cells #[.int .i64 0,.int .i64 0] 96 (0,0))/\g≠h/\Z.heap.size<=g/\Z.heap.size<=h/\Below Z.heap.size Z W):SrAt Z W 0 0 0 0 g h:=⟨a.1,a.2.1,a.2.2.1,a.2.2.2.1,a.2.2.2.2.1,a.2.2.2.2.2⟩
end Go.Proofs.Ytagaajlbkfkaiaa
/- The walk of ref.slideOf from its counting on. Made by genme12.py. -/
namespace Go.Proofs.Ytagaajlbkfkaiaa
open Go.RowKit
def hcN (C:List Cr) (l:List Nat) (q:Nat):Nat->Nat
 |0=>0
 |k+1=>hcN C l q k+if hgt C (dA (l.getD k 0))=q then 1 else 0
def slR (C:List Cr) (l:List Nat):Bool:=((((decide (hcN C l 0 3=1)&&decide (hcN C l 1 3=1))&&decide (hcN C l 2 3=1))&&!decide (dC C (l.getD 0 0)=dC C (l.getD 1 0)))&&!decide (dC C (l.getD 0 0)=dC C (l.getD 2 0)))&&!decide (dC C (l.getD 1 0)=dC C (l.getD 2 0))
end Go.Proofs.Ytagaajlbkfkaiaa
/- The walk of ref.slideOf. Made by genme13.py. -/
namespace Go.Proofs.Ytagaajlbkfkaiaa
open Go.RowKit
end Go.Proofs.Ytagaajlbkfkaiaa
/- The walk of ref.DoMove. Made by genme14.py. -/
namespace Go.Proofs.Ytagaajlbkfkaiaa
open Go.RowKit
def RsAt (w:World) (D:List Cr) (lo ce:Int) (e:Ending) (w':World):Prop:=∃ a2 c2,e=.returned (.tuple #[.agg #[.slice a2 D.length c2,.int .i64 lo],.int .i64 ce])/\w'.ownsRow w.heap.size 71 5 (.slice a2 D.length c2) D.length (QQ4 D)/\Below w.heap.size w w'
theorem RsAt.no {w w':World} {ce:Int} (hb:Below w.heap.size w w'):RsAt w [] 0 ce (.returned (.tuple #[.agg #[.slice none 0 0,.int .i64 0],.int .i64 ce])) w':=⟨none,0,rfl,World.ownsRow_nil _ _ _ _,hb⟩
theorem RsAt.put {w V X:World} {D:List Cr} {lo ce:Int} {a2:Option Addr} {c2:Nat} (ho:X.ownsRow V.heap.size 71 5 (.slice a2 D.length c2) D.length (QQ4 D)) (hV:w.heap.size+3<=V.heap.size) (hb:Below w.heap.size w X):RsAt w D lo ce (.returned (.tuple #[.agg #[.slice a2 D.length c2,.int .i64 lo],.int .i64 ce])) ((X.setCell ⟨w.heap.size+1+1,0,none⟩ (.slice a2 D.length c2)).setCell ⟨w.heap.size+1+1,1,none⟩ (.int .i64 lo)):=by
 have hg:=QZ5 X (w.heap.size+1+1) 0 (.slice a2 D.length c2) (.int .i64 lo)
 refine⟨a2,c2,rfl,QX4 (ho.kept hg ?_) (by omega),hb.grown hg hb.size (fun q hq=>by have:=Option.some.inj hq;omega)⟩
 cases hv:(Value.slice a2 D.length c2).ownBlock with
 |none=>exact Or.inl rfl
 |some k=>exact Or.inr (fun e=>by have h1:=(ho.lt k hv).1;have h2:=Option.some.inj e;omega)
structure DmAt (w W:World) (a:Option Addr) (cap:Nat) (C:List Cr) (loops k x y ua va:Int) (ub vb ov:Bool):Prop where
 b0:W.heap[w.heap.size]?=some (.cells #[.slice a C.length cap,.int .i64 loops] 24 (0,0))
 b1:W.heap[w.heap.size+1]?=some (.cells #[.int .i64 k,.int .i64 x,.int .i64 y,.int .i64 ua,.bool ub,.int .i64 va,.bool vb,.bool ov] 28 (0,0))
 b2:W.heap[w.heap.size+1+1]?=some (.cells #[.slice none 0 0,.int .i64 0] 24 (0,0))
theorem DmAt.on {w V W:World} {a:Option Addr} {cap:Nat} {C:List Cr} {loops k x y ua va:Int} {ub vb ov:Bool} (h:DmAt w V a cap C loops k x y ua va ub vb ov) (hb:Below V.heap.size V W):DmAt w W a cap C loops k x y ua va ub vb ov:=
 have hl {k:Nat} {o:Obj} (e:V.heap[k]?=some o):W.heap[k]?=some o:=(hb.block _ (Array.getElem?_eq_some_iff.1 e).1).trans e
 ⟨hl h.b0,hl h.b1,hl h.b2⟩
theorem DmAt.cells {w W:World} {a:Option Addr} {cap:Nat} {C:List Cr} {loops k x y ua va:Int} {ub vb ov:Bool} (h:DmAt w W a cap C loops k x y ua va ub vb ov):W.cell? ⟨w.heap.size,0,none⟩=some (.slice a C.length cap)/\W.cell? ⟨w.heap.size,1,none⟩=some (.int .i64 loops)/\W.cell? ⟨w.heap.size+1,0,none⟩=some (.int .i64 k)/\W.cell? ⟨w.heap.size+1,1,none⟩=some (.int .i64 x)/\W.cell? ⟨w.heap.size+1,2,none⟩=some (.int .i64 y)/\W.cell? ⟨w.heap.size+1,3,none⟩=some (.int .i64 ua)/\W.cell? ⟨w.heap.size+1,4,none⟩=some (.bool ub)/\W.cell? ⟨w.heap.size+1,5,none⟩=some (.int .i64 va)/\W.cell? ⟨w.heap.size+1,6,none⟩=some (.bool vb)/\W.cell? ⟨w.heap.size+1,7,none⟩=some (.bool ov)/\W.cell? ⟨w.heap.size+1+1,0,none⟩=some (.slice none 0 0)/\W.cell? ⟨w.heap.size+1+1,1,none⟩=some (.int .i64 0)/\W.frozen? ⟨w.heap.size+1+1,0,none⟩=false/\W.frozen? ⟨w.heap.size+1+1,1,none⟩=false/\w.heap.size<W.heap.size/\w.heap.size+1<W.heap.size/\w.heap.size+1+1<W.heap.size:=
 ⟨QQ0 h.b0 rfl,QQ0 h.b0 rfl,QQ0 h.b1 rfl,QQ0 h.b1 rfl,QQ0 h.b1 rfl,QQ0 h.b1 rfl,QQ0 h.b1 rfl,QQ0 h.b1 rfl,QQ0 h.b1 rfl,QQ0 h.b1 rfl,QQ0 h.b2 rfl,QQ0 h.b2 rfl,QQ2 h.b2,QQ2 h.b2,(Array.getElem?_eq_some_iff.1 h.b0).1,(Array.getElem?_eq_some_iff.1 h.b1).1,(Array.getElem?_eq_some_iff.1 h.b2).1⟩
end Go.Proofs.Ytagaajlbkfkaiaa
/- Plain mathematics: a slide, told by its places: a diagram again, and planar if it was. -/
namespace Go.Proofs.Ytagaajlbkfkaiaa
def tauS (K1 K2 K3 s1 s2 s3 q:Nat):Nat:=
 if q=4*K1+s1 then 4*K3+(s3+1)%4 else if q=4*K3+(s3+1)%4 then 4*K1+s1 else
 if q=4*K3+(s3+3)%4 then 4*K1+(s1+2)%4 else if q=4*K1+(s1+2)%4 then 4*K3+(s3+3)%4 else
 if q=4*K2+s2 then 4*K1+(s1+1)%4 else if q=4*K1+(s1+1)%4 then 4*K2+s2 else
 if q=4*K1+(s1+3)%4 then 4*K2+(s2+2)%4 else if q=4*K2+(s2+2)%4 then 4*K1+(s1+3)%4 else
 if q=4*K3+s3 then 4*K2+(s2+1)%4 else if q=4*K2+(s2+1)%4 then 4*K3+s3 else
 if q=4*K2+(s2+3)%4 then 4*K3+(s3+2)%4 else if q=4*K3+(s3+2)%4 then 4*K2+(s2+3)%4 else q
section
variable {K1 K2 K3 s1 s2 s3:Nat}
theorem tau_at (h12:K1≠K2) (h23:K2≠K3) (h13:K1≠K3) (a1:s1<4) (a2:s2<4) (a3:s3<4):
    tauS K1 K2 K3 s1 s2 s3 (4*K1+s1)=4*K3+(s3+1)%4/\tauS K1 K2 K3 s1 s2 s3 (4*K3+(s3+1)%4)=4*K1+s1/\
    tauS K1 K2 K3 s1 s2 s3 (4*K3+(s3+3)%4)=4*K1+(s1+2)%4/\tauS K1 K2 K3 s1 s2 s3 (4*K1+(s1+2)%4)=4*K3+(s3+3)%4/\
    tauS K1 K2 K3 s1 s2 s3 (4*K2+s2)=4*K1+(s1+1)%4/\tauS K1 K2 K3 s1 s2 s3 (4*K1+(s1+1)%4)=4*K2+s2/\
    tauS K1 K2 K3 s1 s2 s3 (4*K1+(s1+3)%4)=4*K2+(s2+2)%4/\tauS K1 K2 K3 s1 s2 s3 (4*K2+(s2+2)%4)=4*K1+(s1+3)%4/\
    tauS K1 K2 K3 s1 s2 s3 (4*K3+s3)=4*K2+(s2+1)%4/\tauS K1 K2 K3 s1 s2 s3 (4*K2+(s2+1)%4)=4*K3+s3/\
    tauS K1 K2 K3 s1 s2 s3 (4*K2+(s2+3)%4)=4*K3+(s3+2)%4/\tauS K1 K2 K3 s1 s2 s3 (4*K3+(s3+2)%4)=4*K2+(s2+3)%4/\
    ∀ k s,k≠K1->k≠K2->k≠K3->s<4->tauS K1 K2 K3 s1 s2 s3 (4*k+s)=4*k+s:=by
 unfold tauS
 refine⟨?_,?_,?_,?_,?_,?_,?_,?_,?_,?_,?_,?_,fun k s b1 b2 b3 hs=>?_⟩
 · rw[if_pos rfl]
 · rw[if_neg (by omega),if_pos rfl]
 · rw[if_neg (by omega),if_neg (by omega),if_pos rfl]
 · rw[if_neg (by omega),if_neg (by omega),if_neg (by omega),if_pos rfl]
 · rw[if_neg (by omega),if_neg (by omega),if_neg (by omega),if_neg (by omega),if_pos rfl]
 · rw[if_neg (by omega),if_neg (by omega),if_neg (by omega),if_neg (by omega),if_neg (by omega),if_pos rfl]
 · rw[if_neg (by omega),if_neg (by omega),if_neg (by omega),if_neg (by omega),if_neg (by omega),if_neg (by omega),if_pos rfl]
 · rw[if_neg (by omega),if_neg (by omega),if_neg (by omega),if_neg (by omega),if_neg (by omega),if_neg (by omega),if_neg (by omega),if_pos rfl]
 · rw[if_neg (by omega),if_neg (by omega),if_neg (by omega),if_neg (by omega),if_neg (by omega),if_neg (by omega),if_neg (by omega),if_neg (by omega),if_pos rfl]
 · rw[if_neg (by omega),if_neg (by omega),if_neg (by omega),if_neg (by omega),if_neg (by omega),if_neg (by omega),if_neg (by omega),if_neg (by omega),if_neg (by omega),if_pos rfl]
 · rw[if_neg (by omega),if_neg (by omega),if_neg (by omega),if_neg (by omega),if_neg (by omega),if_neg (by omega),if_neg (by omega),if_neg (by omega),if_neg (by omega),if_neg (by omega),if_pos rfl]
 · rw[if_neg (by omega),if_neg (by omega),if_neg (by omega),if_neg (by omega),if_neg (by omega),if_neg (by omega),if_neg (by omega),if_neg (by omega),if_neg (by omega),if_neg (by omega),if_neg (by omega),if_pos rfl]
 · rw[if_neg (by omega),if_neg (by omega),if_neg (by omega),if_neg (by omega),if_neg (by omega),if_neg (by omega),if_neg (by omega),if_neg (by omega),if_neg (by omega),if_neg (by omega),if_neg (by omega),if_neg (by omega)]
theorem QW4 (k s:Nat) (hs:s<4) (a1:s1<4) (a2:s2<4) (a3:s3<4):
    (4*k+s=4*K1+s1∨4*k+s=4*K1+(s1+1)%4∨4*k+s=4*K1+(s1+2)%4∨4*k+s=4*K1+(s1+3)%4)∨
    (4*k+s=4*K2+s2∨4*k+s=4*K2+(s2+1)%4∨4*k+s=4*K2+(s2+2)%4∨4*k+s=4*K2+(s2+3)%4)∨
    (4*k+s=4*K3+s3∨4*k+s=4*K3+(s3+1)%4∨4*k+s=4*K3+(s3+2)%4∨4*k+s=4*K3+(s3+3)%4)∨(k≠K1/\k≠K2/\k≠K3):=by
 by_cases e1:k=K1
 · left
   rcases quarter hs a1 with e|e|e|e<;>omega
 · by_cases e2:k=K2
   · right;left
     rcases quarter hs a2 with e|e|e|e<;>omega
   · by_cases e3:k=K3
     · right;right;left
       rcases quarter hs a3 with e|e|e|e<;>omega
     · right;right;right
       exact⟨e1,e2,e3⟩
theorem tau_tau (h12:K1≠K2) (h23:K2≠K3) (h13:K1≠K3) (a1:s1<4) (a2:s2<4) (a3:s3<4) (q:Nat):tauS K1 K2 K3 s1 s2 s3 (tauS K1 K2 K3 s1 s2 s3 q)=q:=by
 obtain⟨t1,t2,t3,t4,t5,t6,t7,t8,t9,ta,tb,tc,td⟩:=tau_at h12 h23 h13 a1 a2 a3
 obtain⟨k,s,hs,rfl⟩:∃ k s,s<4/\q=4*k+s:=⟨q / 4,q%4,by omega,by omega⟩
 rcases QW4 (K1:=K1) (K2:=K2) (K3:=K3) k s hs a1 a2 a3 with(e|e|e|e)|(e|e|e|e)|(e|e|e|e)|⟨e1,e2,e3⟩
 · rw[e,t1,t2]
 · rw[e,t6,t5]
 · rw[e,t4,t3]
 · rw[e,t7,t8]
 · rw[e,t5,t6]
 · rw[e,ta,t9]
 · rw[e,t8,t7]
 · rw[e,tb,tc]
 · rw[e,t9,ta]
 · rw[e,t2,t1]
 · rw[e,tc,tb]
 · rw[e,t3,t4]
 · rw[td k s e1 e2 e3 hs,td k s e1 e2 e3 hs]
theorem tau_lt {n:Nat} (h12:K1≠K2) (h23:K2≠K3) (h13:K1≠K3) (a1:s1<4) (a2:s2<4) (a3:s3<4) (k1:K1<n) (k2:K2<n) (k3:K3<n) (q:Nat) (hq:q<4*n):tauS K1 K2 K3 s1 s2 s3 q<4*n:=by
 obtain⟨t1,t2,t3,t4,t5,t6,t7,t8,t9,ta,tb,tc,td⟩:=tau_at h12 h23 h13 a1 a2 a3
 obtain⟨k,s,hs,rfl⟩:∃ k s,s<4/\q=4*k+s:=⟨q / 4,q%4,by omega,by omega⟩
 rcases QW4 (K1:=K1) (K2:=K2) (K3:=K3) k s hs a1 a2 a3 with(e|e|e|e)|(e|e|e|e)|(e|e|e|e)|⟨e1,e2,e3⟩
 · rw[e,t1];omega
 · rw[e,t6];omega
 · rw[e,t4];omega
 · rw[e,t7];omega
 · rw[e,t5];omega
 · rw[e,ta];omega
 · rw[e,t8];omega
 · rw[e,tb];omega
 · rw[e,t9];omega
 · rw[e,t2];omega
 · rw[e,tc];omega
 · rw[e,t3];omega
 · rw[td k s e1 e2 e3 hs];exact hq
end
structure SlideD (C D:List Cr) (K1 K2 K3 s1 s2 s3:Nat):Prop where
 len:D.length=C.length
 h12:K1≠K2
 h23:K2≠K3
 h13:K1≠K3
 k1:K1<C.length
 k2:K2<C.length
 k3:K3<C.length
 a1:s1<4
 a2:s2<4
 a3:s3<4
 ex:al (pd C (4*K1+s1))=pd C (4*K3+(s3+3)%4)
 ey:al (pd C (4*K2+s2))=pd C (4*K1+(s1+3)%4)
 ez:al (pd C (4*K3+s3))=pd C (4*K2+(s2+3)%4)
 all:∀ q,q<4*C.length->pd D q=pd C (tauS K1 K2 K3 s1 s2 s3 q)
 plus:∀ k,(D.getD k Cr.none).plus=(C.getD k Cr.none).plus
 arc:∀ k s,k<D.length->s<4->1<=(D.getD k Cr.none).arc s/\(D.getD k Cr.none).arc s<=2*(D.length:Int)
section
variable {C D:List Cr} {lo l2:Int} {K1 K2 K3 s1 s2 s3:Nat}
theorem pd_injq (hm:mayD C lo=true) {q r:Nat} (hq:q<4*C.length) (hr:r<4*C.length) (e:pd C q=pd C r):q=r:=by
 have h:=pd_inj hm (k:=q / 4) (s:=q%4) (j:=r / 4) (t:=r%4) (by omega) (by omega) (by omega) (by omega) (by rw[show 4*(q / 4)+q%4=q by omega,show 4*(r / 4)+r%4=r by omega];exact e)
 omega
theorem SlideD.may (H:SlideD C D K1 K2 K3 s1 s2 s3) (hm:mayD C lo=true) (hs:sizeB D l2=true):mayD D l2=true:=by
 refine may_pdT hs H.arc fun k s j u hk hs hj hu e=>?_
 have hl:=H.len
 rw[H.all _ (by omega),H.all _ (by omega)]at e
 have h1:=pd_injq hm (tau_lt H.h12 H.h23 H.h13 H.a1 H.a2 H.a3 H.k1 H.k2 H.k3 _ (by omega)) (tau_lt H.h12 H.h23 H.h13 H.a1 H.a2 H.a3 H.k1 H.k2 H.k3 _ (by omega)) e
 have h2:=congrArg (tauS K1 K2 K3 s1 s2 s3) h1
 rw[tau_tau H.h12 H.h23 H.h13 H.a1 H.a2 H.a3,tau_tau H.h12 H.h23 H.h13 H.a1 H.a2 H.a3]at h2
 omega
end
end Go.Proofs.Ytagaajlbkfkaiaa
/- Plain mathematics: the faces and pieces of a slide. Made by genmb9.py. -/
namespace Go.Proofs.Ytagaajlbkfkaiaa
set_option maxHeartbeats 8000000
set_option maxRecDepth 100000
def slP (f p:Nat->Nat):Nat->Nat:=tr (tr (tr (tr (tr (tr (tr (tr (tr (tr f (p 7) (p 3)) (p 8) (p 4)) (p 6) (p 5)) (p 3) (p 4)) (p 4) (p 5)) (p 0) (p 1)) (p 0) (p 2)) (p 9) (p 2)) (p 10) (p 0)) (p 11) (p 1)
section
variable {f p:Nat->Nat} {M:Nat}
theorem slP_count (hb:Bij f M) (hp:∀ i,i<12->p i<M) (hi:∀ i j,i<12->j<12->p i=p j->i=j) (e0:f (p 0)=p 1) (e1:f (p 1)=p 2) (e2:f (p 2)=p 0) (e6:f (p 6)=p 5) (e7:f (p 7)=p 3) (e8:f (p 8)=p 4):cyA (slP f p) M=cyA f M:=by
 have ne:∀ i j,i<12->j<12->i≠j->p i≠p j:=fun i j h1 h2 h3 e=>h3 (hi i j h1 h2 e)
 have o:∀ {g:Nat->Nat} (i a b:Nat),decide (i<12/\a<12/\b<12/\i≠a/\i≠b)=true->tr g (p a) (p b) (p i)=g (p i):=fun i a b h=>by
  obtain⟨h1,h2,h3,h4,h5⟩:=of_decide_eq_true h
  exact tr_o _ (ne i a h1 h2 h4) (ne i b h1 h3 h5)
 have c0:=cyA_del hb (w:=p 7) (z:=p 3) (hp 7 (by decide)) (by rw[e7]) (ne 7 3 (by decide) (by decide) (by decide))
 have b1:=hb.tr (hp 7 (by decide)) (hp 3 (by decide))
 have c1:=cyA_del b1 (w:=p 8) (z:=p 4) (hp 8 (by decide)) (by rw[o 8 7 3 rfl,e8]) (ne 8 4 (by decide) (by decide) (by decide))
 have b2:=b1.tr (hp 8 (by decide)) (hp 4 (by decide))
 have c2:=cyA_del b2 (w:=p 6) (z:=p 5) (hp 6 (by decide)) (by rw[o 6 8 4 rfl,o 6 7 3 rfl,e6]) (ne 6 5 (by decide) (by decide) (by decide))
 have b3:=b2.tr (hp 6 (by decide)) (hp 5 (by decide))
 have c3:=QJ6 b3 (w:=p 3) (z:=p 4) (hp 3 (by decide)) (hp 4 (by decide)) (by rw[o 4 6 5 rfl,tr_b,o 8 7 3 rfl,e8]) (ne 3 4 (by decide) (by decide) (by decide))
 have b4:=b3.tr (hp 3 (by decide)) (hp 4 (by decide))
 have c4:=QJ6 b4 (w:=p 4) (z:=p 5) (hp 4 (by decide)) (hp 5 (by decide)) (by rw[o 5 3 4 rfl,tr_b,o 6 8 4 rfl,o 6 7 3 rfl,e6]) (ne 4 5 (by decide) (by decide) (by decide))
 have b5:=b4.tr (hp 4 (by decide)) (hp 5 (by decide))
 have c5:=cyA_del b5 (w:=p 0) (z:=p 1) (hp 0 (by decide)) (by rw[o 0 4 5 rfl,o 0 3 4 rfl,o 0 6 5 rfl,o 0 8 4 rfl,o 0 7 3 rfl,e0]) (ne 0 1 (by decide) (by decide) (by decide))
 have b6:=b5.tr (hp 0 (by decide)) (hp 1 (by decide))
 have c6:=cyA_del b6 (w:=p 0) (z:=p 2) (hp 0 (by decide)) (by rw[tr_a,o 1 4 5 rfl,o 1 3 4 rfl,o 1 6 5 rfl,o 1 8 4 rfl,o 1 7 3 rfl,e1]) (ne 0 2 (by decide) (by decide) (by decide))
 have b7:=b6.tr (hp 0 (by decide)) (hp 2 (by decide))
 have c7:=QJ6 b7 (w:=p 9) (z:=p 2) (hp 9 (by decide)) (hp 2 (by decide)) (by rw[tr_b,tr_a,o 1 4 5 rfl,o 1 3 4 rfl,o 1 6 5 rfl,o 1 8 4 rfl,o 1 7 3 rfl,e1]) (ne 9 2 (by decide) (by decide) (by decide))
 have b8:=b7.tr (hp 9 (by decide)) (hp 2 (by decide))
 have c8:=QJ6 b8 (w:=p 10) (z:=p 0) (hp 10 (by decide)) (hp 0 (by decide)) (by rw[o 0 9 2 rfl,tr_a,o 2 0 1 rfl,o 2 4 5 rfl,o 2 3 4 rfl,o 2 6 5 rfl,o 2 8 4 rfl,o 2 7 3 rfl,e2]) (ne 10 0 (by decide) (by decide) (by decide))
 have b9:=b8.tr (hp 10 (by decide)) (hp 0 (by decide))
 have c9:=QJ6 b9 (w:=p 11) (z:=p 1) (hp 11 (by decide)) (hp 1 (by decide)) (by rw[o 1 10 0 rfl,o 1 9 2 rfl,o 1 0 2 rfl,tr_b,o 0 4 5 rfl,o 0 3 4 rfl,o 0 6 5 rfl,o 0 8 4 rfl,o 0 7 3 rfl,e0]) (ne 11 1 (by decide) (by decide) (by decide))
 unfold slP
 omega
theorem slP_at (hi:∀ i j,i<12->j<12->p i=p j->i=j) (e0:f (p 0)=p 1) (e1:f (p 1)=p 2) (e2:f (p 2)=p 0) (e6:f (p 6)=p 5) (e7:f (p 7)=p 3) (e8:f (p 8)=p 4):
    slP f p (p 0)=f (p 10)/\slP f p (p 1)=f (p 11)/\slP f p (p 2)=f (p 9)/\slP f p (p 3)=p 4/\slP f p (p 4)=p 5/\slP f p (p 5)=p 3/\slP f p (p 6)=f (p 5)/\slP f p (p 7)=f (p 3)/\slP f p (p 8)=f (p 4)/\slP f p (p 9)=p 2/\slP f p (p 10)=p 0/\slP f p (p 11)=p 1/\∀ x,(∀ i,i<12->x≠p i)->slP f p x=f x:=by
 have ne:∀ i j,i<12->j<12->i≠j->p i≠p j:=fun i j h1 h2 h3 e=>h3 (hi i j h1 h2 e)
 have o:∀ {g:Nat->Nat} (i a b:Nat),decide (i<12/\a<12/\b<12/\i≠a/\i≠b)=true->tr g (p a) (p b) (p i)=g (p i):=fun i a b h=>by
  obtain⟨h1,h2,h3,h4,h5⟩:=of_decide_eq_true h
  exact tr_o _ (ne i a h1 h2 h4) (ne i b h1 h3 h5)
 unfold slP
 refine⟨?_,?_,?_,?_,?_,?_,?_,?_,?_,?_,?_,?_,fun x hx=>?_⟩
 · rw[o 0 11 1 rfl,tr_b,o 10 9 2 rfl,o 10 0 2 rfl,o 10 0 1 rfl,o 10 4 5 rfl,o 10 3 4 rfl,o 10 6 5 rfl,o 10 8 4 rfl,o 10 7 3 rfl]
 · rw[tr_b,o 11 10 0 rfl,o 11 9 2 rfl,o 11 0 2 rfl,o 11 0 1 rfl,o 11 4 5 rfl,o 11 3 4 rfl,o 11 6 5 rfl,o 11 8 4 rfl,o 11 7 3 rfl]
 · rw[o 2 11 1 rfl,o 2 10 0 rfl,tr_b,o 9 0 2 rfl,o 9 0 1 rfl,o 9 4 5 rfl,o 9 3 4 rfl,o 9 6 5 rfl,o 9 8 4 rfl,o 9 7 3 rfl]
 · rw[o 3 11 1 rfl,o 3 10 0 rfl,o 3 9 2 rfl,o 3 0 2 rfl,o 3 0 1 rfl,o 3 4 5 rfl,tr_a,o 4 6 5 rfl,tr_b,o 8 7 3 rfl,e8]
 · rw[o 4 11 1 rfl,o 4 10 0 rfl,o 4 9 2 rfl,o 4 0 2 rfl,o 4 0 1 rfl,tr_a,o 5 3 4 rfl,tr_b,o 6 8 4 rfl,o 6 7 3 rfl,e6]
 · rw[o 5 11 1 rfl,o 5 10 0 rfl,o 5 9 2 rfl,o 5 0 2 rfl,o 5 0 1 rfl,tr_b,tr_b,o 3 6 5 rfl,o 3 8 4 rfl,tr_b,e7]
 · rw[o 6 11 1 rfl,o 6 10 0 rfl,o 6 9 2 rfl,o 6 0 2 rfl,o 6 0 1 rfl,o 6 4 5 rfl,o 6 3 4 rfl,tr_a,o 5 8 4 rfl,o 5 7 3 rfl]
 · rw[o 7 11 1 rfl,o 7 10 0 rfl,o 7 9 2 rfl,o 7 0 2 rfl,o 7 0 1 rfl,o 7 4 5 rfl,o 7 3 4 rfl,o 7 6 5 rfl,o 7 8 4 rfl,tr_a]
 · rw[o 8 11 1 rfl,o 8 10 0 rfl,o 8 9 2 rfl,o 8 0 2 rfl,o 8 0 1 rfl,o 8 4 5 rfl,o 8 3 4 rfl,o 8 6 5 rfl,tr_a,o 4 7 3 rfl]
 · rw[o 9 11 1 rfl,o 9 10 0 rfl,tr_a,tr_b,tr_a,o 1 4 5 rfl,o 1 3 4 rfl,o 1 6 5 rfl,o 1 8 4 rfl,o 1 7 3 rfl,e1]
 · rw[o 10 11 1 rfl,tr_a,o 0 9 2 rfl,tr_a,o 2 0 1 rfl,o 2 4 5 rfl,o 2 3 4 rfl,o 2 6 5 rfl,o 2 8 4 rfl,o 2 7 3 rfl,e2]
 · rw[tr_a,o 1 10 0 rfl,o 1 9 2 rfl,o 1 0 2 rfl,tr_b,o 0 4 5 rfl,o 0 3 4 rfl,o 0 6 5 rfl,o 0 8 4 rfl,o 0 7 3 rfl,e0]
 · have ox:∀ {g:Nat->Nat} (a b:Nat),decide (a<12/\b<12)=true->tr g (p a) (p b) x=g x:=fun a b h=>tr_o _ (hx a (of_decide_eq_true h).1) (hx b (of_decide_eq_true h).2)
   rw[ox 11 1 rfl,ox 10 0 rfl,ox 9 2 rfl,ox 0 2 rfl,ox 0 1 rfl,ox 4 5 rfl,ox 3 4 rfl,ox 6 5 rfl,ox 8 4 rfl,ox 7 3 rfl]
end
def plS (K1 K2 K3 s1 s2 s3:Nat):Nat->Nat
 |0=>4*K1+s1
 |1=>4*K2+s2
 |2=>4*K3+s3
 |3=>4*K3+(s3+3)%4
 |4=>4*K1+(s1+3)%4
 |5=>4*K2+(s2+3)%4
 |6=>4*K3+(s3+1)%4
 |7=>4*K1+(s1+1)%4
 |8=>4*K2+(s2+1)%4
 |9=>4*K1+(s1+2)%4
 |10=>4*K2+(s2+2)%4
 |_=>4*K3+(s3+2)%4
theorem plS_inj {K1 K2 K3 s1 s2 s3:Nat} (h12:K1≠K2) (h23:K2≠K3) (h13:K1≠K3) (a1:s1<4) (a2:s2<4) (a3:s3<4):∀ i j,i<12->j<12->plS K1 K2 K3 s1 s2 s3 i=plS K1 K2 K3 s1 s2 s3 j->i=j:=by
 have h:∀ i,i<12->i=0∨i=1∨i=2∨i=3∨i=4∨i=5∨i=6∨i=7∨i=8∨i=9∨i=10∨i=11:=fun i hi=>by omega
 intro i j hi hj e
 rcases h i hi with rfl|rfl|rfl|rfl|rfl|rfl|rfl|rfl|rfl|rfl|rfl|rfl<;>rcases h j hj with rfl|rfl|rfl|rfl|rfl|rfl|rfl|rfl|rfl|rfl|rfl|rfl<;>first|rfl|(simp only[plS]at e;omega)
section
variable {C D:List Cr} {lo l2:Int} {K1 K2 K3 s1 s2 s3:Nat}
theorem SlideD.pl_lt (H:SlideD C D K1 K2 K3 s1 s2 s3):∀ i,i<12->plS K1 K2 K3 s1 s2 s3 i<4*C.length:=fun i hi=>by
 have h:i=0∨i=1∨i=2∨i=3∨i=4∨i=5∨i=6∨i=7∨i=8∨i=9∨i=10∨i=11:=by omega
 have a1:=H.a1
 have a2:=H.a2
 have a3:=H.a3
 have k1:=H.k1
 have k2:=H.k2
 have k3:=H.k3
 rcases h with rfl|rfl|rfl|rfl|rfl|rfl|rfl|rfl|rfl|rfl|rfl|rfl<;>simp only[plS]<;>omega
theorem SlideD.faces (H:SlideD C D K1 K2 K3 s1 s2 s3) (hm:mayD C lo=true) (hm':mayD D l2=true):(QQ3 D).length=(QQ3 C).length:=by
 have hl:=H.len
 have a1:=H.a1
 have a2:=H.a2
 have a3:=H.a3
 have k1:=H.k1
 have k2:=H.k2
 have k3:=H.k3
 have m4:∀ z,z%4<4:=fun z=>Nat.mod_lt _ (by decide)
 obtain⟨t1,t2,t3,t4,t5,t6,t7,t8,t9,ta,tb,tc,td⟩:=tau_at H.h12 H.h23 H.h13 a1 a2 a3
 -- arrivals
 have pos:∀ q,q<4*C.length->1<=pd C q/\pd C q<=4*C.length:=fun q hq=>by
  obtain⟨-,-,-,h1,h2⟩:=pd_at hm (q / 4) (q%4) (by omega) (by omega)
  rw[show 4*(q / 4)+q%4=q by omega]at h1 h2
  exact⟨h1,h2⟩
 have arr:∀ q,q<4*C.length->1<=al (pd C q)/\al (pd C q)<=4*C.length:=fun q hq=>by
  have:=QW5 (pos q hq).1 (pos q hq).2
  exact⟨this.1,this.2.1⟩
 have fv:∀ k s,k<C.length->s<4->up0 (fd C) (al (pd C (4*k+s)))=pd C (4*k+(s+3)%4):=fun k s hk hs=>by
  rw[QX2 _ (arr _ (by omega)).1,pd_sig hm k s hk hs]
 obtain⟨P,hP⟩:∃ P:Nat->Nat,P=fun i=>al (pd C (plS K1 K2 K3 s1 s2 s3 i)):=⟨_,rfl⟩
 have hPi:∀ i,P i=al (pd C (plS K1 K2 K3 s1 s2 s3 i)):=fun i=>by rw[hP]
 have hi:∀ i j,i<12->j<12->P i=P j->i=j:=fun i j h1 h2 e=>by
  rw[hPi,hPi]at e
  exact plS_inj H.h12 H.h23 H.h13 a1 a2 a3 i j h1 h2 (pd_injq hm (H.pl_lt i h1) (H.pl_lt j h2) (al_inj e))
 have P0:P 0=al (pd C (4*K1+s1)):=hPi 0
 have P1:P 1=al (pd C (4*K2+s2)):=hPi 1
 have P2:P 2=al (pd C (4*K3+s3)):=hPi 2
 have P3:P 3=al (pd C (4*K3+(s3+3)%4)):=hPi 3
 have P4:P 4=al (pd C (4*K1+(s1+3)%4)):=hPi 4
 have P5:P 5=al (pd C (4*K2+(s2+3)%4)):=hPi 5
 have P6:P 6=al (pd C (4*K3+(s3+1)%4)):=hPi 6
 have P7:P 7=al (pd C (4*K1+(s1+1)%4)):=hPi 7
 have P8:P 8=al (pd C (4*K2+(s2+1)%4)):=hPi 8
 have P9:P 9=al (pd C (4*K1+(s1+2)%4)):=hPi 9
 have P10:P 10=al (pd C (4*K2+(s2+2)%4)):=hPi 10
 have P11:P 11=al (pd C (4*K3+(s3+2)%4)):=hPi 11
 have f0:up0 (fd C) (P 0)=pd C (4*K1+(s1+3)%4):=by rw[P0,fv K1 s1 k1 a1]
 have f1:up0 (fd C) (P 1)=pd C (4*K2+(s2+3)%4):=by rw[P1,fv K2 s2 k2 a2]
 have f2:up0 (fd C) (P 2)=pd C (4*K3+(s3+3)%4):=by rw[P2,fv K3 s3 k3 a3]
 have f3:up0 (fd C) (P 3)=pd C (4*K3+(s3+2)%4):=by rw[P3,fv K3 _ k3 (m4 _),show(((s3+3)%4)+3)%4=(s3+2)%4 by omega]
 have f4:up0 (fd C) (P 4)=pd C (4*K1+(s1+2)%4):=by rw[P4,fv K1 _ k1 (m4 _),show(((s1+3)%4)+3)%4=(s1+2)%4 by omega]
 have f5:up0 (fd C) (P 5)=pd C (4*K2+(s2+2)%4):=by rw[P5,fv K2 _ k2 (m4 _),show(((s2+3)%4)+3)%4=(s2+2)%4 by omega]
 have f6:up0 (fd C) (P 6)=pd C (4*K3+s3):=by rw[P6,fv K3 _ k3 (m4 _),show(((s3+1)%4)+3)%4=s3 by omega]
 have f7:up0 (fd C) (P 7)=pd C (4*K1+s1):=by rw[P7,fv K1 _ k1 (m4 _),show(((s1+1)%4)+3)%4=s1 by omega]
 have f8:up0 (fd C) (P 8)=pd C (4*K2+s2):=by rw[P8,fv K2 _ k2 (m4 _),show(((s2+1)%4)+3)%4=s2 by omega]
 have f9:up0 (fd C) (P 9)=pd C (4*K1+(s1+1)%4):=by rw[P9,fv K1 _ k1 (m4 _),show(((s1+2)%4)+3)%4=(s1+1)%4 by omega]
 have f10:up0 (fd C) (P 10)=pd C (4*K2+(s2+1)%4):=by rw[P10,fv K2 _ k2 (m4 _),show(((s2+2)%4)+3)%4=(s2+1)%4 by omega]
 have f11:up0 (fd C) (P 11)=pd C (4*K3+(s3+1)%4):=by rw[P11,fv K3 _ k3 (m4 _),show(((s3+2)%4)+3)%4=(s3+1)%4 by omega]
 have ex:P 0=pd C (4*K3+(s3+3)%4):=P0.trans H.ex
 have ey:P 1=pd C (4*K1+(s1+3)%4):=P1.trans H.ey
 have ez:P 2=pd C (4*K2+(s2+3)%4):=P2.trans H.ez
 have eu:P 3=pd C (4*K1+s1):=by rw[P3,<-H.ex,QJ4]
 have ev:P 4=pd C (4*K2+s2):=by rw[P4,<-H.ey,QJ4]
 have ew:P 5=pd C (4*K3+s3):=by rw[P5,<-H.ez,QJ4]
 have g0:up0 (fd C) (P 0)=P 1:=f0.trans ey.symm
 have g1:up0 (fd C) (P 1)=P 2:=f1.trans ez.symm
 have g2:up0 (fd C) (P 2)=P 0:=f2.trans ex.symm
 have g6:up0 (fd C) (P 6)=P 5:=f6.trans ew.symm
 have g7:up0 (fd C) (P 7)=P 3:=f7.trans eu.symm
 have g8:up0 (fd C) (P 8)=P 4:=f8.trans ev.symm
 have hcnt:=slP_count (fd_bij hm) (fun i hi=>by rw[hPi];have:=arr _ (H.pl_lt i hi);omega) hi g0 g1 g2 g6 g7 g8
 obtain⟨v0,v1,v2,v3,v4,v5,v6,v7,v8,v9,v10,v11,vo⟩:=slP_at (f:=up0 (fd C)) hi g0 g1 g2 g6 g7 g8
 have hD:∀ k s,k<C.length->s<4->pd D (4*k+s)=pd C (tauS K1 K2 K3 s1 s2 s3 (4*k+s)):=fun k s hk hs=>H.all _ (by omega)
 have hc:=face_count hm' (slP (up0 (fd C)) P) (by
  rw[vo 0 fun i hi=>by rw[hPi];have:=arr _ (H.pl_lt i hi);omega]
  rfl) (fun k s hk hs=>?_)
 · rw[hl,hcnt,cyA_fd hm]at hc
   omega
 · rw[hl]at hk
   rw[hD k s hk hs,hD k _ hk (m4 _)]
   rcases QW4 (K1:=K1) (K2:=K2) (K3:=K3) k s hs a1 a2 a3 with(e|e|e|e)|(e|e|e|e)|(e|e|e|e)|⟨n1,n2,n3⟩
   · have e':4*k+(s+3)%4=4*K1+(s1+3)%4:=by omega
     rw[e,e',t1,t7,<-P6,v6,f5]
   · have e':4*k+(s+3)%4=4*K1+s1:=by omega
     rw[e,e',t6,t1,<-P1,v1,f11]
   · have e':4*k+(s+3)%4=4*K1+(s1+1)%4:=by omega
     rw[e,e',t4,t6,<-P3,v3,ev]
   · have e':4*k+(s+3)%4=4*K1+(s1+2)%4:=by omega
     rw[e,e',t7,t4,<-P10,v10,ex]
   · have e':4*k+(s+3)%4=4*K2+(s2+3)%4:=by omega
     rw[e,e',t5,tb,<-P7,v7,f3]
   · have e':4*k+(s+3)%4=4*K2+s2:=by omega
     rw[e,e',ta,t5,<-P2,v2,f9]
   · have e':4*k+(s+3)%4=4*K2+(s2+1)%4:=by omega
     rw[e,e',t8,ta,<-P4,v4,ew]
   · have e':4*k+(s+3)%4=4*K2+(s2+2)%4:=by omega
     rw[e,e',tb,t8,<-P11,v11,ey]
   · have e':4*k+(s+3)%4=4*K3+(s3+3)%4:=by omega
     rw[e,e',t9,t3,<-P8,v8,f4]
   · have e':4*k+(s+3)%4=4*K3+s3:=by omega
     rw[e,e',t2,t9,<-P0,v0,f10]
   · have e':4*k+(s+3)%4=4*K3+(s3+1)%4:=by omega
     rw[e,e',tc,t2,<-P5,v5,eu]
   · have e':4*k+(s+3)%4=4*K3+(s3+2)%4:=by omega
     rw[e,e',t3,tc,<-P9,v9,ez]
   · rw[td k s n1 n2 n3 hs,td k _ n1 n2 n3 (m4 _),vo _ fun i hi=>?_,fv k s hk hs]
     rw[hPi]
     refine al_ne fun e=>?_
     have e2:=pd_injq hm (by omega) (H.pl_lt i hi) e
     have h:i=0∨i=1∨i=2∨i=3∨i=4∨i=5∨i=6∨i=7∨i=8∨i=9∨i=10∨i=11:=by omega
     rcases h with rfl|rfl|rfl|rfl|rfl|rfl|rfl|rfl|rfl|rfl|rfl|rfl<;>simp only[plS]at e2<;>omega
theorem SlideD.at_ (H:SlideD C D K1 K2 K3 s1 s2 s3) {q:Nat} (hq:q<4*C.length):pd D (tauS K1 K2 K3 s1 s2 s3 q)=pd C q:=by
 rw[H.all _ (tau_lt H.h12 H.h23 H.h13 H.a1 H.a2 H.a3 H.k1 H.k2 H.k3 q hq),tau_tau H.h12 H.h23 H.h13 H.a1 H.a2 H.a3]
theorem en_pq {D:List Cr} {lo:Int} (hm:mayD D lo=true) {q a:Nat} {p:Bool} (hq:q<4*D.length) (h1:1<=a) (e:pd D q=mkD a p):enC D a p=q / 4/\enS D a p=q%4:=en_pd hm (by omega) (by omega) h1 (by rw[show 4*(q / 4)+q%4=q by omega];exact e)
theorem SlideD.pieces (H:SlideD C D K1 K2 K3 s1 s2 s3) (hm:mayD C lo=true) (hm':mayD D l2=true):pcN D<=pcN C:=by
 have hl:=H.len
 have a1:=H.a1
 have a2:=H.a2
 have a3:=H.a3
 have k1:=H.k1
 have k2:=H.k2
 have k3:=H.k3
 have tl:=fun q hq=>tau_lt H.h12 H.h23 H.h13 a1 a2 a3 k1 k2 k3 q hq
 obtain⟨t1,t2,t3,t4,t5,t6,t7,t8,t9,ta,tb,tc,td⟩:=tau_at H.h12 H.h23 H.h13 a1 a2 a3
 -- arcs in the slide
 have arcD:∀ a p,1<=a->a<=2*C.length->enC D a p=tauS K1 K2 K3 s1 s2 s3 (4*enC C a p+enS C a p) / 4:=fun a p h1 h2=>by
  obtain⟨g1,g2,g3⟩:=pd_en hm p h1 h2
  exact(en_pq hm' (by have:=tl (4*enC C a p+enS C a p) (by omega);omega) h1 (by rw[H.at_ (by omega),g3])).1
 -- two places of one arc
 have both:∀ q r,q<4*C.length->r<4*C.length->al (pd C q)=pd C r->Con (arcE D) (tauS K1 K2 K3 s1 s2 s3 q / 4) (tauS K1 K2 K3 s1 s2 s3 r / 4):=fun q r hq hr e=>by
  obtain⟨-,-,-,h1,h2⟩:=pd_at hm (q / 4) (q%4) (by omega) (by omega)
  rw[show 4*(q / 4)+q%4=q by omega]at h1 h2
  have hA:1<=dA (pd C q)/\dA (pd C q)<=2*C.length:=by unfold dA;omega
  have hmk:∀ j,1<=j->mkD (dA j) (dB j)=j:=fun j hj=>by
   unfold mkD dA dB
   by_cases h:j%2=0
   · simp[h]
     omega
   · simp[h]
     omega
  have e1:pd C q=mkD (dA (pd C q)) (dB (pd C q)):=(hmk _ h1).symm
  have e2:pd C r=mkD (dA (pd C q)) (!dB (pd C q)):=by
   rw[<-e]
   rfl
  have c:=QW8 (D:=D) hA.1 (by omega)
  have w1:=(en_pq hm hq hA.1 e1)
  have w2:=(en_pq hm hr hA.1 e2)
  have x1:=arcD _ (dB (pd C q)) hA.1 hA.2
  have x2:=arcD _ (!dB (pd C q)) hA.1 hA.2
  rw[w1.1,w1.2,show 4*(q / 4)+q%4=q by omega]at x1
  rw[w2.1,w2.2,show 4*(r / 4)+r%4=r by omega]at x2
  cases hb:dB (pd C q) with
  |true=>
   rw[hb]at x1 x2
   have x2':enC D (dA (pd C q)) false=tauS K1 K2 K3 s1 s2 s3 r / 4:=x2
   rw[<-x1,<-x2']
   exact c
  |false=>
   rw[hb]at x1 x2
   have x2':enC D (dA (pd C q)) true=tauS K1 K2 K3 s1 s2 s3 r / 4:=x2
   rw[<-x1,<-x2']
   exact c.symm
 have c13:Con (arcE D) K3 K1:=by
  have:=both (4*K1+s1) (4*K3+(s3+3)%4) (by omega) (by omega) H.ex
  rw[t1,t3]at this
  rw[show(4*K3+(s3+1)%4) / 4=K3 by omega,show(4*K1+(s1+2)%4) / 4=K1 by omega]at this
  exact this
 have c12:Con (arcE D) K1 K2:=by
  have:=both (4*K2+s2) (4*K1+(s1+3)%4) (by omega) (by omega) H.ey
  rw[t5,t7]at this
  rw[show(4*K1+(s1+1)%4) / 4=K1 by omega,show(4*K2+(s2+2)%4) / 4=K2 by omega]at this
  exact this
 have hq:∀ q,Con (arcE D) (q / 4) (tauS K1 K2 K3 s1 s2 s3 q / 4):=fun q=>by
  obtain⟨k,s,hs,rfl⟩:∃ k s,s<4/\q=4*k+s:=⟨q / 4,q%4,by omega,by omega⟩
  rcases QW4 (K1:=K1) (K2:=K2) (K3:=K3) k s hs a1 a2 a3 with(e|e|e|e)|(e|e|e|e)|(e|e|e|e)|⟨n1,n2,n3⟩
  · rw[e,t1,show(4*K1+s1) / 4=K1 by omega,show(4*K3+(s3+1)%4) / 4=K3 by omega]
    exact c13.symm
  · rw[e,t6,show(4*K1+(s1+1)%4) / 4=K1 by omega,show(4*K2+s2) / 4=K2 by omega]
    exact c12
  · rw[e,t4,show(4*K1+(s1+2)%4) / 4=K1 by omega,show(4*K3+(s3+3)%4) / 4=K3 by omega]
    exact c13.symm
  · rw[e,t7,show(4*K1+(s1+3)%4) / 4=K1 by omega,show(4*K2+(s2+2)%4) / 4=K2 by omega]
    exact c12
  · rw[e,t5,show(4*K2+s2) / 4=K2 by omega,show(4*K1+(s1+1)%4) / 4=K1 by omega]
    exact c12.symm
  · rw[e,ta,show(4*K2+(s2+1)%4) / 4=K2 by omega,show(4*K3+s3) / 4=K3 by omega]
    exact(c12.symm.trans c13.symm)
  · rw[e,t8,show(4*K2+(s2+2)%4) / 4=K2 by omega,show(4*K1+(s1+3)%4) / 4=K1 by omega]
    exact c12.symm
  · rw[e,tb,show(4*K2+(s2+3)%4) / 4=K2 by omega,show(4*K3+(s3+2)%4) / 4=K3 by omega]
    exact(c12.symm.trans c13.symm)
  · rw[e,t9,show(4*K3+s3) / 4=K3 by omega,show(4*K2+(s2+1)%4) / 4=K2 by omega]
    exact(c13.trans c12)
  · rw[e,t2,show(4*K3+(s3+1)%4) / 4=K3 by omega,show(4*K1+s1) / 4=K1 by omega]
    exact c13
  · rw[e,tc,show(4*K3+(s3+2)%4) / 4=K3 by omega,show(4*K2+(s2+3)%4) / 4=K2 by omega]
    exact(c13.trans c12)
  · rw[e,t3,show(4*K3+(s3+3)%4) / 4=K3 by omega,show(4*K1+(s1+2)%4) / 4=K1 by omega]
    exact c13
  · rw[td k s n1 n2 n3 hs]
    exact Con.refl _ _
 unfold pcN
 rw[hl]
 refine kN_le (QU9 hm) (by have:=QU9 hm';rw[hl]at this;exact this) fun u v=>con_sub fun e he=>?_
 obtain⟨a,h1,h2,rfl⟩:=arcE_mem he
 obtain⟨g1,g2,g3⟩:=pd_en hm true h1 h2
 obtain⟨g4,g5,g6⟩:=pd_en hm false h1 h2
 have c:=both (4*enC C a true+enS C a true) (4*enC C a false+enS C a false) (by omega) (by omega) (by rw[g3,g6];exact(al_back' h1).1)
 have c1:=hq (4*enC C a true+enS C a true)
 have c2:=hq (4*enC C a false+enS C a false)
 rw[show(4*enC C a true+enS C a true) / 4=enC C a true by omega]at c1
 rw[show(4*enC C a false+enS C a false) / 4=enC C a false by omega]at c2
 exact(c1.trans c).trans c2.symm
theorem SlideD.planar (H:SlideD C D K1 K2 K3 s1 s2 s3) (hm:mayD C lo=true) (hm':mayD D l2=true) (hp:QX1 C=true):QX1 D=true:=by
 have h1:=H.faces hm hm'
 have h2:=H.pieces hm hm'
 have h3:=H.len
 exact planar_more hm hm' hp (by omega)
end
end Go.Proofs.Ytagaajlbkfkaiaa
