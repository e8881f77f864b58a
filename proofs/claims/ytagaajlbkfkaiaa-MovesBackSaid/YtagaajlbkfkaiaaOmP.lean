/- Several texts of the proof, one behind the other. -/
import Derived.Test.YtagaajlbkfkaiaaH6P
import Derived.Lib.Hide
import Derived.Test.YtagaajlbkfkaiaaW5P
import Derived.Test.YtagaajlbkfkaiaaW2P
import Derived.Deep.QuietTactic
import Derived.BigQuiet
/- Plain mathematics: labels merged place by place. -/
namespace Go.Proofs.Ytagaajlbkfkaiaa
open Go.RowKit
theorem cut_one {T G:Prop} (h:Hid T->G) (hT:T):G:=h hT
def merTo (W:List Nat) (x y k:Nat):List Nat:=(List.range W.length).map fun v=>if v<k then(mer W x y).getD v 0 else W.getD v 0
theorem QW2 (W:List Nat) (x y k:Nat):(merTo W x y k).length=W.length:=by simp[merTo]
theorem merTo_at (W:List Nat) (x y k v:Nat) (hv:v<W.length):(merTo W x y k).getD v 0=if v<k then(mer W x y).getD v 0 else W.getD v 0:=by simp[merTo,List.getD_eq_getElem?_getD,hv]
theorem getD_ext {l m:List Nat} (h:l.length=m.length) (g:∀ v,v<l.length->l.getD v 0=m.getD v 0):l=m:=by
 refine List.ext_getElem h fun i h1 h2=>?_
 have:=g i h1
 simpa[List.getD_eq_getElem?_getD,h1,h2] using this
theorem merTo_zero (W:List Nat) (x y:Nat):merTo W x y 0=W:=getD_ext (QW2 _ _ _ _) fun v hv=>by
 rw[QW2]at hv;rw[merTo_at _ _ _ _ _ hv,if_neg (by omega)]
theorem merTo_all (W:List Nat) (x y:Nat):merTo W x y W.length=mer W x y:=getD_ext (by rw[QW2,mer_len]) fun v hv=>by
 rw[QW2]at hv;rw[merTo_at _ _ _ _ _ hv,if_pos hv]
theorem merTo_next (W:List Nat) (x y k z:Nat) (hk:k<W.length) (hz:(mer W x y).getD k 0=z):(merTo W x y k).set k z=merTo W x y (k+1):=getD_ext (by simp[QW2]) fun v hv=>by
 have hv':v<W.length:=by simpa[QW2] using hv
 rw[getD_set _ _ _ _ (by rw[QW2];exact hk),merTo_at _ _ _ _ _ hv',merTo_at _ _ _ _ _ hv']
 by_cases e:v=k
 · subst e;rw[if_pos rfl,if_pos (by omega),hz]
 · rw[if_neg e]
   by_cases h2:v<k
   · rw[if_pos h2,if_pos (by omega)]
   · rw[if_neg h2,if_neg (by omega)]
theorem merTo_same (W:List Nat) (x y k:Nat) (hk:k<W.length) (hz:(mer W x y).getD k 0=W.getD k 0):merTo W x y k=merTo W x y (k+1):=getD_ext (by simp[QW2]) fun v hv=>by
 have hv':v<W.length:=by simpa[QW2] using hv
 rw[merTo_at _ _ _ _ _ hv',merTo_at _ _ _ _ _ hv']
 by_cases e:v=k
 · subst e;rw[if_neg (by omega),if_pos (by omega),hz]
 · by_cases h2:v<k
   · rw[if_pos h2,if_pos (by omega)]
   · rw[if_neg h2,if_neg (by omega)]
theorem mers_len (E:List (Nat×Nat)):∀ W:List Nat,(mers W E).length=W.length:=by
 induction E with
 |nil=>intro W;rfl
 |cons e E ih=>intro W;rw[mers,ih,mer_len]
end Go.Proofs.Ytagaajlbkfkaiaa
/- Visits: lists of them that a call owns; the walks of gauss.visits and gauss.signs. -/
namespace Go.Proofs.Ytagaajlbkfkaiaa
open Go.RowKit
def vflat (V:List (Nat×Bool)):List Value:=V.flatMap fun t=>[.int .i64 (t.1:Nat),.bool t.2]
theorem vflat_append (l m:List (Nat×Bool)):vflat (l++m)=vflat l++vflat m:=by simp[vflat]
theorem vflat_get (l:List (Nat×Bool)) (i:Nat) (hi:i<l.length):(vflat l)[i*2]?=some (.int .i64 ((l.getD i (0,false)).1:Nat))/\(vflat l)[i*2+1]?=some (.bool (l.getD i (0,false)).2):=by
 induction l generalizing i with
 |nil=>simp at hi
 |cons t l ih=>
  have e:vflat (t::l)=.int .i64 (t.1:Nat)::.bool t.2::vflat l:=rfl
  cases i with
  |zero=>rw[e];exact⟨rfl,rfl⟩
  |succ i=>
   have:=ih i (by simpa using hi)
   rw[e,show(i+1)*2=i*2+1+1 by omega]
   exact this
theorem vflat_one (l:List (Nat×Bool)):∀ u∈vflat l,u.oneCell'=true:=by
 intro u hu
 simp only[vflat,List.mem_flatMap]at hu
 obtain⟨t,_,ht⟩:=hu
 simp at ht
 rcases ht with rfl|rfl<;>rfl
def WksAt (w:World) (v:Value) (L:List (List Nat)):Prop:=∃ ys:List Value,ys.length=L.length/\Slots w w.heap.size v ys/\∀ j,j<L.length->Slots w w.heap.size (ys.getD j (.bool false)) (nats (L.getD j []))
theorem WksAt.on {w w':World} {v:Value} {L:List (List Nat)} (h:WksAt w v L) (hb:Below w.heap.size w w'):WksAt w' v L:=by
 obtain⟨ys,h1,h2,h3⟩:=h
 exact⟨ys,h1,(h2.on hb).mono hb.size,fun j hj=>((h3 j hj).on hb).mono hb.size⟩
end Go.Proofs.Ytagaajlbkfkaiaa
/- The walk of gauss.signs; rows of visits and of signs that are the same. -/
namespace Go.Proofs.Ytagaajlbkfkaiaa
open Go.RowKit
def VS (w:World) (v:Value) (V:List (Nat×Bool)):Prop:=∃ a cap,v=.slice a V.length cap/\(0<V.length->∃ b off,a=some ⟨b,off,none⟩/\b<w.heap.size/\∀ i,i<V.length->w.cell? ⟨b,off+i*2,none⟩=some (.int .i64 ((V.getD i (0,false)).1:Nat))/\w.cell? ⟨b,off+i*2+1,none⟩=some (.bool (V.getD i (0,false)).2))
def VsAt (w:World) (v:Value) (L:List (List (Nat×Bool))):Prop:=∃ ys:List Value,ys.length=L.length/\Slots w w.heap.size v ys/\∀ j,j<L.length->VS w (ys.getD j (.bool false)) (L.getD j [])
theorem vs_own {w:World} {B e:Nat} {v:Value} {V:List (Nat×Bool)} (h:w.ownsRow B e 2 v V.length (vflat V)):VS w v V:=by
 have h0:=h
 rcases h.2 with⟨rfl,h1⟩|⟨g,cap,cur,rfl,_,_,_⟩
 · exact⟨none,0,by rw[h1],fun hp=>by omega⟩
 · refine⟨some ⟨g,0,none⟩,cap,rfl,fun _=>⟨g,0,rfl,(h0.lt g rfl).2,fun i hi=>?_⟩⟩
   have g0:=vflat_get V i hi
   rw[Nat.zero_add]
   exact⟨(h0.cellAt (i*2) (by omega)).trans g0.1,(h0.cellAt (i*2+1) (by omega)).trans g0.2⟩
theorem VS.on {w w':World} {v:Value} {V:List (Nat×Bool)} (h:VS w v V) (hb:Below w.heap.size w w'):VS w' v V:=by
 obtain⟨a,cap,rfl,g⟩:=h
 refine⟨a,cap,rfl,fun hp=>?_⟩
 obtain⟨b,off,rfl,hlt,hc⟩:=g hp
 exact⟨b,off,rfl,Nat.lt_of_lt_of_le hlt hb.size,fun i hi=>⟨bcell hb hlt (hc i hi).1,bcell hb hlt (hc i hi).2⟩⟩
theorem VsAt.on {w w':World} {v:Value} {L:List (List (Nat×Bool))} (h:VsAt w v L) (hb:Below w.heap.size w w'):VsAt w' v L:=by
 obtain⟨ys,h1,h2,h3⟩:=h
 exact⟨ys,h1,(h2.on hb).mono hb.size,fun j hj=>(h3 j hj).on hb⟩
end Go.Proofs.Ytagaajlbkfkaiaa
/- Lists of whole numbers that a call owns; the walk of gauss.evenNumbers. -/
namespace Go.Proofs.Ytagaajlbkfkaiaa
open Go.RowKit
def intsV (l:List Int):List Value:=l.map fun x=>.int .i64 x
theorem intsV_len (l:List Int):(intsV l).length=l.length:=by simp[intsV]
theorem QV5 (l:List Int) (i:Nat) (h:i<l.length):(intsV l)[i]?=some (.int .i64 (l.getD i 0)):=by simp[intsV,List.getD,h]
theorem QU5 (l:List Int) (i:Nat) (x:Int):(intsV l).set i (.int .i64 x)=intsV (l.set i x):=by simp[intsV,List.map_set]
theorem made_zero (n:Nat):(madeCells (Value.int .i64 0).cells (n*1)).toList=intsV (List.replicate n 0):=by
 have e:(Value.int .i64 0).cells=#[Value.int .i64 0]:=rfl
 rw[e,toList_madeCells_one,Nat.mul_one]
 simp[intsV]
end Go.Proofs.Ytagaajlbkfkaiaa
/- Crossings compared; the walks of ref.SameDiagram and ref.MirrorOf, and of canon.Mirror. -/
namespace Go.Proofs.Ytagaajlbkfkaiaa
open Go.RowKit
def crEq (x y:Cr):Bool:=x.a==y.a&&x.b==y.b&&x.c==y.c&&x.d==y.d&&x.plus==y.plus
theorem crEq_refl (x:Cr):crEq x x=true:=by simp[crEq]
def crsEq (C D:List Cr):Bool:=decide (C.length=D.length)&&(List.range C.length).all fun i=>crEq (C.getD i Cr.none) (D.getD i Cr.none)
def sameD (l1 l2:Int) (C D:List Cr):Bool:=decide (l1=l2)&&crsEq C D
theorem sameD_iff (l1 l2:Int) (C D:List Cr):sameD l1 l2 C D=true↔l1=l2/\C.length=D.length/\∀ i,i<C.length->crEq (C.getD i Cr.none) (D.getD i Cr.none)=true:=by
 simp only[sameD,crsEq,Bool.and_eq_true,decide_eq_true_eq,List.all_eq_true,List.mem_range]
theorem sameD_no {l1 l2:Int} {C D:List Cr} (h:¬ (l1=l2/\C.length=D.length/\∀ i,i<C.length->crEq (C.getD i Cr.none) (D.getD i Cr.none)=true)):sameD l1 l2 C D=false:=by
 cases hs:sameD l1 l2 C D with
 |false=>rfl
 |true=>exact absurd ((sameD_iff l1 l2 C D).1 hs) h
theorem eqCross (x y:Cr) (w:World):(Op.equalIn 10000 71 (.agg #[.int .i64 x.a,.int .i64 x.b,.int .i64 x.c,.int .i64 x.d,.bool x.plus]) (.agg #[.int .i64 y.a,.int .i64 y.b,.int .i64 y.c,.int .i64 y.d,.bool y.plus])).run Try.prog w=.ok (crEq x y) w:=by
 have u3:=Try.underlying3
 have a3:=Try.isAgg3
 have z3:=Try.sizeOf3
 have u4:=Try.underlying4
 have a4:=Try.isAgg4
 have z4:=Try.sizeOf4
 have hS:Try.prog.underlying 71=some (.struct (Try.prog.fieldsOf 71)):=by kernel_rfl
 have hp:Try.prog.stoodInHeld 71=false:=by kernel_rfl
 rw[show(10000:Nat)=9999+1 from rfl,run_equalIn_agg w 9999 71 _ _ hS hp]
 simp only[Program.fieldsOf,Try.underlying71]
 go_simp
 unfold crEq
 by_cases h1:x.a=y.a<;>by_cases h2:x.b=y.b<;>by_cases h3:x.c=y.c<;>by_cases h4:x.d=y.d<;>by_cases h5:x.plus=y.plus<;>simp[h1,h2,h3,h4,h5]
theorem neqCross (x y:Cr) (w:World):(binOp .neq 71 (.agg #[.int .i64 x.a,.int .i64 x.b,.int .i64 x.c,.int .i64 x.d,.bool x.plus]) (.agg #[.int .i64 y.a,.int .i64 y.b,.int .i64 y.c,.int .i64 y.d,.bool y.plus])).run Try.prog w=.ok (.bool (!crEq x y)) w:=by
 rw[run_neq_struct,eqCross]
 simp[Result.andThen]
end Go.Proofs.Ytagaajlbkfkaiaa
/- Sums: the walks of Drawing.Has and of the closure that numbers arcs anew, and of drawing.Renumbered with it. -/
namespace Go.Proofs.Ytagaajlbkfkaiaa
open Go.RowKit
def numTo (g:Nat->Int) (k:Nat):List Int:=(List.range 4).map fun j=>if j<k then g j else 0
theorem numTo_len (g:Nat->Int) (k:Nat):(numTo g k).length=4:=by simp[numTo]
theorem numTo_next (g:Nat->Int) (k:Nat) (hk:k<4):(numTo g k).set k (g k)=numTo g (k+1):=by
 apply List.ext_getElem?
 intro i
 rw[List.getElem?_set]
 by_cases hi:i<4
 · by_cases e:k=i
   · subst e
     simp[numTo,hi]
   · rw[if_neg e]
     simp only[numTo,List.getElem?_map,List.getElem?_range hi,Option.map_some]
     congr 1
     by_cases h2:i<k
     · rw[if_pos h2,if_pos (by omega)]
     · rw[if_neg h2,if_neg (by omega)]
 · rw[List.getElem?_eq_none (by rw[numTo_len];omega),List.getElem?_eq_none (by rw[numTo_len];omega)]
   split
   · next e=>rw[if_neg (by rw[numTo_len];omega)]
   · rfl
theorem numTo_zero (g:Nat->Int):numTo g 0=[0,0,0,0]:=by simp[numTo,List.range_succ]
theorem numTo_four (g:Nat->Int):QW7 (numTo g 4)=#[.int .i64 (g 0),.int .i64 (g 1),.int .i64 (g 2),.int .i64 (g 3)]:=by
 simp[numTo,QW7,List.range_succ]
def Boxes (w:World) (x:Cr) (more cut other:Int) (pc px po pm:Nat):Prop:=(pc<w.heap.size/\px<w.heap.size/\po<w.heap.size/\pm<w.heap.size)/\w.cell? ⟨pc,0,none⟩=some (.int .i64 cut)/\w.cell? ⟨px,0,none⟩=some (.int .i64 x.a)/\w.cell? ⟨px,1,none⟩=some (.int .i64 x.b)/\w.cell? ⟨px,2,none⟩=some (.int .i64 x.c)/\w.cell? ⟨px,3,none⟩=some (.int .i64 x.d)/\w.cell? ⟨px,4,none⟩=some (.bool x.plus)/\w.cell? ⟨po,0,none⟩=some (.int .i64 other)/\w.cell? ⟨pm,0,none⟩=some (.int .i64 more)
theorem Boxes.kept {B:Nat} {w w':World} {x:Cr} {more cut other:Int} {pc px po pm:Nat} (h:Boxes w x more cut other pc px po pm) (hb:Below B w w') (l1:pc<B) (l2:px<B) (l3:po<B) (l4:pm<B):Boxes w' x more cut other pc px po pm:=by
 obtain⟨⟨a1,a2,a3,a4⟩,c0,c1,c2,c3,c4,c5,c6,c7⟩:=h
 have hs:=hb.size
 exact⟨⟨by omega,by omega,by omega,by omega⟩,bcell hb l1 c0,bcell hb l2 c1,bcell hb l2 c2,bcell hb l2 c3,bcell hb l2 c4,bcell hb l2 c5,bcell hb l3 c6,bcell hb l4 c7⟩
end Go.Proofs.Ytagaajlbkfkaiaa
/- The walk of Drawing.Has. -/
namespace Go.Proofs.Ytagaajlbkfkaiaa
open Go.RowKit
set_option maxHeartbeats 1000000
set_option maxRecDepth 100000
def hasB (C:List Cr) (x:Int):Bool:=decide (1<=x)&&decide (x<=2*(C.length:Int))
theorem has_any (a:Option Addr) (cap:Nat) (C:List Cr) (loops:Int) (gF cF gT cT:Nat) (x:Int) (w:World) (hl:C.length<=16):
    Calls Try.prog 104 #[drV a cap C loops gF cF gT cT,.int .i64 x] w fun e w'=>e=.returned (.bool (hasB C x))/\Below w.heap.size w w':=by
 unfold drV
 have hb:∀ o,Below w.heap.size w (w.alloc o):=fun o=>(Below.refl _ _).alloc (Nat.le_refl _) o
 obtain⟨m,hm⟩:∃ m,2*C.length+1=m:=⟨_,rfl⟩
 have HM:=hidB hm
 have hm40:m<=40:=by omega
 rw[hm]
 clear hm
 by_cases h1:1<=x
 · have d1:decide (1<=x)=true:=by simpa using h1
   by_cases h2:x<(m:Int)
   · have d2:decide (x<(m:Int))=true:=by simpa using h2
     have HR:=hidB (show hasB C x=true by have:=HM.out;simp[hasB,h1];omega)
     go_enter Try.func104,Try.ntmps104
     go_wp2
     go_ret
     exact⟨QX8 HR.out,hb _⟩
   · have d2:decide (x<(m:Int))=false:=by simpa using h2
     have HR:=hidB (show hasB C x=false by have:=HM.out;simp[hasB];omega)
     go_enter Try.func104,Try.ntmps104
     go_wp2
     go_ret
     exact⟨QX8 HR.out,hb _⟩
 · have d1:decide (1<=x)=false:=by simpa using h1
   have HR:=hidB (show hasB C x=false by simp[hasB,h1])
   go_enter Try.func104,Try.ntmps104
   go_wp2
   go_ret
   exact⟨QX8 HR.out,hb _⟩
end Go.Proofs.Ytagaajlbkfkaiaa
/- A crossing is stored whole into a row. -/
namespace Go.Proofs.Ytagaajlbkfkaiaa
open Go.RowKit
end Go.Proofs.Ytagaajlbkfkaiaa
/- The walks of ref.MirrorOf and canon.Mirror. -/
namespace Go.Proofs.Ytagaajlbkfkaiaa
open Go.RowKit
end Go.Proofs.Ytagaajlbkfkaiaa
/- Plain mathematics: which labels are left, and their numbers, place by place. -/
namespace Go.Proofs.Ytagaajlbkfkaiaa
def stB (C:List Cr) (G:List Nat) (L:List Nat) (m v:Nat):Bool:=(List.range m).any fun a=>decide (L.getD a 0=v)&&!goneB C G a
theorem stB_iff {C:List Cr} {G L:List Nat} {m v:Nat}:stB C G L m v=true↔stP C G L m v:=by
 unfold stB stP
 rw[List.any_eq_true]
 constructor
 · rintro⟨a,ha,h⟩
   rw[Bool.and_eq_true,decide_eq_true_eq]at h
   exact⟨a,List.mem_range.1 ha,h.1,by simpa using h.2⟩
 · rintro⟨a,ha,h1,h2⟩
   exact⟨a,List.mem_range.2 ha,by rw[h2,decide_eq_true h1];rfl⟩
theorem stB_next (C:List Cr) (G L:List Nat) (m v:Nat):stB C G L (m+1) v=(stB C G L m v||(decide (L.getD m 0=v)&&!goneB C G m)):=by
 unfold stB
 rw[List.range_succ,List.any_append]
 simp
def stTo (C:List Cr) (G L:List Nat) (N m:Nat):List Bool:=(List.range N).map (stB C G L m)
theorem stTo_len (C:List Cr) (G L:List Nat) (N m:Nat):(stTo C G L N m).length=N:=by simp[stTo]
theorem stTo_at (C:List Cr) (G L:List Nat) (N m v:Nat) (hv:v<N):(stTo C G L N m).getD v true=stB C G L m v:=by simp[stTo,List.getD_eq_getElem?_getD,hv]
theorem stTo_zero (C:List Cr) (G L:List Nat) (N:Nat):List.replicate N false=stTo C G L N 0:=by
 refine List.ext_getElem (by simp[stTo]) fun j h1 h2=>?_
 simp[stTo,stB]
theorem stTo_next (C:List Cr) (G L:List Nat) (N m q:Nat) (hq:L.getD m 0=q) (b:Bool) (hb:b=(stB C G L m q||!goneB C G m)):(stTo C G L N m).set q b=stTo C G L N (m+1):=by
 refine List.ext_getElem (by simp[stTo]) fun j h1 h2=>?_
 simp only[List.getElem_set,stTo,List.getElem_map,List.getElem_range]
 rw[stB_next,hq]
 by_cases e:q=j
 · subst e;rw[if_pos rfl,hb];simp
 · rw[if_neg e];simp[e]
def ltB (L:List Nat) (t:Nat->Bool) (v:Nat):Bool:=decide (L.getD v 0=v)&&t v
def lfB (L:List Nat) (t:Nat->Bool) (v:Nat):Bool:=decide (L.getD v 0=v)&&!t v
def nmTo (L:List Nat) (P:Nat->Bool) (N j:Nat):List Nat:=(List.range N).map fun v=>if v<j/\1<=v then numM L P v else 0
theorem nmTo_len (L:List Nat) (P:Nat->Bool) (N j:Nat):(nmTo L P N j).length=N:=by simp[nmTo]
theorem nmTo_at (L:List Nat) (P:Nat->Bool) (N j v:Nat) (hv:v<N):(nmTo L P N j).getD v 0=if v<j/\1<=v then numM L P v else 0:=by simp[nmTo,List.getD_eq_getElem?_getD,hv]
theorem nmTo_zero (L:List Nat) (P:Nat->Bool) (N:Nat):List.replicate N 0=nmTo L P N 1:=by
 refine List.ext_getElem (by simp[nmTo]) fun j h1 h2=>?_
 simp only[nmTo,List.getElem_map,List.getElem_range,List.getElem_replicate]
 rw[if_neg (by omega)]
theorem nmTo_next (L:List Nat) (P:Nat->Bool) (N j z:Nat) (h1:1<=j) (hz:numM L P j=z):(nmTo L P N j).set j z=nmTo L P N (j+1):=by
 refine List.ext_getElem (by simp[nmTo]) fun i h2 h3=>?_
 simp only[List.getElem_set,nmTo,List.getElem_map,List.getElem_range]
 by_cases e:j=i
 · subst e;rw[if_pos rfl,if_pos ⟨by omega,h1⟩,hz]
 · rw[if_neg e]
   by_cases h4:i<j/\1<=i
   · rw[if_pos h4,if_pos ⟨by omega,h4.2⟩]
   · rw[if_neg h4,if_neg (fun q=>h4 ⟨by omega,q.2⟩)]
theorem nmTo_same (L:List Nat) (P:Nat->Bool) (N j:Nat) (hz:numM L P j=0):nmTo L P N j=nmTo L P N (j+1):=by
 refine List.map_congr_left fun i _=>?_
 by_cases h4:i<j/\1<=i
 · rw[if_pos h4,if_pos ⟨by omega,h4.2⟩]
 · rw[if_neg h4]
   by_cases h5:i<j+1/\1<=i
   · have e:i=j:=by omega
     rw[if_pos h5,e,hz]
   · rw[if_neg h5]
theorem cntB_yes (P:Nat->Bool) (j:Nat) (h1:1<=j) (h:P j=true):cntB P (j+1)=cntB P j+1:=by simp only[cntB];rw[if_pos ⟨h1,h⟩]
theorem cntB_no (P:Nat->Bool) (j:Nat) (h:P j=false):cntB P (j+1)=cntB P j:=by simp only[cntB];rw[if_neg (fun z=>by rw[h]at z;cases z.2)];rfl
theorem cntB_one (P:Nat->Bool):cntB P 1=0:=by simp[cntB]
theorem reTo_next (C:List Cr) (G:List Nat) (h:Nat->Nat) (i:Nat):reTo C G h (i+1)=if i∈G then reTo C G h i else reTo C G h i++[reX h (C.getD i Cr.none)]:=by
 simp only[reTo]
 split<;>simp
end Go.Proofs.Ytagaajlbkfkaiaa
/- Plain mathematics: what the reference's smoothing leaves is what the code's leaves. -/
namespace Go.Proofs.Ytagaajlbkfkaiaa
end Go.Proofs.Ytagaajlbkfkaiaa
/- Slices that are read; lists of numbers that stand in a function's values; which walk an arc lies in. -/
namespace Go.Proofs.Ytagaajlbkfkaiaa
open Go.RowKit
def RdAt (w:World) (B size:Nat) (v:Value) (n:Nat) (xs:List Value):Prop:=∃ a cap,v=.slice a n cap/\(0<n->∃ b off,a=some ⟨b,off,none⟩/\b<B/\∀ j,j<n*size->w.cell? ⟨b,off+j,none⟩=xs[j]?)
theorem RdAt.on {w w':World} {B size n:Nat} {v:Value} {xs:List Value} (h:RdAt w B size v n xs) (hb:Below B w w'):RdAt w' B size v n xs:=by
 obtain⟨a,cap,rfl,f⟩:=h
 refine⟨a,cap,rfl,fun h0=>?_⟩
 obtain⟨b,off,rfl,hlt,hc⟩:=f h0
 exact⟨b,off,rfl,hlt,fun j hj=>bcell hb hlt (hc j hj)⟩
theorem RdAt.mono {w:World} {B B' size n:Nat} {v:Value} {xs:List Value} (h:RdAt w B size v n xs) (hB:B<=B'):RdAt w B' size v n xs:=by
 obtain⟨a,cap,rfl,f⟩:=h
 refine⟨a,cap,rfl,fun h0=>?_⟩
 obtain⟨b,off,rfl,hlt,hc⟩:=f h0
 exact⟨b,off,rfl,Nat.lt_of_lt_of_le hlt hB,hc⟩
theorem own_rd {w:World} {B e size n:Nat} {v:Value} {xs:List Value} (h:w.ownsRow B e size v n xs):RdAt w w.heap.size size v n xs:=by
 have h0:=h
 rcases h.2 with⟨rfl,h1⟩|⟨g,cap,cur,rfl,_,_,_⟩
 · exact⟨none,0,by rw[h1],fun hp=>by omega⟩
 · exact⟨some ⟨g,0,none⟩,cap,rfl,fun _=>⟨g,0,rfl,(h0.lt g rfl).2,fun j hj=>by rw[Nat.zero_add];exact h0.cellAt j hj⟩⟩
def NatsRd (w:World) (B:Nat) (v:Value) (L:List (List Nat)):Prop:=∃ ys:List Value,ys.length=L.length/\RdAt w B 1 v L.length ys/\∀ j,j<L.length->RdAt w B 1 (ys.getD j (.bool false)) (L.getD j []).length (nats (L.getD j []))
theorem NatsRd.on {w w':World} {B:Nat} {v:Value} {L:List (List Nat)} (h:NatsRd w B v L) (hb:Below B w w'):NatsRd w' B v L:=by
 obtain⟨ys,hy,h1,h2⟩:=h
 exact⟨ys,hy,h1.on hb,fun j hj=>(h2 j hj).on hb⟩
theorem NatsRd.mono {w:World} {B B':Nat} {v:Value} {L:List (List Nat)} (h:NatsRd w B v L) (hB:B<=B'):NatsRd w B' v L:=by
 obtain⟨ys,hy,h1,h2⟩:=h
 exact⟨ys,hy,h1.mono hB,fun j hj=>(h2 j hj).mono hB⟩
theorem NatsRd.up {w w':World} {v:Value} {L:List (List Nat)} (h:NatsRd w w.heap.size v L) (hb:Below w.heap.size w w'):NatsRd w' w'.heap.size v L:=(h.on hb).mono hb.size
theorem NatsOwn.rd {w:World} {B:Nat} {v:Value} {L:List (List Nat)} (h:NatsOwn w B v L):NatsRd w w.heap.size v L:=by
 obtain⟨ys,hy,h1,h2⟩:=h
 exact⟨ys,hy,by rw[<-hy];exact own_rd h1,fun j hj=>own_rd (h2 j hj)⟩
theorem NatsRd.len {w:World} {B:Nat} {v:Value} {L:List (List Nat)} (h:NatsRd w B v L):∃ a cap,v=.slice a L.length cap:=by
 obtain⟨ys,hy,⟨a,cap,e,-⟩,h2⟩:=h
 exact⟨a,cap,e⟩
theorem NatsRd.row {w:World} {B:Nat} {a:Option Addr} {cap:Nat} {L:List (List Nat)} (h:NatsRd w B (.slice a L.length cap) L) (j:Nat) (hj:j<L.length):
    ∃ b off ar cr,a=some ⟨b,off,none⟩/\b<B/\w.cell? ⟨b,off+j,none⟩=some (.slice ar (L.getD j []).length cr)/\RdAt w B 1 (.slice ar (L.getD j []).length cr) (L.getD j []).length (nats (L.getD j [])):=by
 obtain⟨ys,hy,⟨a',cap',e,f⟩,h2⟩:=h
 injection e with e1 e2 e3
 obtain⟨b,off,eb,hlt,hc⟩:=f (by omega)
 have hr:=h2 j hj
 obtain⟨ar,cr,er,-⟩:=hr
 have hr:=h2 j hj
 rw[er]at hr
 refine⟨b,off,ar,cr,e1.trans eb,hlt,?_,hr⟩
 rw[hc j (by omega),<-er]
 simp[List.getD,hy,hj]
def mapI (m:Nat) (f:Nat->Int):List Int:=(List.range m).map f
theorem mapI_len (m:Nat) (f:Nat->Int):(mapI m f).length=m:=by simp[mapI]
theorem mapI_get (m:Nat) (f:Nat->Int) (i:Nat) (h:i<m):(mapI m f)[i]?=some (f i):=by simp[mapI,h]
theorem mapI_set (m:Nat) (f g:Nat->Int) (i:Nat) (x:Int) (h:∀ j,j<m->g j=if j=i then x else f j):(mapI m f).set i x=mapI m g:=by
 apply List.ext_getElem?
 intro j
 by_cases hj:j<m
 · rw[mapI_get m g j hj,h j hj,List.getElem?_set]
   by_cases e:i=j
   · subst e;simp[mapI_len,hj]
   · rw[if_neg e,if_neg (fun h=>e h.symm),mapI_get m f j hj]
 · rw[List.getElem?_eq_none (by simp[mapI_len];omega),List.getElem?_eq_none (by simp[mapI_len];omega)]
def pt (L:List (List Nat)) (a:Nat):Nat:=L.findIdx fun l=>decide (a∈l)
theorem two_rows (a:Nat):∀ (L:List (List Nat)) (i j:Nat),i<j->j<L.length->a∈L.getD i []->a∈L.getD j []->2<=L.flatten.count a
 |[],i,j,_,h,_,_=>absurd h (by simp)
 |x::t,0,j+1,_,hj,h1,h2=>by
  have h3:1<=x.count a:=List.one_le_count_iff.2 (by simpa using h1)
  have hj':j<t.length:=by simpa using hj
  have h4:a∈t.flatten:=by
   refine List.mem_flatten.2 ⟨t.getD j [],?_,by simpa using h2⟩
   rw[List.getD_eq_getElem?_getD,List.getElem?_eq_getElem hj']
   exact List.getElem_mem hj'
  have h5:1<=t.flatten.count a:=List.one_le_count_iff.2 h4
  rw[List.flatten_cons,List.count_append]
  omega
 |x::t,i+1,j+1,hij,hj,h1,h2=>by
  have:=two_rows a t i j (by omega) (by simpa using hj) (by simpa using h1) (by simpa using h2)
  rw[List.flatten_cons,List.count_append]
  omega
theorem pt_is {L:List (List Nat)} {a i:Nat} (h1:L.flatten.count a=1) (hi:i<L.length) (ha:a∈L.getD i []):pt L a=i:=by
 have hle:pt L a<=i:=by
  refine Classical.byContradiction fun hc=>?_
  have:=List.not_of_lt_findIdx (p:=fun l=>decide (a∈l)) (xs:=L) (i:=i) (by unfold pt at hc;omega)
  rw[List.getD_eq_getElem?_getD,List.getElem?_eq_getElem hi]at ha
  simp at this
  exact this (by simpa using ha)
 rcases Nat.lt_or_ge (pt L a) i with h|h
 · have hl:pt L a<L.length:=by omega
   have hm:=List.findIdx_getElem (p:=fun l=>decide (a∈l)) (xs:=L) (w:=hl)
   have hm2:a∈L.getD (pt L a) []:=by
    rw[List.getD_eq_getElem?_getD,List.getElem?_eq_getElem hl]
    exact of_decide_eq_true hm
   have:=two_rows a L (pt L a) i h hi hm2 ha
   omega
 · omega
theorem pt_lt {L:List (List Nat)} {a:Nat} (h1:L.flatten.count a=1):pt L a<L.length:=by
 have:a∈L.flatten:=List.one_le_count_iff.1 (by omega)
 obtain⟨l,hl,ha⟩:=List.mem_flatten.1 this
 exact List.findIdx_lt_length_of_exists ⟨l,hl,by simpa using ha⟩
theorem pt_mem {L:List (List Nat)} {a i:Nat} (h1:L.flatten.count a=1) (hi:i<L.length):a∈L.getD i []↔pt L a=i:=by
 constructor
 · exact pt_is h1 hi
 · intro e
   have hl:pt L a<L.length:=by omega
   have hm:=List.findIdx_getElem (p:=fun l=>decide (a∈l)) (xs:=L) (w:=hl)
   rw[<-e,List.getD_eq_getElem?_getD,List.getElem?_eq_getElem hl]
   exact of_decide_eq_true hm
end Go.Proofs.Ytagaajlbkfkaiaa
/- Plain mathematics: rings of a renaming are closed; in which face a dart lies. -/
namespace Go.Proofs.Ytagaajlbkfkaiaa
theorem un_le (l:List Bool) (y:Nat):un l y<=1:=by unfold un;split<;>omega
theorem unseen_none {l:List Bool} (h:unseen l=0) (x:Nat):l.getD x true=true:=by
 cases e:l.getD x true with
 |true=>rfl
 |false=>have:=unseen_pos e;omega
theorem walkF_chain (f:Nat->Nat):∀ (m:Nat) (seen:List Bool) (x:Nat) (acc:List Nat),unseen seen<=m->(∀ i,i+1<acc.length->acc.getD (i+1) 0=f (acc.getD i 0))->(0<acc.length->x=f (acc.getD (acc.length-1) 0))->
    (∀ i,i+1<(walkF f m seen x acc).1.length->(walkF f m seen x acc).1.getD (i+1) 0=f ((walkF f m seen x acc).1.getD i 0))/\(0<(walkF f m seen x acc).1.length->un (walkF f m seen x acc).2 (f ((walkF f m seen x acc).1.getD ((walkF f m seen x acc).1.length-1) 0))=0):=by
 intro m
 induction m with
 |zero=>
  intro seen x acc hu hc hx
  refine⟨hc,fun h0=>?_⟩
  show un seen (f (acc.getD (acc.length-1) 0))=0
  rw[<-hx h0]
  unfold un
  rw[if_pos (unseen_none (by omega) x)]
 |succ m ih=>
  intro seen x acc hu hc hx
  by_cases hs:seen.getD x true=true
  · rw[walkF_seen hs]
    refine⟨hc,fun h0=>?_⟩
    show un seen (f (acc.getD (acc.length-1) 0))=0
    rw[<-hx h0]
    unfold un
    rw[if_pos hs]
  · have hs':seen.getD x true=false:=by simpa using hs
    obtain⟨e,hu2⟩:=walkF_more (f:=f) (acc:=acc) hs' hu
    rw[e]
    refine ih _ _ _ hu2 (fun i hi=>?_) (fun _=>?_)
    · rw[List.length_append,List.length_singleton]at hi
      by_cases hi2:i+1<acc.length
      · have e1:(acc++[x]).getD (i+1) 0=acc.getD (i+1) 0:=by simp[List.getD_eq_getElem?_getD,List.getElem?_append_left hi2]
        have e2:(acc++[x]).getD i 0=acc.getD i 0:=by simp[List.getD_eq_getElem?_getD,List.getElem?_append_left (show i<acc.length by omega)]
        rw[e1,e2]
        exact hc i hi2
      · have hl:acc.length=i+1:=by omega
        have e1:(acc++[x]).getD (i+1) 0=x:=by rw[<-hl];simp[List.getD_eq_getElem?_getD]
        have e2:(acc++[x]).getD i 0=acc.getD i 0:=by simp[List.getD_eq_getElem?_getD,List.getElem?_append_left (show i<acc.length by omega)]
        rw[e1,e2,hx (by omega),hl]
        rfl
    · have e1:(acc++[x]).getD ((acc++[x]).length-1) 0=x:=by simp[List.getD_eq_getElem?_getD]
      rw[e1]
theorem mem_atZ {l:List Nat} {y:Nat} (h:y∈l):∃ i,i<l.length/\l.getD i 0=y:=by
 obtain⟨i,hi,e⟩:=List.getElem_of_mem h
 exact⟨i,hi,by rw[List.getD_eq_getElem?_getD,List.getElem?_eq_getElem hi];exact e⟩
theorem at_mem {l:List Nat} {i:Nat} (h:i<l.length):l.getD i 0∈l:=by
 rw[List.getD_eq_getElem?_getD,List.getElem?_eq_getElem h]
 exact List.getElem_mem h
theorem at_ne {l:List Nat} (h:∀ y,l.count y<=1) {i j:Nat} (hij:i<j) (hj:j<l.length):l.getD i 0≠l.getD j 0:=by
 have hn:l.Nodup:=List.nodup_iff_count.2 h
 have:=List.pairwise_iff_getElem.1 hn i j (by omega) hj hij
 rw[List.getD_eq_getElem?_getD,List.getElem?_eq_getElem (by omega),List.getD_eq_getElem?_getD,List.getElem?_eq_getElem hj]
 exact this
theorem QV2 {f:Nat->Nat} {n:Nat} (hf:∀ a,1<=a->a<=n->1<=f a/\f a<=n) (hi:∀ a b,1<=a->a<=n->1<=b->b<=n->f a=f b->a=b):∀ a,a<=n->
    (∀ l,l∈(QQ9 f n a).1->∀ y,y∈l->f y∈l)/\(∀ y,1<=y->y<=n->un (QQ9 f n a).2 (f y)=0->un (QQ9 f n a).2 y=0)/\
    (∀ l,l∈(QQ9 f n a).1->(∀ i,i+1<l.length->l.getD (i+1) 0=f (l.getD i 0))/\f (l.getD (l.length-1) 0)=l.getD 0 0):=by
 intro a
 induction a with
 |zero=>
  intro _
  refine⟨fun l hl=>absurd hl (by simp[QQ9]),fun y h1 h2 h3=>?_,fun l hl=>absurd hl (by simp[QQ9])⟩
  have h4:=hf y h1 h2
  exfalso
  have:un (QQ9 f n 0).2 (f y)=1:=by
   simp[QQ9,un,List.getD_eq_getElem?_getD,show f y<n+1 by omega]
  omega
 |succ a ih=>
  intro ha
  obtain⟨i1,i2,i3⟩:=ih (by omega)
  have hin:=QV3 hf a (by omega)
  generalize hr:QQ9 f n a=r at i1 i2 i3 hin
  have hlen:r.2.length=n+1:=by rw[<-hr];exact walksTo_len f n a
  have hch:=walkF_chain f (n+1) r.2 (a+1) [] (by have:=unseen_le r.2;omega) (fun i hi=>by simp at hi) (fun h0=>by simp at h0)
  have hmem:=walkF_mem hf (n+1) r.2 (a+1) [] (by omega) ha (fun y hy=>by cases hy)
  have hcnt:=walkF_count f (n+1) r.2 (a+1) []
  have hkeep:=walkF_keep f (n+1) r.2 (a+1) []
  have e:QQ9 f n (a+1)=(if(walkF f (n+1) r.2 (a+1) []).1=[] then r.1 else r.1++[(walkF f (n+1) r.2 (a+1) []).1],(walkF f (n+1) r.2 (a+1) []).2):=by simp only[QQ9,hr]
  rw[e]
  generalize walkF f (n+1) r.2 (a+1) []=s at hch hmem hcnt hkeep
  obtain⟨l,sn⟩:=s
  simp only[List.count_nil,Nat.zero_add]at hch hmem hcnt hkeep ⊢
  have hc1:∀ y,l.count y<=1:=fun y=>by have:=hcnt y;have:=un_le r.2 y;omega
  have hin1:∀ y,y∈l->un r.2 y=1/\un sn y=0:=fun y hy=>by
   have h1:1<=l.count y:=List.one_le_count_iff.2 hy
   have h2:=hcnt y
   have h3:=un_le r.2 y
   omega
  -- what stands behind the last is the first
  have hend:0<l.length->f (l.getD (l.length-1) 0)=l.getD 0 0:=fun h0=>by
   have hlast:=at_mem (l:=l) (i:=l.length-1) (by omega)
   have hb:=hmem _ hlast
   have hz:=hch.2 h0
   have hnz:un r.2 (f (l.getD (l.length-1) 0))≠0:=fun q=>by
    have:=i2 _ hb.1 hb.2 q
    have:=(hin1 _ hlast).1
    omega
   have hz1:f (l.getD (l.length-1) 0)∈l:=by
    have h2:=hcnt (f (l.getD (l.length-1) 0))
    refine List.one_le_count_iff.1 ?_
    omega
   obtain⟨j,hj,ej⟩:=mem_atZ hz1
   cases j with
   |zero=>exact ej.symm
   |succ j=>
    exfalso
    have h5:=hch.1 j hj
    rw[ej]at h5
    have hbj:=hmem _ (at_mem (l:=l) (i:=j) (by omega))
    have h6:=hi _ _ hb.1 hb.2 hbj.1 hbj.2 h5
    exact at_ne hc1 (i:=j) (j:=l.length-1) (by omega) (by omega) h6.symm
  refine⟨?_,fun y h1 h2 h3=>?_,fun l' hl'=>?_⟩
  · intro l' hl' y hy
    by_cases hnil:l=[]
    · rw[if_pos hnil]at hl'
      exact i1 l' hl' y hy
    · rw[if_neg hnil]at hl'
      rcases List.mem_append.1 hl' with h|h
      · exact i1 l' h y hy
      · obtain rfl:=List.mem_singleton.1 h
        obtain⟨i,hil,rfl⟩:=mem_atZ hy
        by_cases hlast:i+1<l'.length
        · rw[<-hch.1 i hlast]
          exact at_mem hlast
        · have hi1:i=l'.length-1:=by omega
          rw[hi1,hend (by omega)]
          exact at_mem (by omega)
  · by_cases hq:un r.2 (f y)=0
    · exact hkeep y (i2 y h1 h2 hq)
    · have hmy:f y∈l:=List.one_le_count_iff.1 (by have:=hcnt (f y);omega)
      obtain⟨j,hj,ej⟩:=mem_atZ hmy
      cases j with
      |zero=>
       have hlast:=at_mem (l:=l) (i:=l.length-1) (by omega)
       have hb:=hmem _ hlast
       have:=hi y _ h1 h2 hb.1 hb.2 (by rw[hend (by omega),ej])
       rw[this]
       exact(hin1 _ hlast).2
      |succ j=>
       have h5:=hch.1 j hj
       rw[ej]at h5
       have hbj:=hmem _ (at_mem (l:=l) (i:=j) (by omega))
       have:=hi y _ h1 h2 hbj.1 hbj.2 h5
       rw[this]
       exact(hin1 _ (at_mem (by omega))).2
  · by_cases hnil:l=[]
    · rw[if_pos hnil]at hl'
      exact i3 l' hl'
    · rw[if_neg hnil]at hl'
      rcases List.mem_append.1 hl' with h|h
      · exact i3 l' h
      · obtain rfl:=List.mem_singleton.1 h
        have h0:0<l'.length:=by
         cases l' with
         |nil=>exact absurd rfl hnil
         |cons=>simp
        exact⟨hch.1,hend h0⟩
theorem fd_inj {C:List Cr} {loops:Int} (hm:mayD C loops=true) (i j:Nat) (h1:1<=i) (h2:i<=4*C.length) (h3:1<=j) (h4:j<=4*C.length) (e:fd C i=fd C j):i=j:=by
 obtain⟨p1,p2,p3⟩:=d_may hm i h1 h2
 obtain⟨q1,q2,q3⟩:=d_may hm j h3 h4
 obtain⟨a1,a2,a3,a4⟩:=fd_may hm i h1 h2
 obtain⟨b1,b2,b3,b4⟩:=fd_may hm j h3 h4
 rw[e]at a1 a2
 have hA:=dA_le b3 b4
 have e1:=end_one hm _ hA.1 hA.2 _ _ _ p2 (Nat.mod_lt _ (by decide)) a1 a2
 have e2:=end_one hm _ hA.1 hA.2 _ _ _ q2 (Nat.mod_lt _ (by decide)) b1 b2
 rw[e1]at e2
 have hcc:dC C i=dC C j:=by have:=congrArg Prod.fst e2;simp only at this;omega
 have hss:dS C i=dS C j:=by have:=congrArg Prod.snd e2;simp only at this;omega
 have u:=QJ9 hm (dA i) (!dB i) (dA_le h1 h2).1 (dA_le h1 h2).2
 have v:=QJ9 hm (dA j) (!dB j) (dA_le h3 h4).1 (dA_le h3 h4).2
 have u1:(C.getD (dC C i) Cr.none).arc (dS C i)=(dA i:Int):=u.2.2.2.1
 have v1:(C.getD (dC C j) Cr.none).arc (dS C j)=(dA j:Int):=v.2.2.2.1
 have u2:(C.getD (dC C i) Cr.none).comes (dS C i)=(!dB i):=u.2.2.2.2
 have v2:(C.getD (dC C j) Cr.none).comes (dS C j)=(!dB j):=v.2.2.2.2
 rw[hcc,hss]at u1 u2
 have h5:dA i=dA j:=by omega
 have h6:dB i=dB j:=by
  rw[u2]at v2
  revert v2
  cases dB i<;>cases dB j<;>simp
 rw[<-mk_d h1,<-mk_d h3,h5,h6]
def fo (C:List Cr) (j:Nat):Nat:=pt (QQ3 C) j
theorem fo_lt {C:List Cr} (j:Nat) (h1:1<=j) (h2:j<=4*C.length):fo C j<(QQ3 C).length:=pt_lt (QJ2 (fd C) (4*C.length) j h1 h2)
end Go.Proofs.Ytagaajlbkfkaiaa
/- The walks of slices.Contains of numbers, of the closure that tells an arc's new number, and of drawing.Renumbered with it. -/
namespace Go.Proofs.Ytagaajlbkfkaiaa
open Go.RowKit
set_option maxHeartbeats 4000000
set_option maxRecDepth 100000
def hasG (G:List Nat) (v:Int):Bool:=G.any fun g=>decide ((g:Int)=v)
theorem hasG_nat (G:List Nat) (v:Nat):hasG G (v:Int)=decide (v∈G):=by
 unfold hasG
 rw[Bool.eq_iff_iff]
 simp only[List.any_eq_true,decide_eq_true_eq]
 exact ⟨fun ⟨x, hx, e⟩ => by have : x = v := by omega
                             exact this ▸ hx, fun h => ⟨v, h, rfl⟩⟩
theorem hasG_neg (G:List Nat):hasG G (-1)=false:=by
 unfold hasG
 rw[List.any_eq_false]
 intro x _
 simp only[decide_eq_true_eq]
 omega
theorem indexZ_any (b off cap:Nat) (G:List Nat) (v:Int) (w:World) (hm:G.length<=1000) (hbw:b<w.heap.size) (h:∀ i,i<G.length->w.cell? ⟨b,off+i,none⟩=some (.int .i64 (G.getD i 0:Nat))):
    Calls Try.prog 146 #[.slice (some ⟨b,off,none⟩) G.length cap,.int .i64 v] w fun e w'=>∃ r:Int,e=.returned (.int .i64 r)/\decide (0<=r)=hasG G v/\Below w.heap.size w w':=by
 have HC:=hidB h
 have HB:Hid (Below w.heap.size w w):=Below.refl _ _
 clear h
 obtain⟨m,hmm⟩:∃ m,m=G.length:=⟨_,rfl⟩
 have HMM:=hidB hmm
 rw[<-hmm]at hm HC ⊢
 clear hmm
 go_enter Try.func146,Try.ntmps146
 go_wp2
 go_loopw [8] (fun v8 wr=>∃ i:Nat,i<=m/\v8=.int .i64 (i:Nat)/\Hid ((∀ k,k<i->(G.getD k 0:Int)≠v)/\Below w.heap.size w wr)) (fun v8 _=>m-(intOf v8).toNat)
 case atStart=>exact⟨0,Nat.zero_le _,rfl,⟨fun k hk=>absurd hk (Nat.not_lt_zero _),HB.out⟩⟩
 case round=>
  clear HB
  rename World=>W1
  obtain⟨i,hin,rfl,hp⟩:=hrel
  by_cases hil:i<m
  · have c0:=bcell hp.out.2 hbw (HC.out i hil)
    obtain⟨x,hx⟩:∃ x,G.getD i 0=x:=⟨_,rfl⟩
    have HX:=hidB hx
    rw[hx]at c0
    clear hx
    by_cases he:v=(x:Int)
    · have heq:(v==(x:Int))=true:=by simp[he]
      have HE:=hidB he
      clear he
      have HG:Hid (hasG G v=true):=(by
       unfold hasG
       rw[List.any_eq_true]
       refine⟨G.getD i 0,?_,by rw[HX.out,HE.out];simp⟩
       have hl:i<G.length:=by have:=HMM.out;omega
       rw[List.getD_eq_getElem?_getD,List.getElem?_eq_getElem hl]
       exact List.getElem_mem hl:hasG G v=true)
      go_wp2
      go_ret
      exact⟨i,rfl,by rw[HG.out];simp,hp.out.2⟩
    · have heq:(v==(x:Int))=false:=by simp[he]
      have HE:=hidB he
      clear he
      go_wp2
      go_roundw
      case rel=>exact⟨i+1,by omega,by go_num,⟨fun k hk=>by
       by_cases e:k=i
       · rw[e,HX.out];exact fun q=>HE.out q.symm
       · exact hp.out.1 k (by omega),hp.out.2⟩⟩
      case measure=>simp only[intOf];omega
  · obtain rfl:i=m:=by omega
    have HG:Hid (hasG G v=false):=(by
     unfold hasG
     rw[List.any_eq_false]
     intro y hy
     obtain⟨j,hj,rfl⟩:=List.getElem_of_mem hy
     have:=hp.out.1 j (by have:=HMM.out;omega)
     simpa[List.getD_eq_getElem?_getD,hj] using this:hasG G v=false)
    go_wp2
    go_ret
    exact⟨-1,rfl,by rw[HG.out];rfl,hp.out.2⟩
theorem QW9 (b off cap:Nat) (G:List Nat) (v:Int) (w:World) (hm:G.length<=1000) (hbw:b<w.heap.size) (h:∀ i,i<G.length->w.cell? ⟨b,off+i,none⟩=some (.int .i64 (G.getD i 0:Nat))):
    Calls Try.prog 133 #[.slice (some ⟨b,off,none⟩) G.length cap,.int .i64 v] w fun e w'=>e=.returned (.bool (hasG G v))/\Below w.heap.size w w':=by
 have HI:=hidB (indexZ_any b off cap G v w hm hbw h)
 clear h
 go_enter Try.func133,Try.ntmps133
 go_wp2_with (go_at_call 146;refine HI.out.mono ?_;rintro e9 w2 ⟨r,rfl,hr,hb2⟩;refine Hid.out ?_)
 refine Lib.hid ?_
 have HR:=hidB hr
 have HB2:=hidB hb2
 clear hr hb2
 go_wp2
 go_ret
 exact⟨QX8 HR.out.symm,HB2.out⟩
def NumAt (w:World) (gV g N:Nat) (M:List Nat):Prop:=w.heap[gV]?=some (.cells #[.slice (some ⟨g,0,none⟩) N N] 46 (0,0))/\g<w.heap.size/\∀ i,i<N->w.cell? ⟨g,i,none⟩=some (.int .i64 (M.getD i 0:Nat))
theorem NumAt.on {B:Nat} {w w':World} {gV g N:Nat} {M:List Nat} (h:NumAt w gV g N M) (hb:Below B w w') (l1:gV<B) (l2:g<B):NumAt w' gV g N M:=
 ⟨(hb.block _ l1).trans h.1,Nat.lt_of_lt_of_le h.2.1 hb.size,fun i hi=>bcell hb l2 (h.2.2 i hi)⟩
theorem withoutNum_any (s x gV g N:Nat) (M:List Nat) (w:World) (hx:x<N) (hA:NumAt w gV g N M):
    Calls Try.prog 134 #[.int .i64 (s:Nat),.int .i64 (x:Nat),.pointer (some ⟨gV,0,none⟩)] w fun e w'=>e=.returned (.int .i64 (M.getD x 0:Nat))/\Below w.heap.size w w':=by
 have c0:=QQ0 (i:=0) hA.1 rfl
 have l0:gV<w.heap.size:=(Array.getElem?_eq_some_iff.1 hA.1).1
 have l1:=hA.2.1
 have c1:=hA.2.2 x hx
 clear hA
 go_enter Try.func134,Try.ntmps134
 go_wp2
 go_ret
 exact⟨rfl,Below.refl _ _⟩
theorem renumbered_num (x:Cr) (gV gN N:Nat) (M:List Nat) (w:World) (h1:∀ k,k<4->0<=x.arc k/\x.arc k<(N:Int)) (hX:NumAt w gV gN N M):
    Calls Try.prog 100 #[.agg #[.int .i64 x.a,.int .i64 x.b,.int .i64 x.c,.int .i64 x.d,.bool x.plus],.func (.func 134) #[] #[.pointer (some ⟨gV,0,none⟩)]] w fun e w'=>e=.returned (.agg #[.int .i64 (M.getD x.a.toNat 0:Nat),.int .i64 (M.getD x.b.toNat 0:Nat),.int .i64 (M.getD x.c.toNat 0:Nat),.int .i64 (M.getD x.d.toNat 0:Nat),.bool x.plus])/\Below w.heap.size w w':=by
 have HX:=hidB hX
 have H1:=hidB h1
 have l1:gV<w.heap.size:=(Array.getElem?_eq_some_iff.1 hX.1).1
 have l2:=hX.2.1
 clear h1 hX
 obtain⟨w0,hw0⟩:∃ w0,w0=((w.alloc (.cells #[.int .i64 x.a,.int .i64 x.b,.int .i64 x.c,.int .i64 x.d,.bool x.plus] 71)).alloc (.cells #[.int .i64 0,.int .i64 0,.int .i64 0,.int .i64 0,.bool false] 71)).alloc (.cells #[.int .i64 0,.int .i64 0,.int .i64 0,.int .i64 0] 116):=⟨_,rfl⟩
 have HW0:=hidB hw0
 have hs0:w0.heap.size=w.heap.size+3:=by rw[hw0];simp
 have HB0:=hidB (show Below w.heap.size w w0 by rw[hw0];exact QV1 _ _ _ _)
 have HT0:=hidB (show w0.heap[w.heap.size]?=some (.cells #[.int .i64 x.a,.int .i64 x.b,.int .i64 x.c,.int .i64 x.d,.bool x.plus] 71 (0,0)) by rw[hw0];exact alloc_old (alloc_old (alloc_at rfl)))
 have HT1:=hidB (show w0.heap[w.heap.size+1]?=some (.cells #[.int .i64 0,.int .i64 0,.int .i64 0,.int .i64 0,.bool false] 71 (0,0)) by rw[hw0];exact alloc_old (alloc_at (by simp)))
 obtain⟨g,hg⟩:∃ g:Nat->Int,g=fun k=>((M.getD (x.arc k).toNat 0:Nat):Int):=⟨_,rfl⟩
 have HG:Hid (∀ k,((M.getD (x.arc k).toNat 0:Nat):Int)=g k):=fun k=>by rw[hg]
 have HT2:=hidB (show w0.heap[w.heap.size+1+1]?=some (.cells (QW7 (numTo g 0)) 116 (0,0)) by rw[hw0,numTo_zero];exact alloc_at (by simp))
 have G0:((M.getD x.a.toNat 0:Nat):Int)=g 0:=by rw[hg];rfl
 have G1:((M.getD x.b.toNat 0:Nat):Int)=g 1:=by rw[hg];rfl
 have G2:((M.getD x.c.toNat 0:Nat):Int)=g 2:=by rw[hg];rfl
 have G3:((M.getD x.d.toNat 0:Nat):Int)=g 3:=by rw[hg];rfl
 rw[G0,G1,G2,G3]
 clear hw0 hg G0 G1 G2 G3
 go_enter Try.func100,Try.ntmps100
 go_wp2_with (go_at_call 75;rw[<-HW0.out];refine(arcs_any x _).mono ?_;rintro e9 w1 ⟨rfl,hb1⟩;refine Hid.out ?_)
 refine Lib.hid ?_
 have HB1:=hidB (HB0.out.trans (hb1.mono (by omega)))
 have hs1:=hb1.size
 have HA1:=hidB ((hb1.block _ (by omega)).trans HT2.out)
 have HC1:=hidB ((hb1.block _ (by omega)).trans HT0.out)
 have HR1:=hidB ((hb1.block _ (by omega)).trans HT1.out)
 clear hb1
 go_wp2
 go_loopw [10] (fun v10 wr=>∃ k:Nat,k<=4/\v10=.int .i64 (k:Nat)/\Hid (wr.heap[w.heap.size+1+1]?=some (.cells (QW7 (numTo g k)) 116 (0,0)))/\Below (w.heap.size+1+1) w1 wr) (fun v10 _=>4-(intOf v10).toNat)
 case atStart=>exact⟨0,Nat.zero_le _,rfl,HA1.out,Below.refl _ _⟩
 case round=>
  rename World=>W1
  obtain⟨k,hk,rfl,hA,hb⟩:=hrel
  have hsz:=hb.size
  by_cases hkl:k<4
  · have hix:=index_arr x k hkl
    have HBX:=hidB (HX.out.on (HB1.out.trans (hb.mono (by omega))) l1 l2)
    obtain⟨y,hy⟩:∃ y:Nat,x.arc k=(y:Int):=⟨(x.arc k).toNat,by have:=(H1.out k hkl).1;omega⟩
    have hyN:y<N:=by have:=(H1.out k hkl).2;omega
    have HGK:=hidB (show((M.getD y 0:Nat):Int)=g k by rw[<-HG.out k,hy];rfl)
    have HN:=hidB ((numTo_next g k hkl).symm)
    rw[hy]at hix
    clear hy
    go_wp2_with (go_at_call 134;refine(withoutNum_any k y gV gN N M _ hyN HBX.out).mono ?_;rw[HGK.out];rintro e9 w2 ⟨rfl,hb2⟩;refine Hid.out ?_)
    refine Lib.hid ?_
    have HB2:=hidB hb2
    have hs2:=hb2.size
    have hA2:w2.heap[w.heap.size+1+1]?=some (.cells (QW7 (numTo g k)) 116 (0,0)):=(hb2.block _ (by omega)).trans hA.out
    have HA2:=hidB hA2
    have e0:w2.cell? ⟨w.heap.size+1+1,k,none⟩=some (.int .i64 ((numTo g k).getD k 0)):=QQ0 hA2 (intArr_get _ k (by rw[numTo_len];exact hkl))
    have z0:=QQ2 (i:=k) hA2
    have hlt:w.heap.size+1+1<w2.heap.size:=by omega
    generalize (numTo g k).getD k 0=u at e0
    clear hb2 hA2
    go_wp2
    go_roundw
    case rel=>exact⟨k+1,by omega,by go_num,(by rw[HN.out,<-intArr_set];exact QQ6 HA2.out:(w2.setCell ⟨w.heap.size+1+1,k,none⟩ (.int .i64 (g k))).heap[w.heap.size+1+1]?=some (.cells (QW7 (numTo g (k+1))) 116 (0,0))),(hb.trans (HB2.out.mono (by omega))).grown (QQ7 w2 (w.heap.size+1+1) k (.int .i64 (g k))) (by omega) (fun q hq=>by have:=Option.some.inj hq;omega)⟩
    case measure=>simp only[intOf];omega
  · obtain rfl:k=4:=by omega
    have hA4:=hA.out
    rw[numTo_four]at hA4
    have hC:=(hb.block _ (by omega)).trans HC1.out
    have hR:=(hb.block _ (by omega)).trans HR1.out
    have HR:=hidB hR
    have a0:=QQ0 (i:=0) hA4 rfl
    have a1:=QQ0 (i:=1) hA4 rfl
    have a2:=QQ0 (i:=2) hA4 rfl
    have a3:=QQ0 (i:=3) hA4 rfl
    have a4:=QQ0 (i:=4) hC rfl
    have hlt:w.heap.size+1+1<W1.heap.size:=by omega
    have HBW:=hidB (HB1.out.trans (hb.mono (by omega)))
    clear hA4 hC hR hA hb
    go_wp2_with (go_at_call 122;refine(crossOf_any ⟨(g 0),(g 1),(g 2),(g 3),x.plus⟩ _).mono ?_;rintro e9 w4 ⟨rfl,hb4⟩;refine Hid.out ?_)
    refine Lib.hid ?_
    have HR4:=hidB ((hb4.block _ (by omega)).trans HR.out)
    have HB4:=hidB (HBW.out.trans (hb4.mono (by omega)))
    have hs4:=hb4.size
    clear hb4 a0 a1 a2 a3 a4
    have r0:=QQ0 (i:=0) HR4.out rfl
    have r1:=QQ0 (i:=1) HR4.out rfl
    have r2:=QQ0 (i:=2) HR4.out rfl
    have r3:=QQ0 (i:=3) HR4.out rfl
    have r4:=QQ0 (i:=4) HR4.out rfl
    have f0:=QQ2 (i:=0) HR4.out
    have f1:=QQ2 (i:=1) HR4.out
    have f2:=QQ2 (i:=2) HR4.out
    have f3:=QQ2 (i:=3) HR4.out
    have f4:=QQ2 (i:=4) HR4.out
    go_wp2
    have hX:=QQ6 (i:=4) (u:=.bool x.plus) (QQ6 (i:=3) (u:=.int .i64 (g 3)) (QQ6 (i:=2) (u:=.int .i64 (g 2)) (QQ6 (i:=1) (u:=.int .i64 (g 1)) (QQ6 (i:=0) (u:=.int .i64 (g 0)) HR4.out))))
    have x0:=QQ0 (i:=0) (v:=.int .i64 (g 0)) hX rfl
    have x1:=QQ0 (i:=1) (v:=.int .i64 (g 1)) hX rfl
    have x2:=QQ0 (i:=2) (v:=.int .i64 (g 2)) hX rfl
    have x3:=QQ0 (i:=3) (v:=.int .i64 (g 3)) hX rfl
    have x4:=QQ0 (i:=4) (v:=.bool x.plus) hX rfl
    refine bodyPost_ret (v:=.agg #[.int .i64 (g 0),.int .i64 (g 1),.int .i64 (g 2),.int .i64 (g 3),.bool x.plus]) (by simp[results,Try.results100,go_sem,x0,x1,x2,x3,x4]) rfl ⟨rfl,?_⟩
    have hst:∀ (W:World) (u:Value) (i:Nat),Below w.heap.size w W->Below w.heap.size w (W.setCell ⟨w.heap.size+1,i,none⟩ u):=fun W u i h=>h.grown (QQ7 W (w.heap.size+1) i u) h.size (fun q hq=>by have:=Option.some.inj hq;omega)
    exact hst _ _ _ (hst _ _ _ (hst _ _ _ (hst _ _ _ (hst _ _ _ HB4.out))))
end Go.Proofs.Ytagaajlbkfkaiaa
/- Moves: the face along a dart, as the dart's iterates. -/
namespace Go.Proofs.Ytagaajlbkfkaiaa
theorem mod_next {i L:Nat} (hL:0<L):(i+1)%L=if i%L+1=L then 0 else i%L+1:=by
 have h:=Nat.mod_lt i hL
 rw[Nat.add_mod]
 by_cases h1:L=1
 · subst h1
   simp[Nat.mod_one]
 · rw[Nat.mod_eq_of_lt (show 1<L by omega)]
   by_cases e:i%L+1=L
   · rw[if_pos e,e,Nat.mod_self]
   · rw[if_neg e,Nat.mod_eq_of_lt (by omega)]
theorem face_orbit {C:List Cr} {loops:Int} (hm:mayD C loops=true) (u:Nat) (h1:1<=u) (h2:u<=4*C.length):
    ∃ (g:Nat->Nat) (p:Nat),g 0=u/\(∀ r,g (r+1)=fd C (g r))/\(∀ r,1<=g r/\g r<=4*C.length)/\0<p/\g p=u/\(∀ r,0<r->r<p->g r≠u)/\
     ∀ v,1<=v->v<=4*C.length->v≠u->(fo C u=fo C v↔∃ r,0<r/\r<p/\g r=v):=by
 have hi:=fo_lt (C:=C) u h1 h2
 have hu:u∈(QQ3 C).getD (fo C u) []:=(pt_mem (QJ2 (fd C) (4*C.length) u h1 h2) hi).2 rfl
 have hmem:∀ v,1<=v->v<=4*C.length->(v∈(QQ3 C).getD (fo C u) []↔fo C u=fo C v):=fun v a b=>by
  have h:=pt_mem (L:=QQ3 C) (QJ2 (fd C) (4*C.length) v a b) hi
  exact⟨fun e=>(h.1 e).symm,fun e=>h.2 e.symm⟩
 obtain⟨l,hl⟩:∃ l,(QQ3 C).getD (fo C u) []=l:=⟨_,rfl⟩
 have hin:l∈QQ3 C:=by
  rw[<-hl,List.getD_eq_getElem?_getD,List.getElem?_eq_getElem hi]
  exact List.getElem_mem hi
 rw[hl]at hu hmem
 have hc:=(QV2 (QZ0 hm) (fun a b p q r s t=>fd_inj hm a b p q r s t) (4*C.length) (Nat.le_refl _)).2.2 l hin
 have hcnt:∀ y,l.count y<=1:=fun y=>by
  by_cases hy:y∈l
  · have hr:=(QV3 (QZ0 hm) (4*C.length) (Nat.le_refl _) l hin).2.2 y hy
    have h3:(QQ3 C).flatten.count y=1:=QJ2 (fd C) (4*C.length) y hr.1 hr.2
    have h4:l.count y<=(QQ3 C).flatten.count y:=(List.sublist_flatten_of_mem hin).count_le y
    omega
  · rw[List.count_eq_zero_of_not_mem hy]
    omega
 obtain⟨i0,hi0,e0⟩:=mem_atZ hu
 have hL:0<l.length:=by omega
 have g0:(fun r=>l.getD ((i0+r)%l.length) 0) 0=u:=by
  show l.getD ((i0+0)%l.length) 0=u
  rw[Nat.add_zero,Nat.mod_eq_of_lt hi0,e0]
 have gs:∀ r,(fun r=>l.getD ((i0+r)%l.length) 0) (r+1)=fd C ((fun r=>l.getD ((i0+r)%l.length) 0) r):=fun r=>by
  show l.getD ((i0+(r+1))%l.length) 0=fd C (l.getD ((i0+r)%l.length) 0)
  rw[<-Nat.add_assoc,mod_next hL]
  have hlt:=Nat.mod_lt (i0+r) hL
  by_cases e:(i0+r)%l.length+1=l.length
  · rw[if_pos e,<-hc.2,show l.length-1=(i0+r)%l.length by omega]
  · rw[if_neg e]
    exact hc.1 _ (by omega)
 refine⟨fun r=>l.getD ((i0+r)%l.length) 0,l.length,g0,gs,?_,hL,?_,?_,?_⟩
 · intro r
   induction r with
   |zero=>rw[g0];exact⟨h1,h2⟩
   |succ r ih=>rw[gs r];exact QZ0 hm _ ih.1 ih.2
 · show l.getD ((i0+l.length)%l.length) 0=u
   rw[Nat.add_mod_right,Nat.mod_eq_of_lt hi0,e0]
 · intro r hr0 hrp
   show l.getD ((i0+r)%l.length) 0≠u
   have hlt:=Nat.mod_lt (i0+r) hL
   have hne:(i0+r)%l.length≠i0:=by
    by_cases e:i0+r<l.length
    · rw[Nat.mod_eq_of_lt e];omega
    · rw[Nat.mod_eq_sub_mod (by omega),Nat.mod_eq_of_lt (by omega)];omega
   rw[<-e0]
   rcases Nat.lt_or_gt_of_ne hne with h|h
   · exact at_ne hcnt h hi0
   · exact fun e=>at_ne hcnt h hlt e.symm
 · intro v a b hvu
   rw[<-hmem v a b]
   constructor
   · intro hv
     obtain⟨j,hj,ej⟩:=mem_atZ hv
     have hji:j≠i0:=fun e=>hvu (by rw[<-ej,e,e0])
     by_cases e:i0<j
     · refine⟨j-i0,by omega,by omega,?_⟩
       show l.getD ((i0+(j-i0))%l.length) 0=v
       rw[show i0+(j-i0)=j by omega,Nat.mod_eq_of_lt hj,ej]
     · refine⟨j+l.length-i0,by omega,by omega,?_⟩
       show l.getD ((i0+(j+l.length-i0))%l.length) 0=v
       rw[show i0+(j+l.length-i0)=j+l.length by omega,Nat.add_mod_right,Nat.mod_eq_of_lt hj,ej]
   · rintro⟨r,-,-,er⟩
     rw[<-er]
     exact at_mem (Nat.mod_lt _ hL)
end Go.Proofs.Ytagaajlbkfkaiaa
/- Parts that run the other way round; the walk of ref.within. -/
namespace Go.Proofs.Ytagaajlbkfkaiaa
open Go.RowKit
def wi (l:List Nat) (z:Int):Bool:=l.any fun y=>decide ((y:Int)=z)
end Go.Proofs.Ytagaajlbkfkaiaa
/- Plain mathematics: the walks along a renaming begin each at the lowest of its ring: there are as many as rings. -/
namespace Go.Proofs.Ytagaajlbkfkaiaa
def up0 (f:Nat->Nat) (x:Nat):Nat:=if x=0 then 0 else f x
theorem QX2 (f:Nat->Nat) {x:Nat} (h:1<=x):up0 f x=f x:=by unfold up0;rw[if_neg (by omega)]
theorem bij_up0 {f:Nat->Nat} {n:Nat} (hf:∀ a,1<=a->a<=n->1<=f a/\f a<=n) (hi:∀ a b,1<=a->a<=n->1<=b->b<=n->f a=f b->a=b):Bij (up0 f) (n+1):=by
 refine⟨fun x hx=>?_,fun x y hx hy e=>?_⟩
 · by_cases h:x=0
   · rw[h];exact Nat.succ_pos n
   · rw[QX2 f (by omega)];have:=hf x (by omega) (by omega);omega
 · by_cases h:x=0
   · by_cases g:y=0
     · omega
     · rw[h,QX2 f (show 1<=y by omega)]at e
       have:=hf y (by omega) (by omega)
       have e0:up0 f 0=0:=rfl
       omega
   · by_cases g:y=0
     · rw[g,QX2 f (show 1<=x by omega)]at e
       have:=hf x (by omega) (by omega)
       have e0:up0 f 0=0:=rfl
       omega
     · rw[QX2 f (show 1<=x by omega),QX2 f (show 1<=y by omega)]at e
       exact hi x y (by omega) (by omega) (by omega) (by omega) e
theorem walkF_head (f:Nat->Nat):∀ (m:Nat) (seen:List Bool) (x z:Nat) (acc:List Nat),(walkF f m seen x (z::acc)).1.getD 0 0=z/\(walkF f m seen x (z::acc)).1≠[]:=by
 intro m
 induction m with
 |zero=>intro seen x z acc;exact⟨rfl,by simp[walkF]⟩
 |succ m ih=>
  intro seen x z acc
  simp only[walkF]
  split
  · exact⟨rfl,by simp⟩
  · exact ih _ _ z (acc++[x])
theorem walkF_new (f:Nat->Nat) (m:Nat) (seen:List Bool) (x:Nat) (h:un seen x=1):(walkF f (m+1) seen x []).1.getD 0 0=x/\(walkF f (m+1) seen x []).1≠[]:=by
 have h1:¬ seen.getD x true=true:=fun q=>by unfold un at h;rw[if_pos q]at h;omega
 simp only[walkF]
 rw[if_neg h1]
 exact walkF_head f m _ _ x []
theorem un_seen {seen:List Bool} {x:Nat} (h:un seen x=0):seen.getD x true=true:=by
 refine Classical.byContradiction fun q=>?_
 unfold un at h
 rw[if_neg q]at h
 omega
theorem seen_in {f:Nat->Nat} {n a y:Nat} (h1:1<=y) (h2:y<=n):un (QQ9 f n a).2 y=0↔∃ l,l∈(QQ9 f n a).1/\y∈l:=by
 have h:=walksTo_one f n a y h1 h2
 have hc:1<=(QQ9 f n a).1.flatten.count y↔∃ l,l∈(QQ9 f n a).1/\y∈l:=by rw[List.one_le_count_iff,List.mem_flatten]
 rw[<-hc]
 omega
theorem zero_apart {f:Nat->Nat} {n:Nat} (hf:∀ a,1<=a->a<=n->1<=f a/\f a<=n) {x:Nat} (hx:1<=x):¬ Con (eds (up0 f) (n+1)) x 0:=fun hc=>by
 have:=hc (fun z=>1<=z) (closed_eds.2 fun i hi=>by
  by_cases h:i=0
  · subst h;exact Iff.rfl
  · rw[QX2 f (by omega)]
    have:=(hf i (by omega) (by omega)).1
    exact⟨fun _=>this,fun _=>by omega⟩) hx
 exact absurd this (by decide)
theorem seen_closed {f:Nat->Nat} {n:Nat} (hf:∀ a,1<=a->a<=n->1<=f a/\f a<=n) (hi:∀ a b,1<=a->a<=n->1<=b->b<=n->f a=f b->a=b) (a:Nat) (ha:a<=n):Closed (eds (up0 f) (n+1)) fun z=>1<=z/\un (QQ9 f n a).2 z=0:=by
 obtain⟨r1,r2,-⟩:=QV2 hf hi a ha
 refine closed_eds.2 fun i hin=>?_
 by_cases h:i=0
 · subst h;exact Iff.rfl
 · rw[QX2 f (by omega)]
   have hfi:=hf i (by omega) (by omega)
   constructor
   · rintro⟨h1,h2⟩
     obtain⟨l,hl,hy⟩:=(seen_in h1 (by omega)).1 h2
     exact⟨hfi.1,(seen_in hfi.1 hfi.2).2 ⟨l,hl,r1 l hl i hy⟩⟩
   · rintro⟨-,h2⟩
     exact⟨by omega,r2 i (by omega) (by omega) h2⟩
theorem ring_con {f:Nat->Nat} {n:Nat} {l:List Nat} (hm:∀ y,y∈l->1<=y/\y<=n) (hc:∀ i,i+1<l.length->l.getD (i+1) 0=f (l.getD i 0)):∀ i,i<l.length->Con (eds (up0 f) (n+1)) (l.getD 0 0) (l.getD i 0):=by
 intro i
 induction i with
 |zero=>intro _;exact Con.refl _ _
 |succ i ih=>
  intro hi
  have hb:=hm _ (at_mem (l:=l) (i:=i) (by omega))
  have h1:=con_f (f:=up0 f) (M:=n+1) (x:=l.getD i 0) (by omega)
  rw[QX2 f hb.1,<-hc i hi]at h1
  exact(ih (by omega)).trans h1
theorem heads_roots {f:Nat->Nat} {n:Nat} (hf:∀ a,1<=a->a<=n->1<=f a/\f a<=n) (hi:∀ a b,1<=a->a<=n->1<=b->b<=n->f a=f b->a=b):∀ a,a<=n->
    (∀ l,l∈(QQ9 f n a).1->1<=l.getD 0 0/\l.getD 0 0<=a)/\
    ∀ Q:Nat->Bool,Q 0=false->(QQ9 f n a).1.countP (fun l=>Q (l.getD 0 0))=rq (cyW (up0 f) (n+1)) Q (a+1):=by
 have hB:=bij_up0 hf hi
 have hW:=QV7 hB.lt
 intro a
 induction a with
 |zero=>
  intro _
  refine⟨fun l hl=>absurd hl (by simp[QQ9]),fun Q q0=>?_⟩
  simp[QQ9,rq,q0]
 |succ a ih=>
  intro ha
  obtain⟨i1,i2⟩:=ih (by omega)
  have hcl:=seen_closed hf hi a (by omega)
  have hin:=QV3 hf a (by omega)
  obtain⟨-,-,r3⟩:=QV2 hf hi a (by omega)
  by_cases hs:un (QQ9 f n a).2 (a+1)=0
  · have e:QQ9 f n (a+1)=QQ9 f n a:=by
      simp only[QQ9]
      rw[walkF_seen (un_seen hs)]
      rfl
    rw[e]
    refine⟨fun l hl=>⟨(i1 l hl).1,by have:=(i1 l hl).2;omega⟩,fun Q q0=>?_⟩
    rw[i2 Q q0]
    have hnr:(cyW (up0 f) (n+1)).getD (a+1) 0≠a+1:=fun q=>by
     obtain⟨l,hl,hy⟩:=(seen_in (by omega) ha).1 hs
     obtain⟨i,hil,ei⟩:=mem_atZ hy
     have hc:=ring_con (f:=f) (n:=n) (hin l hl).2.2 (r3 l hl).1 i hil
     rw[ei]at hc
     have:=(hW.2 (a+1) (by omega)).2 _ hc.symm
     have:=(i1 l hl).2
     omega
    show _=rq (cyW (up0 f) (n+1)) Q (a+1)+(if(cyW (up0 f) (n+1)).getD (a+1) 0=a+1/\Q (a+1)=true then 1 else 0)
    rw[if_neg fun q=>hnr q.1]
    rfl
  · have hs1:un (QQ9 f n a).2 (a+1)=1:=by have:=un_le (QQ9 f n a).2 (a+1);omega
    obtain⟨hh,hne⟩:=walkF_new f n (QQ9 f n a).2 (a+1) hs1
    have e:(QQ9 f n (a+1)).1=(QQ9 f n a).1++[(walkF f (n+1) (QQ9 f n a).2 (a+1) []).1]:=by
     simp only[QQ9]
     rw[if_neg hne]
    rw[e]
    refine⟨fun l hl=>?_,fun Q q0=>?_⟩
    · rcases List.mem_append.1 hl with h|h
      · exact⟨(i1 l h).1,by have:=(i1 l h).2;omega⟩
      · rw[List.mem_singleton.1 h,hh];omega
    · have hr:(cyW (up0 f) (n+1)).getD (a+1) 0=a+1:=by
        refine Classical.byContradiction fun q=>?_
        have hle:=hW.le (v:=a+1) (by omega)
        have hcn:=(hW.2 (a+1) (by omega)).1
        generalize hu:(cyW (up0 f) (n+1)).getD (a+1) 0=u at q hle hcn
        by_cases h0:u=0
        · rw[h0]at hcn
          exact zero_apart hf (by omega) hcn
        · have:=hcn.symm _ hcl ⟨by omega,walksTo_seen f n a u (by omega) (by omega)⟩
          exact hs this.2
      rw[List.countP_append,i2 Q q0]
      show _=rq (cyW (up0 f) (n+1)) Q (a+1)+(if(cyW (up0 f) (n+1)).getD (a+1) 0=a+1/\Q (a+1)=true then 1 else 0)
      rw[List.countP_singleton,hh]
      by_cases hq:Q (a+1)=true
      · rw[if_pos hq,if_pos ⟨hr,hq⟩]
      · rw[if_neg hq,if_neg fun q=>hq q.2]
theorem walks_cyN {f:Nat->Nat} {n:Nat} (hf:∀ a,1<=a->a<=n->1<=f a/\f a<=n) (hi:∀ a b,1<=a->a<=n->1<=b->b<=n->f a=f b->a=b) (Q:Nat->Bool) (q0:Q 0=false):(QQ9 f n n).1.countP (fun l=>Q (l.getD 0 0))=cyN (up0 f) (n+1) Q:=(heads_roots hf hi n (Nat.le_refl _)).2 Q q0
end Go.Proofs.Ytagaajlbkfkaiaa
/- Which of two codes is less; the walk of ref.lessCode. -/
namespace Go.Proofs.Ytagaajlbkfkaiaa
open Go.RowKit
end Go.Proofs.Ytagaajlbkfkaiaa
/- Which of two tellings is less: the walks of cmp.Compare, slices.Compare and canon.compare. -/
namespace Go.Proofs.Ytagaajlbkfkaiaa
open Go.RowKit
set_option maxHeartbeats 2000000
set_option maxRecDepth 100000
def cmpI (x y:Int):Int:=if x<y then -1 else if y<x then 1 else 0
def lexC:List Int->List Int->Int
 |[],[]=>0
 |[],_::_ => -1
 |_::_,[]=>1
 |x::s,y::t=>if x=y then lexC s t else cmpI x y
def cmpT (p q:List Nat×List Int):Int:=if p.1.length=q.1.length then lexC p.2 q.2 else cmpI p.1.length q.1.length
theorem isNaN_any (x:Int) (w:World):Calls Try.prog 135 #[.int .i64 x] w fun e w'=>e=.returned (.bool false)/\w'=w:=by
 go_enter Try.func135,Try.ntmps135
 go_wp2
 go_ret
 exact⟨by simp,rfl⟩
theorem cmpI_any (x y:Int) (w:World):Calls Try.prog 128 #[.int .i64 x,.int .i64 y] w fun e w'=>e=.returned (.int .i64 (cmpI x y))/\w'=w:=by
 go_enter Try.func128,Try.ntmps128
 go_wp2_with (go_at_call 135;refine(isNaN_any _ _).mono ?_;rintro e w' ⟨rfl,hw⟩;rw[hw])
 all_goals(go_ret;refine⟨?_,rfl⟩;unfold cmpI;(repeat' split)<;>first|rfl|(exfalso;omega))
theorem cmpI_zero {x y:Int}:cmpI x y=0↔x=y:=by
 unfold cmpI
 constructor
 · intro h;split at h
   · omega
   · split at h<;>omega
 · intro h;subst h;simp
theorem cmpI_lt {x y:Int}:cmpI x y<0↔x<y:=by
 unfold cmpI
 constructor
 · intro h;split at h
   · assumption
   · split at h<;>omega
 · intro h;rw[if_pos h];decide
theorem lexC_drop (a b:List Int) (i:Nat) (h:∀ q,q<i->a.getD q 0=b.getD q 0) (ha:i<=a.length) (hb:i<=b.length):lexC a b=lexC (a.drop i) (b.drop i):=by
 induction i with
 |zero=>rfl
 |succ i ih=>
  rw[ih (fun q hq=>h q (by omega)) (by omega) (by omega)]
  have e:=h i (by omega)
  rw[List.getD_eq_getElem?_getD,List.getD_eq_getElem?_getD,List.getElem?_eq_getElem (show i<a.length by omega),List.getElem?_eq_getElem (show i<b.length by omega)]at e
  rw[List.drop_eq_getElem_cons (show i<a.length by omega),List.drop_eq_getElem_cons (show i<b.length by omega),lexC,if_pos (by simpa using e)]
theorem lexC_at (a b:List Int) (i:Nat) (h:∀ q,q<i->a.getD q 0=b.getD q 0) (ha:i<a.length) (hb:i<b.length) (hne:a.getD i 0≠b.getD i 0):lexC a b=cmpI (a.getD i 0) (b.getD i 0):=by
 rw[lexC_drop a b i h (by omega) (by omega)]
 rw[List.getD_eq_getElem?_getD,List.getD_eq_getElem?_getD,List.getElem?_eq_getElem ha,List.getElem?_eq_getElem hb]at hne ⊢
 rw[List.drop_eq_getElem_cons ha,List.drop_eq_getElem_cons hb,lexC,if_neg (by simpa using hne)]
 rfl
theorem compareInts_any (v1 v2:Value) (l m:List Int) (w:World) (hl:l.length<=1000) (hm:m.length<=1000) (h1:Slots w w.heap.size v1 (intsV l)) (h2:Slots w w.heap.size v2 (intsV m)):
    Calls Try.prog 129 #[v1,v2] w fun e w'=>e=.returned (.int .i64 (lexC l m))/\w'=w:=by
 obtain⟨a1,c1,rfl,g1⟩:=h1
 obtain⟨a2,c2,rfl,g2⟩:=h2
 rw[intsV_len]at g1 g2
 rw[intsV_len,intsV_len]
 have HG1:=hidB g1
 have HG2:=hidB g2
 have HV:Hid (∀ l:List Int,∀ i,i<l.length->(intsV l).getD i (.bool false)=.int .i64 (l.getD i 0)):=fun l i hi=>by rw[List.getD_eq_getElem?_getD,QV5 l i hi];rfl
 clear g1 g2
 obtain⟨r,hr⟩:∃ r,lexC l m=r:=⟨_,rfl⟩
 have HLC:=hidB hr
 rw[hr]
 clear hr
 go_enter Try.func129,Try.ntmps129
 go_wp2
 go_loopw [11] (fun v11 wr=>∃ k:Nat,k<=l.length/\k<=m.length/\v11=.int .i64 k/\Hid (∀ q,q<k->l.getD q 0=m.getD q 0)/\wr=w) (fun v11 _=>l.length-(intOf v11).toNat)
 case atStart=>exact⟨0,Nat.zero_le _,Nat.zero_le _,rfl,(fun q hq=>absurd hq (Nat.not_lt_zero _):∀ q,q<0->l.getD q 0=m.getD q 0),rfl⟩
 case round=>
  obtain⟨k,hk,hkm,rfl,heq,rfl⟩:=hrel
  by_cases hlt:k<l.length
  · obtain⟨b1,o1,rfl,hb1,q1⟩:=HG1.out (by omega)
    have p1:=q1 k hlt
    rw[HV.out l k hlt]at p1
    have hki:(k:Int)<(l.length:Int):=by omega
    by_cases hlm:k<m.length
    · obtain⟨b2,o2,rfl,hb2,q2⟩:=HG2.out (by omega)
      have p2:=q2 k hlm
      rw[HV.out m k hlm]at p2
      obtain⟨x,hx⟩:∃ x,l.getD k 0=x:=⟨_,rfl⟩
      obtain⟨y,hy⟩:∃ y,m.getD k 0=y:=⟨_,rfl⟩
      have HX:=hidB hx
      have HY:=hidB hy
      rw[hx]at p1
      rw[hy]at p2
      have hdm:decide ((m.length:Int)<=(k:Int))=false:=decide_eq_false (by omega)
      have hdm2:decide (m.length<=k)=false:=decide_eq_false (by omega)
      clear q1 q2 hx hy
      by_cases hxy:x=y
      · subst hxy
        have HC : Hid (cmpI x x = 0) := cmpI_zero.2 rfl
        go_wp2_with (go_at_call 128;refine(cmpI_any x x _).mono ?_;rw[HC.out];rintro e w' ⟨rfl,hw⟩;rw[hw])
        go_roundw
        case rel=>
         refine⟨k+1,by omega,by omega,by go_num,(fun q hq=>?_:∀ q,q<k+1->l.getD q 0=m.getD q 0),by first|rfl|trivial⟩
         by_cases e:q=k
         · subst e;rw[HX.out,HY.out]
         · exact heq.out q (by omega)
        case measure=>simp[intOf];omega
      · have hne:cmpI x y≠0:=fun h=>hxy (cmpI_zero.1 h)
        obtain⟨z,hgz⟩:∃ z,cmpI x y=z:=⟨_,rfl⟩
        obtain rfl:r=z:=by
         rw[<-HLC.out,lexC_at l m k heq.out hlt hlm (by rw[HX.out,HY.out];exact hxy),HX.out,HY.out,hgz]
        have HZ:=hidB hgz
        rw[hgz]at hne
        have hz:(r != 0)=true:=by simp[hne]
        have hz2:(r==0)=false:=beq_eq_false_iff_ne.2 hne
        clear hgz
        go_wp2_with (go_at_call 128;refine(cmpI_any x y _).mono ?_;rw[HZ.out];rintro e w' ⟨rfl,hw⟩;rw[hw])
        go_ret
        exact⟨rfl,rfl⟩
    · obtain rfl:k=m.length:=by omega
      have hdm:decide ((m.length:Int)<=(m.length:Int))=true:=decide_eq_true (by omega)
      obtain rfl:r=1:=by
       rw[<-HLC.out,lexC_drop l m m.length heq.out (by omega) (Nat.le_refl _),List.drop_length,List.drop_eq_getElem_cons hlt]
       rfl
      go_wp2
      go_ret
      exact⟨rfl,rfl⟩
  · obtain rfl:k=l.length:=by omega
    by_cases hlm:l.length<m.length
    · have hdm:decide ((l.length:Int)<(m.length:Int))=true:=decide_eq_true (by omega)
      obtain rfl:r = -1:=by
       rw[<-HLC.out,lexC_drop l m l.length heq.out (Nat.le_refl _) hkm,List.drop_length,List.drop_eq_getElem_cons hlm]
       rfl
      go_wp2
      go_ret
      exact⟨rfl,rfl⟩
    · have hll:m.length=l.length:=by omega
      have hdm:decide ((l.length:Int)<(m.length:Int))=false:=decide_eq_false (by omega)
      obtain rfl:r=0:=by
       rw[<-HLC.out,lexC_drop l m l.length heq.out (Nat.le_refl _) hkm,List.drop_length,List.drop_eq_nil_of_le (by omega)]
       rfl
      clear hll
      go_wp2
      go_ret
      exact⟨rfl,rfl⟩
theorem compareT_any (vo1 vc1 vo2 vc2:Value) (p q:List Nat×List Int) (w:World) (hp:p.2.length<=1000) (hq:q.2.length<=1000) (h1:∃ a c,vo1=.slice a p.1.length c) (h2:∃ a c,vo2=.slice a q.1.length c) (h3:Slots w w.heap.size vc1 (intsV p.2)) (h4:Slots w w.heap.size vc2 (intsV q.2)):
    Calls Try.prog 120 #[.agg #[vo1,vc1],.agg #[vo2,vc2]] w fun e w'=>e=.returned (.int .i64 (cmpT p q))/\w'=(w.alloc (.cells #[vo1,vc1] 148)).alloc (.cells #[vo2,vc2] 148):=by
 obtain⟨a1,c1,rfl⟩:=h1
 obtain⟨a2,c2,rfl⟩:=h2
 have hcT:cmpT p q=if p.1.length=q.1.length then lexC p.2 q.2 else cmpI p.1.length q.1.length:=rfl
 obtain⟨w0,hw0⟩:∃ w0,w0=(w.alloc (.cells #[.slice a1 p.1.length c1,vc1] 148)).alloc (.cells #[.slice a2 q.1.length c2,vc2] 148):=⟨_,rfl⟩
 have HW0:Hid (w0=(w.alloc (.cells #[.slice a1 p.1.length c1,vc1] 148)).alloc (.cells #[.slice a2 q.1.length c2,vc2] 148)):=hw0
 have hs0:w0.heap.size=w.heap.size+2:=by rw[hw0];simp
 have hB0:Below w.heap.size w w0:=by rw[hw0];exact QJ3 _ _ _
 have g0:w0.heap[w.heap.size]?=some (.cells #[.slice a1 p.1.length c1,vc1] 148 (0,0)):=by rw[hw0];exact alloc_old (alloc_at rfl)
 have g1:w0.heap[w.heap.size+1]?=some (.cells #[.slice a2 q.1.length c2,vc2] 148 (0,0)):=by rw[hw0];exact alloc_at (by simp)
 have t0:w0.cell? ⟨w.heap.size,0,none⟩=some (.slice a1 p.1.length c1):=QQ0 g0 rfl
 have t1:w0.cell? ⟨w.heap.size,1,none⟩=some vc1:=QQ0 g0 rfl
 have t2:w0.cell? ⟨w.heap.size+1,0,none⟩=some (.slice a2 q.1.length c2):=QQ0 g1 rfl
 have t3:w0.cell? ⟨w.heap.size+1,1,none⟩=some vc2:=QQ0 g1 rfl
 have HS:Hid (Slots w0 w0.heap.size vc1 (intsV p.2)/\Slots w0 w0.heap.size vc2 (intsV q.2)):=⟨(h3.on hB0).mono hB0.size,(h4.on hB0).mono hB0.size⟩
 obtain⟨a3,c3,rfl,-⟩:=h3
 obtain⟨a4,c4,rfl,-⟩:=h4
 clear hw0 hB0 g0 g1
 simp only[intsV_len]at t1 t3 HS HW0 ⊢
 have l0:w.heap.size<w0.heap.size:=by omega
 have l1:w.heap.size+1<w0.heap.size:=by omega
 by_cases hpq:p.1.length=q.1.length
 · rw[if_pos hpq]at hcT
   rw[hcT]
   have HZ:Hid (cmpI (p.1.length:Int) (q.1.length:Int)=0):=cmpI_zero.2 (by omega)
   clear hcT hpq
   have HCI:Hid (∀ W,Slots W W.heap.size (.slice a3 p.2.length c3) (intsV p.2)->Slots W W.heap.size (.slice a4 q.2.length c4) (intsV q.2)->Calls Try.prog 129 #[.slice a3 p.2.length c3,.slice a4 q.2.length c4] W fun e w'=>e=.returned (.int .i64 (lexC p.2 q.2))/\w'=W):=fun W h1 h2=>compareInts_any _ _ p.2 q.2 W hp hq h1 h2
   generalize lexC p.2 q.2=r at HCI ⊢
   go_enter Try.func120,Try.ntmps120
   go_wp2_with (first|(go_at_call 128;rw[<-HW0.out];refine(cmpI_any _ _ _).mono ?_;rw[HZ.out];rintro e w' ⟨rfl,hw⟩;rw[hw])|(go_at_call 129;refine(HCI.out _ HS.out.1 HS.out.2).mono ?_;rintro e w' ⟨rfl,hw⟩;rw[hw]))
   go_ret
   exact⟨rfl,HW0.out⟩
 · rw[if_neg hpq]at hcT
   rw[hcT]
   have hne:cmpI (p.1.length:Int) (q.1.length:Int)≠0:=fun h=>hpq (by have:=cmpI_zero.1 h;omega)
   obtain⟨z,hz0⟩:∃ z,cmpI (p.1.length:Int) (q.1.length:Int)=z:=⟨_,rfl⟩
   have HZ:Hid (cmpI (p.1.length:Int) (q.1.length:Int)=z):=hz0
   rw[hz0]at hne ⊢
   have hz:(z != 0)=true:=by simp[hne]
   have hz2:(z==0)=false:=beq_eq_false_iff_ne.2 hne
   clear hcT hpq hz0
   go_enter Try.func120,Try.ntmps120
   go_wp2_with (first|(go_at_call 128;rw[<-HW0.out];refine(cmpI_any _ _ _).mono ?_;rw[HZ.out];rintro e w' ⟨rfl,hw⟩;rw[hw]))
   go_ret
   exact⟨rfl,HW0.out⟩
end Go.Proofs.Ytagaajlbkfkaiaa
