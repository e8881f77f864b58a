/- Several texts of the proof, one behind the other. -/
import Derived.Test.YtefooihnoajnlaaW6P
import Derived.Test.YtefooihnoajnlaaJ0P
import Derived.Test.YtefooihnoajnlaaH6P
import Derived.Lib.Hide
/- The walk of gauss.signs; rows of visits and of signs that are the same. -/
namespace Go.Proofs.Ytefooihnoajnlaa
open Go.RowKit
def VS (w:World) (v:Value) (V:List (Nat×Bool)):Prop:=∃ a cap,v=.slice a V.length cap/\(0<V.length->∃ b off,a=some ⟨b,off,none⟩/\b<w.heap.size/\∀ i,i<V.length->w.cell? ⟨b,off+i*2,none⟩=some (.int .i64 ((V.getD i (0,false)).1:Nat))/\w.cell? ⟨b,off+i*2+1,none⟩=some (.bool (V.getD i (0,false)).2))
def VsAt (w:World) (v:Value) (L:List (List (Nat×Bool))):Prop:=∃ ys:List Value,ys.length=L.length/\Slots w w.heap.size v ys/\∀ j,j<L.length->VS w (ys.getD j (.bool false)) (L.getD j [])
theorem VS.on {w w':World} {v:Value} {V:List (Nat×Bool)} (h:VS w v V) (hb:Below w.heap.size w w'):VS w' v V:=by
 obtain⟨a,cap,rfl,g⟩:=h
 refine⟨a,cap,rfl,fun hp=>?_⟩
 obtain⟨b,off,rfl,hlt,hc⟩:=g hp
 exact⟨b,off,rfl,Nat.lt_of_lt_of_le hlt hb.size,fun i hi=>⟨bcell hb hlt (hc i hi).1,bcell hb hlt (hc i hi).2⟩⟩
theorem VsAt.on {w w':World} {v:Value} {L:List (List (Nat×Bool))} (h:VsAt w v L) (hb:Below w.heap.size w w'):VsAt w' v L:=by
 obtain⟨ys,h1,h2,h3⟩:=h
 exact⟨ys,h1,(h2.on hb).mono hb.size,fun j hj=>(h3 j hj).on hb⟩
end Go.Proofs.Ytefooihnoajnlaa
/- Plain mathematics: which labels are left, and their numbers, place by place. -/
namespace Go.Proofs.Ytefooihnoajnlaa
theorem cntB_yes (P:Nat->Bool) (j:Nat) (h1:1<=j) (h:P j=true):cntB P (j+1)=cntB P j+1:=by simp only[cntB];rw[if_pos ⟨h1,h⟩]
theorem cntB_no (P:Nat->Bool) (j:Nat) (h:P j=false):cntB P (j+1)=cntB P j:=by simp only[cntB];rw[if_neg (fun z=>by rw[h]at z;cases z.2)];rfl
theorem cntB_one (P:Nat->Bool):cntB P 1=0:=by simp[cntB]
theorem reTo_next (C:List Cr) (G:List Nat) (h:Nat->Nat) (i:Nat):reTo C G h (i+1)=if i∈G then reTo C G h i else reTo C G h i++[reX h (C.getD i Cr.none)]:=by
 simp only[reTo]
 split<;>simp
end Go.Proofs.Ytefooihnoajnlaa
/- The walks of canon.mirrored, canon.Mirror and ref.MirrorOf. -/
namespace Go.Proofs.Ytefooihnoajnlaa
open Go.RowKit
def mirX (x:Cr):Cr:=if x.plus=true then⟨x.d,x.a,x.b,x.c,false⟩ else⟨x.b,x.c,x.d,x.a,true⟩
theorem take_map_next (f:Cr->Cr) (C:List Cr) (i:Nat) (h:i<C.length):(C.take (i+1)).map f=(C.take i).map f++[f (C.getD i Cr.none)]:=by
 have e2:C.take (i+1)=C.take i++[C.getD i Cr.none]:=by
  rw[List.take_add_one,List.getD_eq_getElem?_getD,List.getElem?_eq_getElem h]
  rfl
 rw[e2]
 simp
end Go.Proofs.Ytefooihnoajnlaa
/- Sums: the walks of Drawing.Has and of the closure that numbers arcs anew, and of drawing.Renumbered with it. -/
namespace Go.Proofs.Ytefooihnoajnlaa
open Go.RowKit
def Boxes (w:World) (x:Cr) (more cut other:Int) (pc px po pm:Nat):Prop:=(pc<w.heap.size/\px<w.heap.size/\po<w.heap.size/\pm<w.heap.size)/\w.cell? ⟨pc,0,none⟩=some (.int .i64 cut)/\w.cell? ⟨px,0,none⟩=some (.int .i64 x.a)/\w.cell? ⟨px,1,none⟩=some (.int .i64 x.b)/\w.cell? ⟨px,2,none⟩=some (.int .i64 x.c)/\w.cell? ⟨px,3,none⟩=some (.int .i64 x.d)/\w.cell? ⟨px,4,none⟩=some (.bool x.plus)/\w.cell? ⟨po,0,none⟩=some (.int .i64 other)/\w.cell? ⟨pm,0,none⟩=some (.int .i64 more)
theorem Boxes.kept {B:Nat} {w w':World} {x:Cr} {more cut other:Int} {pc px po pm:Nat} (h:Boxes w x more cut other pc px po pm) (hb:Below B w w') (l1:pc<B) (l2:px<B) (l3:po<B) (l4:pm<B):Boxes w' x more cut other pc px po pm:=by
 obtain⟨⟨a1,a2,a3,a4⟩,c0,c1,c2,c3,c4,c5,c6,c7⟩:=h
 have hs:=hb.size
 exact⟨⟨by omega,by omega,by omega,by omega⟩,bcell hb l1 c0,bcell hb l2 c1,bcell hb l2 c2,bcell hb l2 c3,bcell hb l2 c4,bcell hb l2 c5,bcell hb l3 c6,bcell hb l4 c7⟩
end Go.Proofs.Ytefooihnoajnlaa
