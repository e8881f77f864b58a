/- Several texts of the proof, one behind the other. -/
import Derived.Test.YtagaajlbkfkaiaaBaseP
import Derived.Laws.AppendOwnNone
import Derived.Test.YtagaajlbkfkaiaaQueP
import Derived.ProofKit
import Derived.OpenShut
import Derived.SizedLaws
import Derived.Deep.Slices
import Derived.Test.YtagaajlbkfkaiaaMV2P
/- Slices as they are handed in, and copies of them. -/
namespace Go.Proofs.Ytagaajlbkfkaiaa
open Go.RowKit
def InAt (w:World) (B size:Nat) (v:Value) (n:Nat) (xs:List Value):Prop:=
 (v=.slice none 0 0/\n=0)∨(∃ ad cap,v=.slice (some ad) 0 cap/\n=0)∨∃ b off cap,v=.slice (some ⟨b,off,none⟩) n cap/\b<B/\∀ j,j<n*size->w.cell? ⟨b,off+j,none⟩=xs[j]?
theorem InAt.on {w w':World} {B size n:Nat} {v:Value} {xs:List Value} (h:InAt w B size v n xs) (hb:Below B w w'):InAt w' B size v n xs:=by
 rcases h with h|h|⟨b,off,cap,rfl,hlt,hc⟩
 · exact Or.inl h
 · exact Or.inr (Or.inl h)
 · exact Or.inr (Or.inr ⟨b,off,cap,rfl,hlt,fun j hj=>bcell hb hlt (hc j hj)⟩)
theorem own_in {w:World} {B e size n:Nat} {v:Value} {xs:List Value} (h:w.ownsRow B e size v n xs):InAt w w.heap.size size v n xs:=by
 have h0:=h
 rcases h.2 with⟨rfl,h1⟩|⟨g,cap,cur,rfl,_,_,_⟩
 · exact Or.inl ⟨rfl,h1⟩
 · exact Or.inr (Or.inr ⟨g,0,cap,rfl,(h0.lt g rfl).2,fun j hj=>by rw[Nat.zero_add];exact h0.cellAt j hj⟩)
theorem wpList_append_copy {P:Program} {w:World} {ops:Array Oper} {rest:List Oper} {o:Oper} {a:Act} {Q:Exit->Act->World->Prop} (hgd:o.guard=none) (s x:Operand) (t:TypeId)
    (ho:o.op=.call { callee:=.builtin .append,args:=#[s,x],argTypes:=#[t,t] })
    (base:Nat) (e:TypeId) (i:TypeInfo) (z:Value) (size bytes:Nat) (ht:P.underlying t=some (.slice e)) (hi:P.info? e=some i) (hz:i.zero=some z)
    (hsize:i.size=size) (hby:i.bytes=bytes) (hzs:z.cells.size=size) (hsz:0<size) (hs:a.eval s=.slice none 0 0)
    (v:Value) (B n:Nat) (xs:List Value) (hx:a.eval x=v) (hin:InAt w B size v n xs) (hl:xs.length=n*size) (h1:∀ u∈xs,u.oneCell'=true)
    (h63:n<=maxLen) (hbytes:n*bytes<=140737488355328) (hbase:base<=w.heap.size)
    (h:∀ v' w',w'.ownsRow base e size v' n xs->w.grownBy w' none->wpList P ops Q rest (a.put o.dst v') w'):wpList P ops Q (o::rest) a w:=by
 rcases hin with⟨rfl,rfl⟩|⟨ad,cap,rfl,rfl⟩|⟨b,off,cap,rfl,hlt,hc⟩
 · obtain rfl:xs=[]:=List.length_eq_zero_iff.1 (by omega)
   exact wpList_append_own_none hgd s x t ho base e i size ht hi _ 0 [] hs (World.ownsRow_nil _ _ _ _) hx (h _ _ (World.ownsRow_nil _ _ _ _) (World.grownBy.refl _ _))
 · obtain rfl:xs=[]:=List.length_eq_zero_iff.1 (by omega)
   exact wpList_append_own _ hgd s x t ho base e i z size bytes ht hi hz hsize hby hzs hsz _ 0 [] hs (World.ownsRow_nil _ _ _ _) ad 0 cap [] hx (by simp) (fun j u h=>by simp at h) (fun u h=>by simp at h) (by simp[maxLen]) (by simp) hbase
    fun v' w' g1 g2 _=>h v' w' g1 g2
 · refine wpList_append_own _ hgd s x t ho base e i z size bytes ht hi hz hsize hby hzs hsz _ 0 [] hs (World.ownsRow_nil _ _ _ _) ⟨b,off,none⟩ n cap xs hx hl (fun j u hj=>?_) h1 (by omega) (by rw[Nat.zero_add];exact hbytes) hbase
     fun v' w' g1 g2 _=>h v' w' (by rw[Nat.zero_add,List.nil_append]at g1;exact g1) g2
   have hlt2:j<xs.length:=(List.getElem?_eq_some_iff.1 hj).1
   have:=hc j (by omega)
   rw[hj]at this
   unfold Addr.add
   split
   · rename_i h0;subst h0;exact this
   · exact this
theorem InAt.up {w w':World} {size n:Nat} {v:Value} {xs:List Value} (h:InAt w w.heap.size size v n xs) (hb:Below w.heap.size w w'):InAt w' w'.heap.size size v n xs:=by
 rcases h.on hb with h|h|⟨b,off,cap,e,hlt,hc⟩
 · exact Or.inl h
 · exact Or.inr (Or.inl h)
 · exact Or.inr (Or.inr ⟨b,off,cap,e,Nat.lt_of_lt_of_le hlt hb.size,hc⟩)
end Go.Proofs.Ytagaajlbkfkaiaa
/- Diagrams that come in: what an argument's datum says of the crossings in memory. -/
namespace Go.Proofs.Ytagaajlbkfkaiaa
open Go.ChangeShapes Go.WideShapes Go.ChangeAt Go.RowKit
theorem own0:ownKnob Try.prog.godebug=none:=by kernel_rfl
theorem laidOut0:laidOutB Try.prog=true:=by kernel_rfl
theorem cellsCross:Try.prog.cellsOf 71=5:=by kernel_rfl
theorem cellsInt:Try.prog.cellsOf 3=1:=by kernel_rfl
theorem cellsBool:Try.prog.cellsOf 4=1:=by kernel_rfl
theorem cellsCrossL:Try.prog.cellsOf 22=1:=by kernel_rfl
theorem cellsDiagram:Try.prog.cellsOf 24=2:=by kernel_rfl
theorem bytesCross:Try.prog.bytesOf 71=40:=by kernel_rfl
theorem wf_i64 {z:Int} (h:(Lit.int .i64 z).wf=true) : -9223372036854775808<=z/\z<=9223372036854775807:=by
 have hr:(decide (IntKind.i64.min<=z)&&decide (z<=IntKind.i64.max))=true:=h
 rw[Bool.and_eq_true,decide_eq_true_eq,decide_eq_true_eq]at hr
 exact hr
set_option maxRecDepth 100000 in
theorem cross_trodC {H:Type} {enc:TypeId×Value->H} {W:World} {cs:List Value} {x:DataW H×List MemPlace} {n:Nat} (h:DataW.trod enc Try.prog W 0 (fun _=>true) true n 71 cs=some x):
    ∃ c:Cr,cs=[.int .i64 c.a,.int .i64 c.b,.int .i64 c.c,.int .i64 c.d,.bool c.plus]:=by
 obtain⟨xs,k,hk,hxy,hlen,hxl,hf⟩:=DataW.trod_struct Try.underlying71 h
 rw[cellsCross]at hlen
 match cs,hlen,xs,hxl with
 |[v0,v1,v2,v3,v4],_,[y0,y1,y2,y3,y4],_=>
  have g0:=hf 0 _ rfl
  have g1:=hf 1 _ rfl
  have g2:=hf 2 _ rfl
  have g3:=hf 3 _ rfl
  have g4:=hf 4 _ rfl
  simp[cellsInt,cellsBool]at g0 g1 g2 g3 g4
  obtain⟨z0,e0,-,-⟩:=DataW.trod_int Try.underlying3 g0
  obtain⟨z1,e1,-,-⟩:=DataW.trod_int Try.underlying3 g1
  obtain⟨z2,e2,-,-⟩:=DataW.trod_int Try.underlying3 g2
  obtain⟨z3,e3,-,-⟩:=DataW.trod_int Try.underlying3 g3
  obtain⟨z4,e4,-⟩:=DataW.trod_bool Try.underlying4 g4
  simp only[List.cons.injEq,and_true]at e0 e1 e2 e3 e4
  exact⟨⟨z0,z1,z2,z3,z4⟩,by rw[e0,e1,e2,e3,e4]⟩
set_option maxRecDepth 100000 in
theorem cross_trod {H:Type} {enc:TypeId×Value->H} {W:World} {v:Value} {d:DataW H} {p:List MemPlace} {fuel:Nat} (hf:DataW.trod enc Try.prog W 0 (fun _=>true) true fuel 22 [v]=some (d,p)) (hw:∀ n∈d.weights Try.prog 22,n<=reachBytes):
    ∃ C:List Cr,CrsW W W.heap.size v C/\C.length*40<=140737488355328:=by
 rcases Deep.open_slice Try.underlying22 hf with⟨hcs,hx⟩|⟨a,len,cap,m,n,D,Pl,hcs,hb,hl,hm,hmm,hx,hall⟩
 · simp only[List.cons.injEq,and_true]at hcs
   subst hcs
   exact⟨[],Or.inl ⟨rfl,rfl⟩,by simp⟩
 · simp only[List.cons.injEq,and_true]at hcs
   subst hcs
   simp only[if_true]at hmm
   subst hmm
   have hd:=congrArg Prod.fst hx
   simp only at hd
   rw[hd]at hw
   have hsz2:(len+(m-len))*40<=reachBytes:=by
    have:=hw ((len+(m-len))*40) (by simp[DataW.weights,Try.underlying22,bytesCross])
    exact this
   have hlen:len*40<=140737488355328:=by
    have:=reachBytes_lt
    omega
   rw[cellsCross]at hall
   have each:∀ i,i<m->∃ c:Cr,W.cells? 0 (a.add (i*5)) 5=some [.int .i64 c.a,.int .i64 c.b,.int .i64 c.c,.int .i64 c.d,.bool c.plus]:=by
    intro i hi
    obtain⟨cs',h1,h2⟩:=hall i hi
    obtain⟨c,rfl⟩:=cross_trodC h2
    exact⟨c,h1⟩
   haveI:Inhabited Cr:=⟨Cr.none⟩
   obtain⟨q,hq⟩:=Deep.choose_lt each
   refine⟨(List.range len).map q,?_,by simpa using hlen⟩
   rcases Nat.eq_zero_or_pos len with h0|h0
   · subst h0
     exact Or.inr (Or.inl ⟨a,m,rfl,by simp⟩)
   · have cell:∀ i,i<m->∀ j,j<5->W.cell? (a.add (i*5+j))=[Value.int .i64 (q i).a,.int .i64 (q i).b,.int .i64 (q i).c,.int .i64 (q i).d,.bool (q i).plus][j]?:=by
       intro i hi j hj
       obtain⟨_,_,hcell⟩:=World.cells?_some (hq i hi)
       have e:=hcell j hj
       rw[Deep.add_add]at e
       exact e
     have hc:=cell 0 (by omega) 0 (by omega)
     obtain⟨b,off,spot⟩:=a
     have hspot:spot=none:=by simpa[Addr.add] using World.cell?_spot hc
     subst hspot
     refine Or.inr (Or.inr ⟨b,off,m,by simp,?_,?_⟩)
     · have hc2:W.cell? ⟨b,off,none⟩=some (.int .i64 (q 0).a):=by simpa[Addr.add] using hc
       rcases Nat.lt_or_ge b W.heap.size with h|h
       · exact h
       · simp[World.cell?,Array.getElem?_eq_none h]at hc2
     · intro i hi
       have hi':i<len:=by simpa using hi
       have g:((List.range len).map q).getD i Cr.none=q i:=by simp[List.getD,hi']
       rw[g]
       have k0:=cell i (by omega) 0 (by omega)
       have k1:=cell i (by omega) 1 (by omega)
       have k2:=cell i (by omega) 2 (by omega)
       have k3:=cell i (by omega) 3 (by omega)
       have k4:=cell i (by omega) 4 (by omega)
       rw[Addr.add_lit]at k0 k1 k2 k3 k4
       simp only[Nat.add_zero]at k0
       refine⟨k0,?_,?_,?_,?_⟩
       · rw[Nat.add_assoc];exact k1
       · rw[Nat.add_assoc];exact k2
       · rw[Nat.add_assoc];exact k3
       · rw[Nat.add_assoc];exact k4
set_option maxRecDepth 100000 in
theorem diag_open {H:Type} {enc:TypeId×Value->H} {W:World} {v:Value} {d:DataW H} {p:List MemPlace} {base:Nat} (hv:Value.okWide Try.prog W .any base 24 v)
    (h:DataW.Trod enc Try.prog W 0 (fun _=>true) true 24 v d p) (hw:∀ n∈d.weights Try.prog 24,n<=reachBytes):
    ∃ v0 C loops,v=.agg #[v0,.int .i64 loops]/\CrsW W W.heap.size v0 C/\C.length*40<=140737488355328 /\ -9223372036854775808<=loops/\loops<=9223372036854775807:=by
 obtain⟨cs,rfl,hsz⟩:=okWide_struct Try.underlying24 hv
 rw[cellsDiagram]at hsz
 obtain⟨c0,c1,rfl⟩:∃ c0 c1,cs=#[c0,c1]:=by
  obtain⟨l⟩:=cs
  match l,hsz with
  |[c0,c1],_=>exact⟨c0,c1,rfl⟩
 obtain⟨fuel,hf⟩:=h
 obtain⟨y0,y1,n,hx,-,h0,h1⟩:=trod_struct2 Try.underlying24 hf
 simp only[Prod.mk.injEq]at hx
 have g0:DataW.trod enc Try.prog W 0 (fun _=>true) true n 22 [c0]=some y0:=by simpa[Value.cells,cellsCrossL] using h0
 have g1:DataW.trod enc Try.prog W 0 (fun _=>true) true n 3 [c1]=some y1:=by simpa[Value.cells,cellsInt] using h1
 obtain⟨z,e1,-,hz⟩:=DataW.trod_int Try.underlying3 g1
 simp only[List.cons.injEq,and_true]at e1
 subst e1
 obtain⟨C,hC,hl⟩:=cross_trod (d:=y0.1) (p:=y0.2) g0 (fun k hk=>hw k (by
  rw[hx.1]
  simp only[DataW.weights,Try.underlying24]
  exact List.mem_append_left _ hk))
 exact⟨c0,C,z,rfl,hC,hl,wf_i64 hz⟩
end Go.Proofs.Ytagaajlbkfkaiaa
/- Moves that come in. -/
namespace Go.Proofs.Ytagaajlbkfkaiaa
open Go.ChangeShapes Go.WideShapes Go.ChangeAt Go.RowKit
theorem cellsMove:Try.prog.cellsOf 28=8:=by kernel_rfl
theorem cellsDartM:Try.prog.cellsOf 26=2:=by kernel_rfl
theorem dart_trodM {H:Type} {enc:TypeId×Value->H} {W:World} {c0 c1:Value} {x:DataW H×List MemPlace} {n:Nat} (h:DataW.trod enc Try.prog W 0 (fun _=>true) true n 26 [c0,c1]=some x):∃ (z:Int) (b:Bool),c0=.int .i64 z/\c1=.bool b:=by
 obtain⟨y0,y1,k,-,-,h0,h1⟩:=trod_struct2 Try.underlying26 h
 have g0:DataW.trod enc Try.prog W 0 (fun _=>true) true k 3 [c0]=some y0:=by simpa[Value.cells,cellsInt] using h0
 have g1:DataW.trod enc Try.prog W 0 (fun _=>true) true k 4 [c1]=some y1:=by simpa[Value.cells,cellsBool,cellsInt] using h1
 obtain⟨z,e0,-,-⟩:=DataW.trod_int Try.underlying3 g0
 obtain⟨b,e1,-⟩:=DataW.trod_bool Try.underlying4 g1
 simp only[List.cons.injEq,and_true]at e0 e1
 exact⟨z,b,e0,e1⟩
set_option maxRecDepth 100000 in
theorem move_open {H:Type} {enc:TypeId×Value->H} {W:World} {v:Value} {d:DataW H} {p:List MemPlace} {base:Nat} (hv:Value.okWide Try.prog W .any base 28 v)
    (h:DataW.Trod enc Try.prog W 0 (fun _=>true) true 28 v d p):
    ∃ (k x y ua:Int) (ub:Bool) (va:Int) (vb ov:Bool),v=.agg #[.int .i64 k,.int .i64 x,.int .i64 y,.int .i64 ua,.bool ub,.int .i64 va,.bool vb,.bool ov]:=by
 obtain⟨cs,rfl,hsz⟩:=okWide_struct Try.underlying28 hv
 rw[cellsMove]at hsz
 obtain⟨c0,c1,c2,c3,c4,c5,c6,c7,rfl⟩:∃ c0 c1 c2 c3 c4 c5 c6 c7,cs=#[c0,c1,c2,c3,c4,c5,c6,c7]:=by
  obtain⟨l⟩:=cs
  match l,hsz with
  |[c0,c1,c2,c3,c4,c5,c6,c7],_=>exact⟨c0,c1,c2,c3,c4,c5,c6,c7,rfl⟩
 obtain⟨fuel,hf⟩:=h
 obtain⟨xs,n,-,-,-,hxl,hg⟩:=DataW.trod_struct Try.underlying28 hf
 match xs,hxl with
 |[y0,y1,y2,y3,y4,y5],_=>
  have g0:=hg 0 _ rfl
  have g1:=hg 1 _ rfl
  have g2:=hg 2 _ rfl
  have g3:=hg 3 _ rfl
  have g4:=hg 4 _ rfl
  have g5:=hg 5 _ rfl
  simp[Value.cells,cellsInt,cellsBool,cellsDartM]at g0 g1 g2 g3 g4 g5
  obtain⟨z0,e0,-,-⟩:=DataW.trod_int Try.underlying3 g0
  obtain⟨z1,e1,-,-⟩:=DataW.trod_int Try.underlying3 g1
  obtain⟨z2,e2,-,-⟩:=DataW.trod_int Try.underlying3 g2
  obtain⟨z3,b3,e3,e4⟩:=dart_trodM g3
  obtain⟨z5,b5,e5,e6⟩:=dart_trodM g4
  obtain⟨b7,e7,-⟩:=DataW.trod_bool Try.underlying4 g5
  simp only[List.cons.injEq,and_true]at e0 e1 e2 e7
  exact⟨z0,z1,z2,z3,b3,z5,b5,b7,by rw[e0,e1,e2,e3,e4,e5,e6,e7]⟩
end Go.Proofs.Ytagaajlbkfkaiaa
/- Moves as cells, a copy of a row of moves, and rows of moves that come in. -/
namespace Go.Proofs.Ytagaajlbkfkaiaa
open Go.ChangeShapes Go.WideShapes Go.ChangeAt Go.RowKit
def Mo.cells (m:Mo):List Value:=[.int .i64 m.k,.int .i64 m.x,.int .i64 m.y,.int .i64 m.u,.bool m.ub,.int .i64 m.v,.bool m.vb,.bool m.ov]
def moCells (ms:List Mo):List Value:=ms.flatMap Mo.cells
theorem moCells_len:∀ ms:List Mo,(moCells ms).length=ms.length*8
 |[]=>rfl
 |m::ms=>by
  have h:=moCells_len ms
  unfold moCells at h ⊢
  rw[List.flatMap_cons,List.length_append,h]
  simp[Mo.cells]
  omega
theorem moCells_one (ms:List Mo):∀ u∈moCells ms,u.oneCell'=true:=by
 intro u hu
 obtain⟨m,-,h⟩:=List.mem_flatMap.1 hu
 simp only[Mo.cells,List.mem_cons,List.not_mem_nil,or_false]at h
 rcases h with rfl|rfl|rfl|rfl|rfl|rfl|rfl|rfl<;>rfl
theorem moCells_get:∀ (ms:List Mo) (i r:Nat),i<ms.length->r<8->(moCells ms)[i*8+r]?=(ms.getD i Mo.none).cells[r]?
 |[],i,r,hi,_=>absurd hi (Nat.not_lt_zero _)
 |m::ms,0,r,_,hr=>by
  unfold moCells
  rw[List.flatMap_cons,Nat.zero_mul,Nat.zero_add,List.getElem?_append_left (by simpa[Mo.cells] using hr)]
  rfl
 |m::ms,i+1,r,hi,hr=>by
  have h:=moCells_get ms i r (by simpa using hi) hr
  unfold moCells at h ⊢
  have hl:m.cells.length=8:=rfl
  rw[List.flatMap_cons,List.getElem?_append_right (by rw[hl];omega),hl,show(i+1)*8+r-8=i*8+r by omega,h]
  rfl
theorem InAt.mvs {w:World} {B:Nat} {v:Value} {ms:List Mo} (h:InAt w B 8 v ms.length (moCells ms)) (hn:ms.length<=maxLen):Mvs w B v ms:=by
 rcases h with⟨rfl,h0⟩|⟨ad,cap,rfl,h0⟩|⟨b,off,cap,rfl,hlt,hc⟩
 · exact⟨none,0,by rw[h0],hn,fun hp=>by omega⟩
 · exact⟨some ad,cap,by rw[h0],hn,fun hp=>by omega⟩
 · refine⟨_,cap,rfl,hn,fun _=>⟨b,off,rfl,hlt,fun i hi=>?_⟩⟩
   have g:∀ r,r<8->w.cell? ⟨b,off+i*8+r,none⟩=(ms.getD i Mo.none).cells[r]?:=fun r hr=>by
    rw[<-moCells_get ms i r hi hr,Nat.add_assoc]
    exact hc _ (by omega)
   exact⟨g 0 (by decide),g 1 (by decide),g 2 (by decide),g 3 (by decide),g 4 (by decide),g 5 (by decide),g 6 (by decide),g 7 (by decide)⟩
theorem infoMove:(Try.prog.info? 28).map (fun i=>(i.zero,i.size,i.bytes))=some (some (.agg #[.int .i64 0,.int .i64 0,.int .i64 0,.int .i64 0,.bool false,.int .i64 0,.bool false,.bool false]),8,64):=by kernel_rfl
theorem bytesMove:Try.prog.bytesOf 28=64:=by kernel_rfl
set_option maxRecDepth 100000 in
theorem move_trodC {H:Type} {enc:TypeId×Value->H} {W:World} {cs:List Value} {x:DataW H×List MemPlace} {n:Nat} (h:DataW.trod enc Try.prog W 0 (fun _=>true) true n 28 cs=some x):∃ m:Mo,cs=m.cells:=by
 obtain⟨xs,k,-,-,hlen,hxl,hg⟩:=DataW.trod_struct Try.underlying28 h
 rw[cellsMove]at hlen
 match cs,hlen,xs,hxl with
 |[c0,c1,c2,c3,c4,c5,c6,c7],_,[y0,y1,y2,y3,y4,y5],_=>
  have g0:=hg 0 _ rfl
  have g1:=hg 1 _ rfl
  have g2:=hg 2 _ rfl
  have g3:=hg 3 _ rfl
  have g4:=hg 4 _ rfl
  have g5:=hg 5 _ rfl
  simp[cellsInt,cellsBool,cellsDartM]at g0 g1 g2 g3 g4 g5
  obtain⟨z0,e0,-,-⟩:=DataW.trod_int Try.underlying3 g0
  obtain⟨z1,e1,-,-⟩:=DataW.trod_int Try.underlying3 g1
  obtain⟨z2,e2,-,-⟩:=DataW.trod_int Try.underlying3 g2
  obtain⟨z3,b3,e3,e4⟩:=dart_trodM g3
  obtain⟨z5,b5,e5,e6⟩:=dart_trodM g4
  obtain⟨b7,e7,-⟩:=DataW.trod_bool Try.underlying4 g5
  simp only[List.cons.injEq,and_true]at e0 e1 e2 e7
  exact⟨⟨z0,z1,z2,z3,b3,z5,b5,b7⟩,by rw[e0,e1,e2,e3,e4,e5,e6,e7];rfl⟩
set_option maxRecDepth 100000 in
theorem moves_trod {H:Type} {enc:TypeId×Value->H} {W:World} {v:Value} {d:DataW H} {p:List MemPlace} {fuel:Nat} (hf:DataW.trod enc Try.prog W 0 (fun _=>true) true fuel 35 [v]=some (d,p)) (hw:∀ n∈d.weights Try.prog 35,n<=reachBytes):
    ∃ ms:List Mo,InAt W W.heap.size 8 v ms.length (moCells ms)/\ms.length*64<=140737488355328:=by
 rcases Deep.open_slice Try.underlying35 hf with⟨hcs,hx⟩|⟨a,len,cap,m,n,D,Pl,hcs,hb,hl,hm,hmm,hx,hall⟩
 · simp only[List.cons.injEq,and_true]at hcs
   subst hcs
   exact⟨[],Or.inl ⟨rfl,rfl⟩,by simp⟩
 · simp only[List.cons.injEq,and_true]at hcs
   subst hcs
   simp only[if_true]at hmm
   subst hmm
   have hd:=congrArg Prod.fst hx
   simp only at hd
   rw[hd]at hw
   have hsz2:(len+(m-len))*64<=reachBytes:=by
    have:=hw ((len+(m-len))*64) (by simp[DataW.weights,Try.underlying35,bytesMove])
    exact this
   have hlen:len*64<=140737488355328:=by
    have:=reachBytes_lt
    omega
   rw[cellsMove]at hall
   have each:∀ i,i<m->∃ q:Mo,W.cells? 0 (a.add (i*8)) 8=some q.cells:=by
    intro i hi
    obtain⟨cs',h1,h2⟩:=hall i hi
    obtain⟨c,rfl⟩:=move_trodC h2
    exact⟨c,h1⟩
   haveI:Inhabited Mo:=⟨Mo.none⟩
   obtain⟨q,hq⟩:=Deep.choose_lt each
   refine⟨(List.range len).map q,?_,by simpa using hlen⟩
   rcases Nat.eq_zero_or_pos len with h0|h0
   · subst h0
     exact Or.inr (Or.inl ⟨a,m,rfl,by simp⟩)
   · have cell:∀ i,i<m->∀ j,j<8->W.cell? (a.add (i*8+j))=(q i).cells[j]?:=by
       intro i hi j hj
       obtain⟨_,_,hcell⟩:=World.cells?_some (hq i hi)
       have e:=hcell j hj
       rw[Deep.add_add]at e
       exact e
     have hc:=cell 0 (by omega) 0 (by omega)
     obtain⟨b,off,spot⟩:=a
     have hspot:spot=none:=by simpa[Addr.add] using World.cell?_spot hc
     subst hspot
     refine Or.inr (Or.inr ⟨b,off,m,by simp,?_,?_⟩)
     · have hc2:W.cell? ⟨b,off,none⟩=some (.int .i64 (q 0).k):=by simpa[Addr.add,Mo.cells] using hc
       rcases Nat.lt_or_ge b W.heap.size with h|h
       · exact h
       · simp[World.cell?,Array.getElem?_eq_none h]at hc2
     · intro j hj
       have hj2:j<len*8:=by simpa using hj
       obtain⟨i,r,hr,rfl⟩:∃ i r,r<8/\j=i*8+r:=⟨j / 8,j%8,by omega,by omega⟩
       have hi':i<len:=by omega
       have g:((List.range len).map q).getD i Mo.none=q i:=by simp[List.getD,hi']
       rw[moCells_get _ i r (by simpa using hi') hr,g]
       have k0:=cell i (by omega) r hr
       rw[Addr.add_lit]at k0
       exact k0
theorem InAt.sliceQ {w:World} {B size n:Nat} {v:Value} {xs:List Value} (h:InAt w B size v n xs):∃ a c,v=.slice a n c:=by
 rcases h with⟨rfl,rfl⟩|⟨ad,cap,rfl,rfl⟩|⟨b,off,cap,rfl,hlt,hc⟩
 · exact⟨none,0,rfl⟩
 · exact⟨some ad,cap,rfl⟩
 · exact⟨_,cap,rfl⟩
end Go.Proofs.Ytagaajlbkfkaiaa
