/- Several texts of the proof, one behind the other. -/
import Derived.Test.YtagaajlbkfkaiaaW2P
import Derived.Test.YtagaajlbkfkaiaaH7
import Derived.Test.YtagaajlbkfkaiaaH6P
import Derived.Test.YtagaajlbkfkaiaaBaseP
import Derived.Deep.RegionHeld3
/- The walks of ref.DiagramOf and gauss.Strands; rows that are the same. -/
namespace Go.Proofs.Ytagaajlbkfkaiaa
open Go.RowKit
set_option maxHeartbeats 2000000
set_option maxRecDepth 100000
def QQ4 (C:List Cr):List Value:=C.flatMap fun x=>[.int .i64 x.a,.int .i64 x.b,.int .i64 x.c,.int .i64 x.d,.bool x.plus]
theorem cells_get (C:List Cr) (i:Nat) (hi:i<C.length):(QQ4 C)[i*5]?=some (.int .i64 (C.getD i Cr.none).a)/\(QQ4 C)[i*5+1]?=some (.int .i64 (C.getD i Cr.none).b)/\(QQ4 C)[i*5+2]?=some (.int .i64 (C.getD i Cr.none).c)/\(QQ4 C)[i*5+3]?=some (.int .i64 (C.getD i Cr.none).d)/\(QQ4 C)[i*5+4]?=some (.bool (C.getD i Cr.none).plus):=by
 induction C generalizing i with
 |nil=>simp at hi
 |cons t l ih=>
  have e:QQ4 (t::l)=.int .i64 t.a::.int .i64 t.b::.int .i64 t.c::.int .i64 t.d::.bool t.plus::QQ4 l:=rfl
  cases i with
  |zero=>rw[e];exact⟨rfl,rfl,rfl,rfl,rfl⟩
  |succ i=>
   have:=ih i (by simpa using hi)
   have e1:(i+1)*5=i*5+1+1+1+1+1:=by omega
   rw[e,e1]
   exact this
theorem cells_one (C:List Cr):∀ u∈QQ4 C,u.oneCell'=true:=by
 intro u hu
 simp only[QQ4,List.mem_flatMap]at hu
 obtain⟨t,_,ht⟩:=hu
 simp at ht
 rcases ht with rfl|rfl|rfl|rfl|rfl<;>rfl
theorem crs_own {w:World} {B e:Nat} {v:Value} {C:List Cr} (h:w.ownsRow B e 5 v C.length (QQ4 C)) (hn:C.length<=maxLen):Crs w w.heap.size v C:=by
 have h0:=h
 rcases h.2 with⟨rfl,h1⟩|⟨g,cap,cur,rfl,_,_,_⟩
 · exact⟨none,0,by rw[h1],hn,fun hp=>by omega⟩
 · refine⟨some ⟨g,0,none⟩,cap,rfl,hn,fun _=>⟨g,0,rfl,(h0.lt g rfl).2,fun i hi=>?_⟩⟩
   have g0:=cells_get C i hi
   rw[Nat.zero_add]
   exact⟨(h0.cellAt (i*5) (by omega)).trans g0.1,(h0.cellAt (i*5+1) (by omega)).trans g0.2.1,(h0.cellAt (i*5+2) (by omega)).trans g0.2.2.1,(h0.cellAt (i*5+3) (by omega)).trans g0.2.2.2.1,(h0.cellAt (i*5+4) (by omega)).trans g0.2.2.2.2⟩
def CrsW (w:World) (B:Nat) (v:Value) (C:List Cr):Prop:=
 (v=.slice none 0 0/\C=[])∨(∃ ad cap,v=.slice (some ad) 0 cap/\C=[])∨∃ b off cap,v=.slice (some ⟨b,off,none⟩) C.length cap/\b<B/\CrossAt w b off C
theorem CrsW.crs {w:World} {B:Nat} {v:Value} {C:List Cr} (h:CrsW w B v C) (hn:C.length<=maxLen):Crs w B v C:=by
 rcases h with⟨rfl,rfl⟩|⟨ad,cap,rfl,rfl⟩|⟨b,off,cap,rfl,hlt,hC⟩
 · exact⟨none,0,rfl,hn,fun hp=>by simp at hp⟩
 · exact⟨some ad,cap,rfl,hn,fun hp=>by simp at hp⟩
 · exact⟨some ⟨b,off,none⟩,cap,rfl,hn,fun _=>⟨b,off,rfl,hlt,hC⟩⟩
theorem CrsW.up {w w':World} {v:Value} {C:List Cr} (h:CrsW w w.heap.size v C) (hb:Below w.heap.size w w'):CrsW w' w'.heap.size v C:=by
 rcases h with h|h|⟨b,off,cap,hv,hlt,hC⟩
 · exact Or.inl h
 · exact Or.inr (Or.inl h)
 · exact Or.inr (Or.inr ⟨b,off,cap,hv,Nat.lt_of_lt_of_le hlt hb.size,hC.on hb hlt⟩)
theorem infoCross:(Try.prog.info? 71).map (fun i=>(i.zero,i.size,i.bytes))=some (some (.agg #[.int .i64 0,.int .i64 0,.int .i64 0,.int .i64 0,.bool false]),5,40):=by kernel_rfl
theorem QV4 {w:World} {B e n g c:Nat} {l:List (Int×Int)} (h:w.ownsRow B e 2 (.slice (some ⟨g,0,none⟩) n c) n (flat l)) (hl:l.length=n):TermsAt w g 0 l:=by
 intro i hi
 have g0:=flat_get l i hi
 rw[Nat.zero_add]
 exact⟨(h.cellAt (i*2) (by omega)).trans g0.1,(h.cellAt (i*2+1) (by omega)).trans g0.2⟩
theorem Drawn.dr {w w':World} {a:Option Addr} {cap:Nat} {loops:Int} {C:List Cr} {D:Value} (h:Drawn w w' w.heap.size (.slice a C.length cap) loops C D) (hm:mayD C loops=true) (hb:Below w.heap.size w w') (hC:Crs w w.heap.size (.slice a C.length cap) C):
    ∃ gF cF gT cT,D=drV a cap C loops gF cF gT cT/\Dr w' a cap C gF gT:=by
 obtain⟨gF,cF,gT,cT,rfl,h1,h2⟩:=h.yes hm
 exact⟨gF,cF,gT,cT,rfl,hC.up hb,(h1.lt gF rfl).2,(h2.lt gT rfl).2,QV4 h1 (QX9 _ _ _ _),QV4 h2 (QX9 _ _ _ _)⟩
theorem strands_yes (v:Value) (C:List Cr) (loops:Int) (w:World) (hm:mayD C loops=true) (h:Crs w w.heap.size v C):
    Calls Try.prog 47 #[.agg #[v, .int .i64 loops]] w fun e w' => ∃ r, e = .returned (.tuple #[r, .int .i64 0]) ∧ NatsOwn w' w.heap.size r (walksM C) ∧ Below w.heap.size w w' := by
 have HC:=hidB h
 have HM:=hidB hm
 obtain⟨a,cap,rfl,hn,-⟩:=h
 have HB1 : Hid (Below w.heap.size w (w.alloc (.cells #[.slice a C.length cap, .int .i64 loops] 24))) := (Below.refl _ _).alloc (Nat.le_refl _) _
 go_enter Try.func47,Try.ntmps47
 go_wp2_with (go_at_call 50;refine(of_any _ C loops _ (HC.out.up HB1.out)).mono ?_;rw[hm];rintro e9 w2 ⟨d,rfl,hb2,hd⟩;obtain⟨gF,cF,gT,cT,rfl,hdr⟩:=hd.dr HM.out hb2 (HC.out.up HB1.out);refine Hid.out ?_)
 refine Lib.hid ?_
 have HDR:=hidB hdr
 unfold drV
 have HB2:=hidB (HB1.out.trans (hb2.mono HB1.out.size))
 have HBA : Hid (Below w2.heap.size w2 (w2.alloc (.cells #[.slice a C.length cap, .int .i64 loops, .slice (some ⟨gF, 0, none⟩) (2 * C.length + 1) cF, .slice (some ⟨gT, 0, none⟩) (2 * C.length + 1) cT] 61))) := (Below.refl _ _).alloc (Nat.le_refl _) _
 clear hb2 hd hdr hm
 go_wp2_with (go_at_call 72;refine(walks_any a cap C loops gF cF gT cT _ HM.out (HDR.out.on HBA.out)).mono ?_;rintro e9 w3 ⟨r,rfl,hr,hb3⟩;refine Hid.out ?_)
 refine Lib.hid ?_
 have HR:Hid (NatsOwn w3 w.heap.size r (walksM C)):=hr.low (by have:=HB2.out.size;simp;omega)
 have HB3:Hid (Below w.heap.size w w3):=(HB2.out.trans (HBA.out.mono HB2.out.size)).trans (hb3.mono (by have:=HB2.out.size;simp;omega))
 clear hr hb3
 go_wp2
 go_ret2
 exact⟨_,rfl,HR.out,HB3.out⟩
end Go.Proofs.Ytagaajlbkfkaiaa
/- The walks of Drawing.End, Drawing.Onward, way; ref.dartCode, ref.NextDart. -/
namespace Go.Proofs.Ytagaajlbkfkaiaa
open Go.RowKit
set_option maxHeartbeats 2000000
set_option maxRecDepth 100000
theorem Dr.endAt {w:World} {a:Option Addr} {cap:Nat} {C:List Cr} {gF gT:Nat} {loops:Int} (h:Dr w a cap C gF gT) (hm:mayD C loops=true) (x:Nat) (h1:1<=x) (h2:x<=2*C.length):
    w.cell? ⟨gT,x*2,none⟩=some (.int .i64 (enC C x true:Nat))/\w.cell? ⟨gT,x*2+1,none⟩=some (.int .i64 (enS C x true:Nat))/\w.cell? ⟨gF,x*2,none⟩=some (.int .i64 (enC C x false:Nat))/\w.cell? ⟨gF,x*2+1,none⟩=some (.int .i64 (enS C x false:Nat)):=by
 have hT:=h.to x (by rw[QX9];omega)
 have hF:=h.from_ x (by rw[QX9];omega)
 rw[ends_at C true C.length 0 x h1 h2,Nat.zero_add]at hT
 rw[ends_at C false C.length 0 x h1 h2,Nat.zero_add]at hF
 have e:endAh C x true C.length 0=endTo C x true C.length:=rfl
 have e2:endAh C x false C.length 0=endTo C x false C.length:=rfl
 rw[e,(QJ9 hm x true h1 h2).1]at hT
 rw[e2,(QJ9 hm x false h1 h2).1]at hF
 exact⟨hT.1,hT.2,hF.1,hF.2⟩
theorem end_any (a:Option Addr) (cap:Nat) (C:List Cr) (loops:Int) (gF cF gT cT:Nat) (x:Nat) (p:Bool) (w:World) (hm:mayD C loops=true) (h1:1<=x) (h2:x<=2*C.length) (hD:Dr w a cap C gF gT):
    Calls Try.prog 78 #[drV a cap C loops gF cF gT cT,.agg #[.int .i64 x,.bool p]] w fun e w'=>e=.returned (.agg #[.int .i64 (enC C x (!p):Nat),.int .i64 (enS C x (!p):Nat)])/\Below w.heap.size w w':=by
 unfold drV
 obtain⟨c0,c1,c2,c3⟩:=hD.endAt hm x h1 h2
 have l1:=hD.ltT
 have l2:=hD.ltF
 clear hD
 have hB3:Below w.heap.size w (((w.alloc (.cells #[.slice a C.length cap,.int .i64 loops,.slice (some ⟨gF,0,none⟩) (2*C.length+1) cF,.slice (some ⟨gT,0,none⟩) (2*C.length+1) cT] 61)).alloc (.cells #[.int .i64 x,.bool p] 26)).alloc (.cells #[.int .i64 0,.int .i64 0] 120)):=QV1 _ _ _ _
 have d0:=bcell hB3 l1 c0
 have d1:=bcell hB3 l1 c1
 have d2:=bcell hB3 l2 c2
 have d3:=bcell hB3 l2 c3
 clear hB3 c0 c1 c2 c3
 obtain⟨t0,ht0⟩:∃ t0,enC C x true=t0:=⟨_,rfl⟩
 obtain⟨t1,ht1⟩:∃ t1,enS C x true=t1:=⟨_,rfl⟩
 obtain⟨f0,hf0⟩:∃ f0,enC C x false=f0:=⟨_,rfl⟩
 obtain⟨f1,hf1⟩:∃ f1,enS C x false=f1:=⟨_,rfl⟩
 rw[ht0]at d0
 rw[ht1]at d1
 rw[hf0]at d2
 rw[hf1]at d3
 have hx:x<2*C.length+1:=by omega
 cases p with
 |true=>
  have hG:(((w.alloc (.cells #[.slice a C.length cap,.int .i64 loops,.slice (some ⟨gF,0,none⟩) (2*C.length+1) cF,.slice (some ⟨gT,0,none⟩) (2*C.length+1) cT] 61)).alloc (.cells #[.int .i64 x,.bool true] 26)).alloc (.cells #[.int .i64 f0,.int .i64 f1] 120)).heap[w.heap.size+1+1]?=some (.cells #[.int .i64 f0,.int .i64 f1] 120 (0,0)):=alloc_at (by simp)
  have x0:=QQ0 (i:=0) (v:=.int .i64 f0) hG rfl
  have x1:=QQ0 (i:=1) (v:=.int .i64 f1) hG rfl
  have HB : Hid (Below w.heap.size w (((w.alloc (.cells #[.slice a C.length cap, .int .i64 loops, .slice (some ⟨gF, 0, none⟩) (2 * C.length + 1) cF, .slice (some ⟨gT, 0, none⟩) (2 * C.length + 1) cT] 61)).alloc (.cells #[.int .i64 x, .bool true] 26)).alloc (.cells #[.int .i64 f0, .int .i64 f1] 120))) := QV1 _ _ _ _
  clear hG
  go_enter Try.func78,Try.ntmps78
  go_wp2
  exact bodyPost_ret (v:=.agg #[.int .i64 f0,.int .i64 f1]) (by simp[results,Try.results78,go_sem,x0,x1]) rfl ⟨by simp[hf0,hf1],HB.out⟩
 |false=>
  have hG:(((w.alloc (.cells #[.slice a C.length cap,.int .i64 loops,.slice (some ⟨gF,0,none⟩) (2*C.length+1) cF,.slice (some ⟨gT,0,none⟩) (2*C.length+1) cT] 61)).alloc (.cells #[.int .i64 x,.bool false] 26)).alloc (.cells #[.int .i64 t0,.int .i64 t1] 120)).heap[w.heap.size+1+1]?=some (.cells #[.int .i64 t0,.int .i64 t1] 120 (0,0)):=alloc_at (by simp)
  have x0:=QQ0 (i:=0) (v:=.int .i64 t0) hG rfl
  have x1:=QQ0 (i:=1) (v:=.int .i64 t1) hG rfl
  have HB : Hid (Below w.heap.size w (((w.alloc (.cells #[.slice a C.length cap, .int .i64 loops, .slice (some ⟨gF, 0, none⟩) (2 * C.length + 1) cF, .slice (some ⟨gT, 0, none⟩) (2 * C.length + 1) cT] 61)).alloc (.cells #[.int .i64 x, .bool false] 26)).alloc (.cells #[.int .i64 t0, .int .i64 t1] 120))) := QV1 _ _ _ _
  clear hG
  go_enter Try.func78,Try.ntmps78
  go_wp2
  exact bodyPost_ret (v:=.agg #[.int .i64 t0,.int .i64 t1]) (by simp[results,Try.results78,go_sem,x0,x1]) rfl ⟨by simp[ht0,ht1],HB.out⟩
theorem way_any (x:Int) (p:Bool) (w:World):
    Calls Try.prog 94 #[.agg #[.int .i64 x,.bool p]] w fun e w'=>e=.returned (.int .i64 (if p=true then 1 else 0))/\Below w.heap.size w w':=by
 go_enter Try.func94,Try.ntmps94
 cases p with
 |true=>
  go_wp2
  go_ret
  exact⟨rfl,(Below.refl _ _).alloc (Nat.le_refl _) _⟩
 |false=>
  go_wp2
  go_ret
  exact⟨rfl,(Below.refl _ _).alloc (Nat.le_refl _) _⟩
end Go.Proofs.Ytagaajlbkfkaiaa
/- Diagrams under way: crossings that are appended to one; the walks of drawing.crossOf and drawing.Turned. -/
namespace Go.Proofs.Ytagaajlbkfkaiaa
open Go.RowKit
set_option maxHeartbeats 2000000
set_option maxRecDepth 100000
theorem cells_append (C D:List Cr):QQ4 (C++D)=QQ4 C++QQ4 D:=by simp[QQ4]
theorem new_cell5 (W:World) (a b c d p:Value) (e:TypeId):∀ j u,[a,b,c,d,p][j]?=some u->(W.alloc (.cells #[a,b,c,d,p] e)).cell? ((⟨W.heap.size,0,none⟩:Addr).add j)=some u:=by
 intro j u hj
 rw[Addr.add_lit,Nat.zero_add]
 have hh:(W.alloc (.cells #[a,b,c,d,p] e)).heap[W.heap.size]?=some (.cells #[a,b,c,d,p] e (0,0)):=Array.getElem?_push_size
 match j,hj with
 |0,hj=>simp at hj;subst hj;exact QQ0 hh rfl
 |1,hj=>simp at hj;subst hj;exact QQ0 hh rfl
 |2,hj=>simp at hj;subst hj;exact QQ0 hh rfl
 |3,hj=>simp at hj;subst hj;exact QQ0 hh rfl
 |4,hj=>simp at hj;subst hj;exact QQ0 hh rfl
structure OutAt (w:World) (B g:Nat) (v:Value) (loops:Int) (C:List Cr):Prop where
 box:w.heap[g]?=some (.cells #[v,.int .i64 loops] 24 (0,0))
 row:w.ownsRow B 71 5 v C.length (QQ4 C)
theorem OutAt.nil {w:World} {B g:Nat} {loops:Int} (h:w.heap[g]?=some (.cells #[.slice none 0 0,.int .i64 loops] 24 (0,0))):OutAt w B g (.slice none 0 0) loops []:=⟨h,World.ownsRow_nil _ _ _ _⟩
theorem OutAt.on {w w':World} {B g:Nat} {v:Value} {loops:Int} {C:List Cr} (h:OutAt w B g v loops C) (hb:Below w.heap.size w w'):OutAt w' B g v loops C:=
 ⟨(hb.block _ (Array.getElem?_eq_some_iff.1 h.box).1).trans h.box,QX0 h.row (QQ5 hb none)⟩
theorem OutAt.kept {w w':World} {B g q:Nat} {v:Value} {loops:Int} {C:List Cr} (h:OutAt w B g v loops C) (hg:w.grownBy w' (some q)) (hq:q≠g) (hB:q<B):OutAt w' B g v loops C:=by
 refine⟨(hg.block _ (Array.getElem?_eq_some_iff.1 h.box).1 (fun e=>hq (Option.some.inj e).symm)).trans h.box,h.row.kept hg ?_⟩
 cases hv:v.ownBlock with
 |none=>exact Or.inl rfl
 |some k=>exact Or.inr (fun e=>by have h1:=(h.row.lt k hv).1;have h2:=Option.some.inj e;omega)
theorem OutAt.app {w w8:World} {B g:Nat} {v v8:Value} {loops:Int} {C:List Cr} {x:Cr} {o:Obj} {m:Nat} (h:OutAt w B g v loops C) (hgB:g<B) (hm:m=C.length+1) (hown8:w8.ownsRow B 71 5 v8 m (QQ4 C++QQ4 [x])) (hg8:(w.alloc o).grownBy w8 v.ownBlock):OutAt (w8.setCell ⟨g,0,none⟩ v8) B g v8 loops (C++[x]):=by
 have hlt:=(Array.getElem?_eq_some_iff.1 h.box).1
 have hb8:w8.heap[g]?=some (.cells #[v,.int .i64 loops] 24 (0,0)):=
  (hg8.block _ (by simp;omega) (fun e=>by have:=(h.row.lt g e.symm).1;omega)).trans (alloc_old h.box)
 refine⟨QQ6 hb8,?_⟩
 have hl:(C++[x]).length=m:=by rw[hm];simp
 rw[hl,cells_append]
 refine hown8.kept (QQ7 w8 g 0 v8) ?_
 cases hv:v8.ownBlock with
 |none=>exact Or.inl rfl
 |some k=>exact Or.inr (fun e=>by have h1:=(hown8.lt k hv).1;have h2:=Option.some.inj e;omega)
theorem OutAt.below {w w8 W:World} {B B0 g:Nat} {v v8:Value} {loops:Int} {C:List Cr} {o:Obj} (h:OutAt w B g v loops C) (hb:Below B0 W w) (hB:B0<=B) (hs:B0<=w.heap.size) (h0:B0<=g) (hg8:(w.alloc o).grownBy w8 v.ownBlock):Below B0 W (w8.setCell ⟨g,0,none⟩ v8):=
 ((hb.alloc hs _).grown hg8 (by simp;omega) (fun q hq=>Nat.le_trans hB (h.row.lt q hq).1)).grown (QQ7 w8 g 0 v8) (by have:=hg8.size;simp at this;omega) (fun q hq=>by have:=Option.some.inj hq;omega)
theorem OutAt.other {w w8:World} {B g k:Nat} {v v8:Value} {loops:Int} {C:List Cr} {o p:Obj} (h:OutAt w B g v loops C) (hk:w.heap[k]?=some p) (hkB:k<B) (hkg:k≠g) (hg8:(w.alloc o).grownBy w8 v.ownBlock):(w8.setCell ⟨g,0,none⟩ v8).heap[k]?=some p:=by
 have hlt:=(Array.getElem?_eq_some_iff.1 hk).1
 have hs:=hg8.size
 simp only[World.size_alloc]at hs
 have hb8:w8.heap[k]?=some p:=(hg8.block _ (by simp;omega) (fun e=>by have:=(h.row.lt k e.symm).1;omega)).trans (alloc_old hk)
 exact((QQ7 w8 g 0 v8).block k (by omega) (fun e=>hkg (Option.some.inj e))).trans hb8
theorem OutAt.box8 {w w8:World} {B g:Nat} {v:Value} {loops:Int} {C:List Cr} {o:Obj} (h:OutAt w B g v loops C) (hgB:g<B) (hg8:(w.alloc o).grownBy w8 v.ownBlock):w8.heap[g]?=some (.cells #[v,.int .i64 loops] 24 (0,0)):=by
 have hlt:=(Array.getElem?_eq_some_iff.1 h.box).1
 exact(hg8.block _ (by simp;omega) (fun e=>by have:=(h.row.lt g e.symm).1;omega)).trans (alloc_old h.box)
def turn (x:Cr) (f:Nat):Cr:=⟨x.arc (f%4),x.arc ((f+1)%4),x.arc ((f+2)%4),x.arc ((f+3)%4),x.plus⟩
theorem crossOf_any (x:Cr) (w:World):
    Calls Try.prog 122 #[.agg #[.int .i64 x.a,.int .i64 x.b,.int .i64 x.c,.int .i64 x.d],.bool x.plus] w fun e w'=>e=.returned (.agg #[.int .i64 x.a,.int .i64 x.b,.int .i64 x.c,.int .i64 x.d,.bool x.plus])/\Below w.heap.size w w':=by
 go_enter Try.func122,Try.ntmps122
 go_wp2
 exact bodyPost_ret (v:=.agg #[.int .i64 x.a,.int .i64 x.b,.int .i64 x.c,.int .i64 x.d,.bool x.plus]) (by simp[results,Try.results122,go_sem]) rfl ⟨rfl,QJ3 _ _ _⟩
def QW7 (l:List Int):Array Value:=(l.map fun x=>Value.int .i64 x).toArray
theorem intArr_set (l:List Int) (p:Nat) (z:Int):(QW7 l).setIfInBounds p (.int .i64 z)=QW7 (l.set p z):=by
 simp[QW7,List.map_set]
theorem intArr_get (l:List Int) (p:Nat) (h:p<l.length):(QW7 l)[p]?=some (.int .i64 (l.getD p 0)):=by
 simp[QW7,List.getD,h]
end Go.Proofs.Ytagaajlbkfkaiaa
/- The walks of canon.mirrored, canon.Mirror and ref.MirrorOf. -/
namespace Go.Proofs.Ytagaajlbkfkaiaa
open Go.RowKit
end Go.Proofs.Ytagaajlbkfkaiaa
/- The arc on which the other strand goes on; the walk of Drawing.Aside. -/
namespace Go.Proofs.Ytagaajlbkfkaiaa
open Go.RowKit
end Go.Proofs.Ytagaajlbkfkaiaa
/- Plain mathematics: arcs that are one when crossings are gone; their numbers; what is left of a diagram. -/
namespace Go.Proofs.Ytagaajlbkfkaiaa
def uTo (C:List Cr) (f:Nat->Nat) (G:List Nat):Nat->List (Nat×Nat)
 |0=>[]
 |a+1=>uTo C f G a++(if toC C (a+1)∈G then [(a+1,f (a+1))] else [])
theorem mem_uTo {C:List Cr} {f:Nat->Nat} {G:List Nat} {n:Nat} {e:Nat×Nat}:e∈uTo C f G n↔∃ a,1<=a/\a<=n/\toC C a∈G/\e=(a,f a):=by
 induction n with
 |zero=>
  refine⟨fun h=>(by cases h),fun⟨a,h1,h2,_⟩=>absurd h2 (by omega)⟩
 |succ n ih=>
  rw[uTo,List.mem_append,ih]
  constructor
  · rintro(⟨a,h1,h2,h3,h4⟩|h)
    · exact⟨a,h1,by omega,h3,h4⟩
    · split at h
      · rename_i hg
        exact⟨n+1,by omega,Nat.le_refl _,hg,by simpa using h⟩
      · cases h
  · rintro⟨a,h1,h2,h3,h4⟩
    by_cases e:a=n+1
    · subst e
      right
      rw[if_pos h3]
      simp[h4]
    · exact Or.inl ⟨a,h1,by omega,h3,h4⟩
def uniM (C:List Cr) (f:Nat->Nat) (G:List Nat):List Nat:=mers (List.range (2*C.length+1)) (uTo C f G (2*C.length))
theorem uTo_lt {C:List Cr} {f:Nat->Nat} {G:List Nat} (hf:∀ a,1<=a->a<=2*C.length->1<=f a/\f a<=2*C.length):∀ e,e∈uTo C f G (2*C.length)->(1<=e.1/\e.1<2*C.length+1)/\(1<=e.2/\e.2<2*C.length+1):=fun e he=>by
 obtain⟨a,h1,h2,-,rfl⟩:=mem_uTo.1 he
 have:=hf a h1 h2
 exact⟨⟨h1,by dsimp only;omega⟩,this.1,by dsimp only;omega⟩
theorem uni_least {C:List Cr} {f:Nat->Nat} {G:List Nat} (hf:∀ a,1<=a->a<=2*C.length->1<=f a/\f a<=2*C.length):Least (uTo C f G (2*C.length)) (2*C.length+1) (uniM C f G):=by
 have:=mers_least (2*C.length+1) (uTo C f G (2*C.length)) [] (List.range (2*C.length+1)) (fun e he=>by
  have h:=uTo_lt hf e (by simpa using he)
  exact⟨h.1.2,h.2.2⟩) (least_nil _)
 simpa[uniM] using this
def goneB (C:List Cr) (G:List Nat) (a:Nat):Bool:=if a=0 then false else decide (toC C a∈G)
def stP (C:List Cr) (G:List Nat) (L:List Nat) (m v:Nat):Prop:=∃ a,a<m/\L.getD a 0=v/\goneB C G a=false
def thP (C:List Cr) (G:List Nat) (L:List Nat) (v:Nat):Prop:=∃ i s,i<C.length/\i ∉ G/\s<4/\L.getD ((C.getD i Cr.none).arc s).toNat 0=v
theorem nodup_sub:∀ (l m:List Nat),l.Nodup->(∀ x,x∈l->x∈m)->l.length<=m.length:=by
 intro l
 induction l with
 |nil=>intro m _ _;exact Nat.zero_le _
 |cons x l ih=>
  intro m hn hs
  obtain⟨h1,h2⟩:=List.nodup_cons.1 hn
  have hx:x∈m:=hs x (List.Mem.head _)
  have:=ih (m.erase x) h2 (fun y hy=>by
   have hne:y≠x:=fun e=>h1 (e▸hy)
   exact(List.mem_erase_of_ne hne).2 (hs y (List.Mem.tail _ hy)))
  have hl:=List.length_erase_of_mem hx
  have hp:=List.length_pos_of_mem hx
  simp only[List.length_cons]
  omega
theorem onto_class (f:Nat->Nat) (K:List Nat) (hn:K.Nodup) (hf:∀ a,a∈K->f a∈K) (hi:∀ a b,a∈K->b∈K->f a=f b->a=b) (y:Nat) (hy:y∈K):∃ x,x∈K/\f x=y:=by
 refine Classical.byContradiction fun h=>?_
 have hno:y ∉ K.map f:=fun hm=>by
  obtain⟨x,hx,e⟩:=List.mem_map.1 hm
  exact h ⟨x,hx,e⟩
 have hnm:(K.map f).Nodup:=List.pairwise_map.2 (hn.imp_of_mem fun ha hb hab e=>hab (hi _ _ ha hb e))
 have:=nodup_sub (y::K.map f) K (List.nodup_cons.2 ⟨hno,hnm⟩) (fun x hx=>by
  rcases List.mem_cons.1 hx with rfl|hx
  · exact hy
  · obtain⟨z,hz,rfl⟩:=List.mem_map.1 hx
    exact hf z hz)
 simp only[List.length_cons,List.length_map]at this
 omega
structure Goes (C:List Cr) (f:Nat->Nat):Prop where
 closed:∀ a,1<=a->a<=2*C.length->1<=f a/\f a<=2*C.length
 inj:∀ a b,1<=a->a<=2*C.length->1<=b->b<=2*C.length->f a=f b->a=b
 out:∀ a,1<=a->a<=2*C.length->enC C (f a) false=toC C a
theorem st_th {C:List Cr} {loops:Int} (hm:mayD C loops=true) {f:Nat->Nat} (hf:Goes C f) (G:List Nat) (v:Nat) (h1:1<=v):
    thP C G (uniM C f G) v↔((uniM C f G).getD v 0=v/\stP C G (uniM C f G) (2*C.length+1) v):=by
 have hL:=uni_least (G:=G) hf.closed
 generalize hE:uniM C f G=L at hL ⊢
 have hpos:∀ e,e∈uTo C f G (2*C.length)->1<=e.1/\1<=e.2:=fun e he=>⟨(uTo_lt hf.closed e he).1.1,(uTo_lt hf.closed e he).2.1⟩
 constructor
 · rintro⟨i,s,hi,hG,hs,e⟩
   have ho:=en_one hm i s hi hs
   obtain⟨a,ha⟩:∃ a,((C.getD i Cr.none).arc s).toNat=a:=⟨_,rfl⟩
   rw[ha]at e ho
   obtain⟨a1,a2,a3⟩:=ho
   have hroot:=hL.root (v:=a) (by omega)
   rw[e]at hroot
   refine⟨hroot,?_⟩
   cases hc:(C.getD i Cr.none).comes s with
   |true=>
    rw[hc]at a3
    refine⟨a,by omega,e,?_⟩
    unfold goneB
    rw[if_neg (by omega)]
    have e3:toC C a=i:=a3
    rw[e3]
    simpa using hG
   |false=>
    rw[hc]at a3
    refine Classical.byContradiction fun hno=>?_
    have hall:∀ x,1<=x->x<=2*C.length->L.getD x 0=v->toC C x∈G:=fun x x1 x2 x3=>Classical.byContradiction fun hx=>hno ⟨x,by omega,x3,by unfold goneB;rw[if_neg (by omega)];simpa using hx⟩
    obtain⟨K,hK⟩:∃ K,K=(List.range (2*C.length+1)).filter (fun x=>decide (1<=x)&&decide (L.getD x 0=v)):=⟨_,rfl⟩
    have hmem:∀ x,x∈K↔(1<=x/\x<=2*C.length/\L.getD x 0=v):=fun x=>by
     rw[hK,List.mem_filter,List.mem_range]
     simp only[Bool.and_eq_true,decide_eq_true_eq]
     omega
    obtain⟨x,hx,hfx⟩:=onto_class f K (by rw[hK];exact List.nodup_range.filter _) (fun x hx=>by
     obtain⟨x1,x2,x3⟩:=(hmem x).1 hx
     have hc2:=hf.closed x x1 x2
     refine(hmem _).2 ⟨hc2.1,hc2.2,?_⟩
     rw[<-x3]
     exact((hL.same (by omega) (by omega)).2 (Con.edge (mem_uTo.2 ⟨x,x1,x2,hall x x1 x2 x3,rfl⟩))).symm) (fun x y hx hy e=>by
     obtain⟨x1,x2,-⟩:=(hmem x).1 hx
     obtain⟨y1,y2,-⟩:=(hmem y).1 hy
     exact hf.inj x y x1 x2 y1 y2 e) a ((hmem a).2 ⟨a1,a2,e⟩)
    obtain⟨x1,x2,x3⟩:=(hmem x).1 hx
    have h5:=hf.out x x1 x2
    rw[hfx,a3]at h5
    exact hG (h5▸hall x x1 x2 x3)
 · rintro⟨hr,a,ha,e,hg⟩
   have a1:1<=a:=by
    rcases Nat.eq_zero_or_pos a with rfl|h
    · have:=hL.le (v:=0) (by omega)
      omega
    · exact h
   obtain⟨-,h4,h5,h6,h7⟩:=QJ0 hm a a1 (by omega)
   unfold goneB at hg
   rw[if_neg (by omega)]at hg
   exact⟨toC C a,toS C a,h4,by simpa using hg,h5,by rw[h6];exact e⟩
def cntB (P:Nat->Bool):Nat->Nat
 |0=>0
 |k+1=>cntB P k+(if 1<=k/\P k=true then 1 else 0)
theorem cntB_le (P:Nat->Bool) (k:Nat):cntB P k<=k:=by
 induction k with
 |zero=>exact Nat.le_refl _
 |succ k ih=>simp only[cntB];split<;>omega
def numM (L:List Nat) (P:Nat->Bool) (a:Nat):Nat:=if P (L.getD a 0)=true then cntB P (L.getD a 0)+1 else 0
def reX (h:Nat->Nat) (x:Cr):Cr:=⟨h x.a.toNat,h x.b.toNat,h x.c.toNat,h x.d.toNat,x.plus⟩
def reTo (C:List Cr) (G:List Nat) (h:Nat->Nat):Nat->List Cr
 |0=>[]
 |i+1=>reTo C G h i++(if i∈G then [] else [reX h (C.getD i Cr.none)])
theorem reTo_len (C:List Cr) (G:List Nat) (h:Nat->Nat) (i:Nat):(reTo C G h i).length<=i:=by
 induction i with
 |zero=>exact Nat.le_refl _
 |succ i ih=>simp only[reTo,List.length_append];split<;>simp<;>omega
theorem to_side {C:List Cr} {loops:Int} (hm:mayD C loops=true) (k s:Nat) (hk:k<C.length) (hs:s<4) (hc:(C.getD k Cr.none).comes s=true):1<=((C.getD k Cr.none).arc s).toNat/\((C.getD k Cr.none).arc s).toNat<=2*C.length/\toC C ((C.getD k Cr.none).arc s).toNat=k/\toS C ((C.getD k Cr.none).arc s).toNat=s:=by
 have hf:=QK7 hm k s hk hs
 have g1:=hf.1
 have g2:=hf.2.1
 have ha:1<=((C.getD k Cr.none).arc s).toNat/\((C.getD k Cr.none).arc s).toNat<=2*C.length:=by omega
 have e:=end_one hm _ ha.1 ha.2 true k s hk hs (by omega) hc
 refine⟨ha.1,ha.2,?_,?_⟩
 · unfold toC;rw[e];rfl
 · unfold toS;rw[e];rfl
end Go.Proofs.Ytagaajlbkfkaiaa
/- One operation of a region that draws its order, taken by hand. -/
namespace Go.Proofs.Ytagaajlbkfkaiaa
open Go.RowKit
theorem take_q {P:Program} {md:Region.Mode} {ops:Array Oper} {Q:Exit->Act->World->Prop} {S:World->Prop} {i:Nat} (d:Nat) {oi:Oper} {v:Value} {fuel:Nat} {listed:Array Bool} {ts:Array Value} {ds:List Deferred} {w:World} (hi:ops[i]?=some oi) (hdst:oi.dst=some d)
    (hs:Region.noSelect ops=true) (hf:Region.free md ops listed i=true) (hr:(Region.ready md ops listed).contains i=true) (hq:∀ x a w',Q (.panic x) (Act.put a oi.dst v) w'->Q (.panic x) a w') (hy:YieldsIf P ops S oi v { tmps:=ts,defers:=ds }) (hS:S w)
    (h:wpAnyH P md ops Q S fuel (listed.setIfInBounds i true) { tmps:=ts.setIfInBounds d v,defers:=ds } w):wpAnyH P md ops Q S (fuel+1) listed { tmps:=ts,defers:=ds } w:=by
 refine wpAnyH_take hi hs hf hr hq hy hS ?_
 rw[hdst]
 exact h
end Go.Proofs.Ytagaajlbkfkaiaa
/- Plain mathematics: rings of a renaming, and what becomes of them where two places are traded: two rings become one, or one becomes two. -/
namespace Go.Proofs.Ytagaajlbkfkaiaa
structure Bij (f:Nat->Nat) (M:Nat):Prop where
 lt:∀ x,x<M->f x<M
 inj:∀ x y,x<M->y<M->f x=f y->x=y
def it (f:Nat->Nat):Nat->Nat->Nat
 |0,x=>x
 |i+1,x=>f (it f i x)
theorem it_lt {f:Nat->Nat} {M:Nat} (h:Bij f M) {x:Nat} (hx:x<M):∀ i,it f i x<M:=by
 intro i
 induction i with
 |zero=>exact hx
 |succ i ih=>exact h.lt _ ih
theorem it_add (f:Nat->Nat) (x:Nat):∀ i j,it f (i+j) x=it f i (it f j x):=by
 intro i j
 induction i with
 |zero=>rw[Nat.zero_add];rfl
 |succ i ih=>rw[show i+1+j=(i+j)+1 by omega];show f (it f (i+j) x)=f (it f i (it f j x));rw[ih]
theorem it_back {f:Nat->Nat} {M:Nat} (h:Bij f M) {x y:Nat} (hx:x<M) (hy:y<M):∀ i,it f i x=it f i y->x=y:=by
 intro i
 induction i with
 |zero=>exact id
 |succ i ih=>intro e;exact ih (h.inj _ _ (it_lt h hx i) (it_lt h hy i) e)
theorem period {f:Nat->Nat} {M:Nat} (h:Bij f M) {x:Nat} (hx:x<M):∃ p,0<p/\it f p x=x:=by
 refine Classical.byContradiction fun hn=>?_
 have hp:∀ p,0<p->it f p x≠x:=fun p h0 e=>hn ⟨p,h0,e⟩
 have hd:((List.range (M+1)).map fun i=>it f i x).Nodup:=by
  unfold List.Nodup
  rw[List.pairwise_map]
  refine List.Pairwise.imp ?_ (List.pairwise_lt_range (n:=M+1))
  intro i j hij e
  have e2:it f i x=it f i (it f (j-i) x):=by rw[<-it_add,show i+(j-i)=j by omega];exact e
  exact hp (j-i) (by omega) (it_back h hx (it_lt h hx _) i e2).symm
 have hl:=hd.length_le_of_subset (l₂:=List.range M) (fun y hy=>by
  obtain⟨i,-,rfl⟩:=List.mem_map.1 hy
  exact List.mem_range.2 (it_lt h hx i))
 rw[List.length_map,List.length_range,List.length_range]at hl
 omega
def eds (f:Nat->Nat) (M:Nat):List (Nat×Nat):=(List.range M).map fun i=>(i,f i)
theorem eds_mem {f:Nat->Nat} {M i:Nat} (h:i<M):(i,f i)∈eds f M:=List.mem_map.2 ⟨i,List.mem_range.2 h,rfl⟩
theorem eds_lt {f:Nat->Nat} {M:Nat} (h:∀ x,x<M->f x<M):∀ e,e∈eds f M->e.1<M/\e.2<M:=fun e he=>by
 obtain⟨i,hi,rfl⟩:=List.mem_map.1 he
 exact⟨List.mem_range.1 hi,h _ (List.mem_range.1 hi)⟩
theorem closed_eds {f:Nat->Nat} {M:Nat} {S:Nat->Prop}:Closed (eds f M) S↔∀ i,i<M->(S i↔S (f i)):=by
 constructor
 · intro h i hi
   exact h _ (eds_mem hi)
 · intro h e he
   obtain⟨i,hi,rfl⟩:=List.mem_map.1 he
   exact h i (List.mem_range.1 hi)
theorem con_f {f:Nat->Nat} {M x:Nat} (hx:x<M):Con (eds f M) x (f x):=Con.edge (eds_mem hx)
theorem con_it {f:Nat->Nat} {M:Nat} (h:Bij f M) {x:Nat} (hx:x<M):∀ i,Con (eds f M) x (it f i x):=by
 intro i
 induction i with
 |zero=>exact Con.refl _ _
 |succ i ih=>exact ih.trans (con_f (it_lt h hx i))
theorem it_con {f:Nat->Nat} {M:Nat} (h:Bij f M) {x y:Nat} (hx:x<M) (hc:Con (eds f M) x y):∃ i,it f i x=y:=by
 refine hc (fun z=>∃ i,it f i x=z) (closed_eds.2 fun z hz=>⟨?_,?_⟩) ⟨0,rfl⟩
 · rintro⟨i,rfl⟩
   exact⟨i+1,rfl⟩
 · rintro⟨i,e⟩
   cases i with
   |zero=>
    obtain⟨p,h0,hp⟩:=period h hx
    cases p with
    |zero=>omega
    |succ p=>
     refine⟨p,h.inj _ _ (it_lt h hx p) hz ?_⟩
     have e1:x=f z:=e
     exact Eq.trans hp e1
   |succ i=>exact⟨i,h.inj _ _ (it_lt h hx i) hz e⟩
theorem first_of {P:Nat->Prop} (h:∃ i,P i):∃ r,P r/\∀ i,i<r->¬ P i:=by
 obtain⟨i,hi⟩:=h
 induction i using Nat.strongRecOn with
 |ind i ih=>
  by_cases hs:∃ j,j<i/\P j
  · obtain⟨j,hj,hp⟩:=hs
    exact ih j hj hp
  · exact⟨i,hi,fun j hj hp=>hs ⟨j,hj,hp⟩⟩
def tr (f:Nat->Nat) (a b x:Nat):Nat:=if x=a then f b else if x=b then f a else f x
theorem tr_a (f:Nat->Nat) (a b:Nat):tr f a b a=f b:=by simp[tr]
theorem tr_b (f:Nat->Nat) (a b:Nat):tr f a b b=f a:=by
 unfold tr
 by_cases h:b=a
 · rw[if_pos h,h]
 · rw[if_neg h,if_pos rfl]
theorem tr_o (f:Nat->Nat) {a b x:Nat} (h1:x≠a) (h2:x≠b):tr f a b x=f x:=by simp[tr,h1,h2]
theorem tr_tr (f:Nat->Nat) (a b x:Nat):tr (tr f a b) a b x=f x:=by
 by_cases h1:x=a
 · rw[h1,tr_a,tr_b]
 · by_cases h2:x=b
   · rw[h2,tr_b,tr_a]
   · rw[tr_o _ h1 h2,tr_o _ h1 h2]
theorem Bij.tr {f:Nat->Nat} {M:Nat} (h:Bij f M) {a b:Nat} (ha:a<M) (hb:b<M):Bij (tr f a b) M:=by
 have key:∀ x,x<M->∃ z,z<M/\Proofs.Ytagaajlbkfkaiaa.tr f a b x=f z/\(x=a->z=b)/\(x=b->z=a)/\(x≠a->x≠b->z=x):=by
  intro x hx
  by_cases h1:x=a
  · exact⟨b,hb,by rw[h1,tr_a],fun _=>rfl,fun e=>by omega,fun q=>absurd h1 q⟩
  · by_cases h2:x=b
    · exact⟨a,ha,by rw[h2,tr_b],fun q=>absurd q h1,fun _=>rfl,fun _ q=>absurd h2 q⟩
    · exact⟨x,hx,tr_o f h1 h2,fun q=>absurd q h1,fun q=>absurd q h2,fun _ _=>rfl⟩
 refine⟨fun x hx=>?_,fun x y hx hy e=>?_⟩
 · obtain⟨z,hz,e,-⟩:=key x hx
   rw[e]
   exact h.lt z hz
 · obtain⟨z,hz,e1,p1,p2,p3⟩:=key x hx
   obtain⟨u,hu,e2,q1,q2,q3⟩:=key y hy
   have e3:z=u:=h.inj z u hz hu (by rw[<-e1,<-e2,e])
   by_cases c1:x=a
   · have:=p1 c1
     by_cases c2:y=a
     · omega
     · by_cases c3:y=b
       · have:=q2 c3;omega
       · have:=q3 c2 c3;omega
   · by_cases c1b:x=b
     · have:=p2 c1b
       by_cases c2:y=a
       · have:=q1 c2;omega
       · by_cases c3:y=b
         · omega
         · have:=q3 c2 c3;omega
     · have:=p3 c1 c1b
       by_cases c2:y=a
       · have:=q1 c2;omega
       · by_cases c3:y=b
         · have:=q2 c3;omega
         · have:=q3 c2 c3;omega
theorem con_tr {f:Nat->Nat} {M:Nat} (h:Bij f M) {a b:Nat} (ha:a<M) (hb:b<M) (hn:¬ Con (eds f M) a b):Con (eds (tr f a b) M) a b:=by
 intro S hS hSa
 have hS':=closed_eds.1 hS
 have h1:S (f b):=by have:=(hS' a ha).1 hSa;rwa [tr_a]at this
 obtain⟨p,h0,hp⟩:=period h hb
 have key:∀ i,S b∨S (it f (i+1) b):=by
  intro i
  induction i with
  |zero=>exact Or.inr h1
  |succ i ih=>
   rcases ih with ih|ih
   · exact Or.inl ih
   · by_cases e:it f (i+1) b=b
     · rw[e]at ih;exact Or.inl ih
     · have ea:it f (i+1) b≠a:=fun q=>hn (q▸(con_it h hb (i+1)).symm)
       have:=(hS' _ (it_lt h hb (i+1))).1 ih
       rw[tr_o f ea e]at this
       exact Or.inr this
 have:=key (p-1)
 rw[show p-1+1=p by omega,hp]at this
 exact this.elim id id
theorem con_join {f:Nat->Nat} {M:Nat} (h:Bij f M) {a b:Nat} (ha:a<M) (hb:b<M) (hn:¬ Con (eds f M) a b) (x y:Nat):Con (eds (tr f a b) M) x y↔Con (eds f M++[(a,b)]) x y:=by
 have hab:=con_tr h ha hb hn
 constructor
 · intro hc S hS
   refine hc S (closed_eds.2 fun i hi=>?_)
   have h1:=closed_eds.1 (fun e he=>hS e (List.mem_append_left _ he):Closed (eds f M) S)
   have h2:S a↔S b:=hS (a,b) (List.mem_append_right _ (List.Mem.head _))
   by_cases e1:i=a
   · rw[e1,tr_a,h2];exact h1 b hb
   · by_cases e2:i=b
     · rw[e2,tr_b,<-h2];exact h1 a ha
     · rw[tr_o f e1 e2];exact h1 i hi
 · intro hc S hS
   have h1:=closed_eds.1 hS
   have h2:S a↔S b:=⟨hab S hS,hab.symm S hS⟩
   refine hc S fun e he=>?_
   rcases List.mem_append.1 he with he|he
   · obtain⟨i,hi,rfl⟩:=List.mem_map.1 he
     have hi:=List.mem_range.1 hi
     show S i↔S (f i)
     by_cases e1:i=a
     · rw[e1,h2];have:=h1 b hb;rwa [tr_b]at this
     · by_cases e2:i=b
       · rw[e2,<-h2];have:=h1 a ha;rwa [tr_a]at this
       · have:=h1 i hi;rwa [tr_o f e1 e2]at this
   · rw[List.mem_singleton.1 he];exact h2
theorem con_part {f:Nat->Nat} {M:Nat} (h:Bij f M) {a b:Nat} (ha:a<M) (hb:b<M) (hab:a≠b) (hc:Con (eds f M) a b):¬ Con (eds (tr f a b) M) a b:=by
 intro hcon
 obtain⟨r,hr,hmin⟩:=first_of (it_con h hb hc.symm)
 have r0:0<r:=Nat.pos_of_ne_zero fun q=>by rw[q]at hr;exact hab hr.symm
 have hB:=h.tr ha hb
 have nb:∀ i,1<=i->i<=r->it f i b≠b:=fun i h1 h2 e=>by
  by_cases e2:i=r
  · rw[e2,hr]at e;exact hab e
  · refine hmin (r-i) (by omega) ?_
    have:=it_add f b (r-i) i
    rw[e,show r-i+i=r by omega,hr]at this
    exact this.symm
 have nxt:∀ i,1<=i->i<r->tr f a b (it f i b)=it f (i+1) b:=fun i h1 h2=>tr_o f (hmin i h2) (nb i h1 (by omega))
 have hS:Closed (eds (tr f a b) M) fun z=>∃ i,1<=i/\i<=r/\it f i b=z:=closed_eds.2 fun z hz=>by
  constructor
  · rintro⟨i,h1,h2,rfl⟩
    by_cases e:i=r
    · rw[e,hr,tr_a];exact⟨1,Nat.le_refl _,r0,rfl⟩
    · exact⟨i+1,by omega,by omega,(nxt i h1 (by omega)).symm⟩
  · rintro⟨i,h1,h2,e⟩
    by_cases e1:i=1
    · refine⟨r,r0,Nat.le_refl _,?_⟩
      rw[hr]
      refine hB.inj a z ha hz ?_
      rw[tr_a,<-e,e1]
      rfl
    · refine⟨i-1,by omega,by omega,?_⟩
      refine hB.inj _ z (it_lt h hb _) hz ?_
      rw[nxt (i-1) (by omega) (by omega),<-e,show i-1+1=i by omega]
 obtain⟨i,h1,h2,e⟩:=hcon _ hS ⟨r,r0,Nat.le_refl _,hr⟩
 exact nb i h1 h2 e
def rq (W:List Nat) (Q:Nat->Bool):Nat->Nat
 |0=>0
 |k+1=>rq W Q k+(if W.getD k 0=k/\Q k=true then 1 else 0)
theorem rq_mer {Ed:List (Nat×Nat)} {n:Nat} {W:List Nat} (h:Least Ed n W) (Q:Nat->Bool) {x y:Nat} (hx:x<n) (hy:y<n) (hne:W.getD x 0≠W.getD y 0):∀ k,k<=n->rq (mer W x y) Q k+(if max (W.getD x 0) (W.getD y 0)<k/\Q (max (W.getD x 0) (W.getD y 0))=true then 1 else 0)=rq W Q k:=by
 have rx:=h.root hx
 have ry:=h.root hy
 generalize hmx:max (W.getD x 0) (W.getD y 0)=m
 have hmr:W.getD m 0=m:=by
  rcases Nat.le_total (W.getD x 0) (W.getD y 0) with hle|hle
  · have:m=W.getD y 0:=by omega
    rw[this];exact ry
  · have:m=W.getD x 0:=by omega
    rw[this];exact rx
 intro k
 induction k with
 |zero=>intro _;simp[rq]
 |succ k ih=>
  intro hk
  have i1:=ih (by omega)
  have hm:=mer_at W x y k (by rw[h.1];omega)
  rw[hmx]at hm
  simp only[rq]
  by_cases he:k=m
  · subst he
    rw[if_pos hmr]at hm
    rw[if_neg (by omega)]at i1
    rw[if_neg (show ¬ ((mer W x y).getD k 0=k/\Q k=true) from fun q=>by have:=q.1;omega)]
    by_cases hq:Q k=true
    · rw[if_pos (show k<k+1/\Q k=true from⟨by omega,hq⟩),if_pos (show W.getD k 0=k/\Q k=true from⟨hmr,hq⟩)];omega
    · rw[if_neg (show ¬ (k<k+1/\Q k=true) from fun q=>hq q.2),if_neg (show ¬ (W.getD k 0=k/\Q k=true) from fun q=>hq q.2)];omega
  · have hiff:((mer W x y).getD k 0=k)↔(W.getD k 0=k):=by
      by_cases hr:W.getD k 0=k
      · rw[if_neg (by omega)]at hm
        rw[hm]
      · have h2:¬ (mer W x y).getD k 0=k:=by
          rw[hm]
          split
          · intro e
            rcases Nat.le_total (W.getD x 0) (W.getD y 0) with hle2|hle2
            · have e1:k=W.getD x 0:=by omega
              exact hr (by rw[e1];exact rx)
            · have e1:k=W.getD y 0:=by omega
              exact hr (by rw[e1];exact ry)
          · exact hr
        exact⟨fun q=>absurd q h2,fun q=>absurd q hr⟩
    rw[show(if(mer W x y).getD k 0=k/\Q k=true then 1 else 0)=(if W.getD k 0=k/\Q k=true then 1 else 0) by simp only[hiff]]
    by_cases hq:m<k/\Q m=true
    · rw[if_pos hq]at i1
      rw[if_pos (show m<k+1/\Q m=true from⟨by omega,hq.2⟩)]
      omega
    · rw[if_neg hq]at i1
      rw[if_neg (show ¬ (m<k+1/\Q m=true) from fun q=>hq ⟨by omega,q.2⟩)]
      omega
def cyW (f:Nat->Nat) (M:Nat):List Nat:=levR (List.range M) (eds f M) M
theorem QV7 {f:Nat->Nat} {M:Nat} (h:∀ x,x<M->f x<M):Least (eds f M) M (cyW f M):=QZ9 (eds_lt h) M (Nat.le_refl _)
def cyN (f:Nat->Nat) (M:Nat) (Q:Nat->Bool):Nat:=rq (cyW f M) Q M
theorem least_congr {E F:List (Nat×Nat)} {n:Nat} {W:List Nat} (h:Least E n W) (e:∀ x y,Con E x y↔Con F x y):Least F n W:=
 ⟨h.1,fun v hv=>⟨(e _ _).1 (h.2 v hv).1,fun u hu=>(h.2 v hv).2 u ((e _ _).2 hu)⟩⟩
theorem cyN_join {f:Nat->Nat} {M:Nat} (h:Bij f M) (Q:Nat->Bool) {a b:Nat} (ha:a<M) (hb:b<M) (hn:¬ Con (eds f M) a b) (hQ:∀ x y,x<M->Con (eds f M) x y->Q x=Q y) (hab:Q a=Q b):cyN (tr f a b) M Q+(if Q a=true then 1 else 0)=cyN f M Q:=by
 have hW:=QV7 h.lt
 have hW':=QV7 (h.tr ha hb).lt
 have e:cyW (tr f a b) M=mer (cyW f M) a b:=hW'.eq (least_congr (mer_least hW a b ha hb (eds_lt h.lt)) fun x y=>(con_join h ha hb hn x y).symm)
 have hne:(cyW f M).getD a 0≠(cyW f M).getD b 0:=fun q=>hn ((hW.same ha hb).1 q)
 have hm:=rq_mer hW Q ha hb hne M (Nat.le_refl _)
 have la:=hW.lt ha
 have lb:=hW.lt hb
 have qa:=hQ a _ ha (hW.2 a ha).1
 have qb:=hQ b _ hb (hW.2 b hb).1
 have qm:Q (max ((cyW f M).getD a 0) ((cyW f M).getD b 0))=Q a:=by
  rcases Nat.le_total ((cyW f M).getD a 0) ((cyW f M).getD b 0) with hle|hle
  · rw[Nat.max_eq_right hle,<-qb,hab]
  · rw[Nat.max_eq_left hle,<-qa]
 rw[qm]at hm
 unfold cyN
 rw[e,<-hm]
 by_cases hq:Q a=true
 · rw[if_pos hq,if_pos ⟨by omega,hq⟩]
 · rw[if_neg hq,if_neg fun q=>hq q.2]
theorem eds_congr {f g:Nat->Nat} {M:Nat} (e:∀ x,x<M->f x=g x):eds f M=eds g M:=by
 unfold eds
 refine List.map_congr_left fun i hi=>?_
 rw[e i (List.mem_range.1 hi)]
theorem cyN_congr {f g:Nat->Nat} {M:Nat} (e:∀ x,x<M->f x=g x) (Q:Nat->Bool):cyN f M Q=cyN g M Q:=by
 unfold cyN cyW
 rw[eds_congr e]
theorem cyN_part {f:Nat->Nat} {M:Nat} (h:Bij f M) (Q:Nat->Bool) {a b:Nat} (ha:a<M) (hb:b<M) (hne:a≠b) (hc:Con (eds f M) a b) (hQ:∀ x y,x<M->Con (eds f M) x y->Q x=Q y):cyN f M Q+(if Q a=true then 1 else 0)=cyN (tr f a b) M Q:=by
 have hn:=con_part h ha hb hne hc
 have hB:=h.tr ha hb
 have hQ':∀ x y,x<M->Con (eds (tr f a b) M) x y->Q x=Q y:=fun x y hx hxy=>by
  have:=hxy (fun z=>Q x=Q z) (closed_eds.2 fun i hi=>by
   have e:Q i=Q (tr f a b i):=by
    by_cases e1:i=a
    · rw[e1,tr_a,hQ a b ha hc];exact hQ b _ hb (con_f hb)
    · by_cases e2:i=b
      · rw[e2,tr_b,<-hQ a b ha hc];exact hQ a _ ha (con_f ha)
      · rw[tr_o f e1 e2];exact hQ i _ hi (con_f hi)
   rw[e]) rfl
  exact this
 have k:=cyN_join hB Q ha hb hn hQ' (hQ a b ha hc)
 rw[cyN_congr (fun x _=>tr_tr f a b x)]at k
 exact k
end Go.Proofs.Ytagaajlbkfkaiaa
/- Tellings of pieces: plain mathematics; the walk of ref.otherEnd. -/
namespace Go.Proofs.Ytagaajlbkfkaiaa
open Go.RowKit
def nbS (C:List Cr) (k s:Nat):Nat:=enS C ((C.getD k Cr.none).arc s).toNat (!(C.getD k Cr.none).comes s)
theorem nb_may {C:List Cr} {loops:Int} (hm:mayD C loops=true) (k s:Nat) (hk:k<C.length) (hs:s<4):
    (1<=((C.getD k Cr.none).arc s).toNat/\((C.getD k Cr.none).arc s).toNat<=2*C.length/\(C.getD k Cr.none).arc s=(((C.getD k Cr.none).arc s).toNat:Int))/\
    endTo C ((C.getD k Cr.none).arc s).toNat (!(C.getD k Cr.none).comes s) C.length=((nbC C k s:Int),(nbS C k s:Int))/\nbC C k s<C.length/\nbS C k s<4:=by
 have hf:=QK7 hm k s hk hs
 have g1:=hf.1
 have g2:=hf.2.1
 have ha:1<=((C.getD k Cr.none).arc s).toNat/\((C.getD k Cr.none).arc s).toNat<=2*C.length:=by omega
 have h:=QJ9 hm _ (!(C.getD k Cr.none).comes s) ha.1 ha.2
 exact⟨⟨ha.1,ha.2,by omega⟩,h.1,h.2.1,h.2.2.1⟩
def teS (C:List Cr) (c:Nat) (p:List Nat×List Int) (s:Nat):List Nat×List Int:=
 let o:=if nbC C c s∈p.1 then p.1 else p.1++[nbC C c s]
 (o,p.2++[(o.idxOf (nbC C c s):Int),(nbS C c s:Int)])
def teK (C:List Cr) (i:Nat) (p:List Nat×List Int):Nat->List Nat×List Int
 |0=>(p.1,p.2++[if(C.getD (p.1.getD i 0) Cr.none).plus=true then 1 else 0])
 |k+1=>teS C (p.1.getD i 0) (teK C i p k) k
def teI (C:List Cr) (first:Nat):Nat->List Nat×List Int
 |0=>([first],[])
 |i+1=>if i<(teI C first i).1.length then teK C i (teI C first i) 4 else teI C first i
def te (C:List Cr) (first:Nat):List Nat×List Int:=teI C first C.length
theorem teS_pre (C:List Cr) (c:Nat) (p:List Nat×List Int) (s:Nat):p.1 <+: (teS C c p s).1:=by
 unfold teS
 simp only
 split
 · exact List.prefix_rfl
 · exact List.prefix_append _ _
theorem teK_pre (C:List Cr) (i:Nat) (p:List Nat×List Int) (k:Nat):p.1 <+: (teK C i p k).1:=by
 induction k with
 |zero=>exact List.prefix_rfl
 |succ k ih=>exact ih.trans (teS_pre _ _ _ _)
structure TeOk (C:List Cr) (p:List Nat×List Int):Prop where
 lt:∀ x,x∈p.1->x<C.length
 nd:p.1.Nodup
theorem TeOk.few {C:List Cr} {p:List Nat×List Int} (h:TeOk C p):p.1.length<=C.length:=by
 have:=List.Nodup.length_le_of_subset h.nd (l₂:=List.range C.length) (fun x hx=>List.mem_range.2 (h.lt x hx))
 simpa using this
theorem teS_ok {C:List Cr} {loops:Int} (hm:mayD C loops=true) {c:Nat} (hc:c<C.length) {p:List Nat×List Int} (h:TeOk C p) {s:Nat} (hs:s<4):TeOk C (teS C c p s):=by
 have hn:=(nb_may hm c s hc hs).2.2.1
 unfold teS
 simp only
 split
 · exact⟨h.lt,h.nd⟩
 · rename_i hno
   refine⟨fun x hx=>?_,?_⟩
   · rcases List.mem_append.1 hx with hx|hx
     · exact h.lt x hx
     · simp only[List.mem_singleton]at hx;omega
   · refine List.nodup_append.2 ⟨h.nd,by simp,fun a ha b hb e=>?_⟩
     simp only[List.mem_singleton]at hb
     rw[e,hb]at ha
     exact hno ha
end Go.Proofs.Ytagaajlbkfkaiaa
