/- The walk of alex.row. -/
import Derived.Test.YtgagenmkpmmpfaaAL1
import Derived.Deep.Cut
namespace Go.Proofs.Ytgagenmkpmmpfaa
open Go.RowKit
set_option maxHeartbeats 8000000
set_option maxRecDepth 100000
theorem infoTerms:(Try.prog.info? 56).map (fun i=>(i.zero,i.size,i.bytes))=some (some (.slice none 0 0),1,24):=by kernel_rfl
theorem poly_new1 (X:World) (e c:Int) (t:TypeId):Poly.Poly (X.alloc (.cells #[.int .i64 e,.int .i64 c] t)) (X.alloc (.cells #[.int .i64 e,.int .i64 c] t)).heap.size (.slice (some ⟨X.heap.size,0,none⟩) 1 1) [(e,c)]:=by
 have hb:(X.alloc (.cells #[.int .i64 e,.int .i64 c] t)).heap[X.heap.size]?=some (.cells #[.int .i64 e,.int .i64 c] t (0,0)):=alloc_at rfl
 refine Or.inr (Or.inr ⟨X.heap.size,0,1,rfl,by simp,fun i hi=>?_⟩)
 obtain rfl:i=0:=by simpa using hi
 exact⟨block_cell hb rfl,block_cell hb rfl⟩
theorem poly_new2 (X:World) (e c e' c':Int) (t:TypeId):Poly.Poly (X.alloc (.cells #[.int .i64 e,.int .i64 c,.int .i64 e',.int .i64 c'] t)) (X.alloc (.cells #[.int .i64 e,.int .i64 c,.int .i64 e',.int .i64 c'] t)).heap.size (.slice (some ⟨X.heap.size,0,none⟩) 2 2) [(e,c),(e',c')]:=by
 have hb:(X.alloc (.cells #[.int .i64 e,.int .i64 c,.int .i64 e',.int .i64 c'] t)).heap[X.heap.size]?=some (.cells #[.int .i64 e,.int .i64 c,.int .i64 e',.int .i64 c'] t (0,0)):=alloc_at rfl
 refine Or.inr (Or.inr ⟨X.heap.size,0,2,rfl,by simp,fun i hi=>?_⟩)
 have:i=0∨i=1:=by
  have:i<2:=by simpa using hi
  omega
 rcases this with rfl|rfl
 · exact⟨block_cell hb rfl,block_cell hb rfl⟩
 · exact⟨block_cell hb rfl,block_cell hb rfl⟩
structure RwSt (w:World) (m g gp:Nat) (bc bo:Array Value) (F:Nat->Int×Int) (X:World):Prop where
 plc:∃ vals,PlcAt w.heap.size m g vals F X
 cbx:X.heap[w.heap.size]?=some (.cells bc 78 (0,0))
 obx:X.heap[w.heap.size+1]?=some (.cells bo 22 (0,0))
 pbx:X.heap[gp]?=some (.cells #[.slice (some ⟨g,0,none⟩) m m] 116 (0,0))
 bel:Below w.heap.size w X
 big:w.heap.size+2<=g
 ne:gp≠g
theorem RwSt.grow {w:World} {m g gp:Nat} {bc bo:Array Value} {F F':Nat->Int×Int} {X Y:World} (h:RwSt w m g gp bc bo F X) (hp:∃ vals,PlcAt w.heap.size m g vals F' Y) (hg:X.grownBy Y (some g)):RwSt w m g gp bc bo F' Y:=by
 have lt:∀ {k:Nat} {o:Obj},X.heap[k]?=some o->k<X.heap.size:=fun h=>(Array.getElem?_eq_some_iff.1 h).1
 have hb:=h.big
 exact⟨hp,(hg.block _ (lt h.cbx) (fun e=>by have:=Option.some.inj e;omega)).trans h.cbx,(hg.block _ (lt h.obx) (fun e=>by have:=Option.some.inj e;omega)).trans h.obx,(hg.block _ (lt h.pbx) (fun e=>h.ne (Option.some.inj e))).trans h.pbx,h.bel.grown hg h.bel.size (fun q hq=>by have:=Option.some.inj hq;omega),h.big,h.ne⟩
theorem RwSt.alloc {w:World} {m g gp:Nat} {bc bo:Array Value} {F:Nat->Int×Int} {X:World} (h:RwSt w m g gp bc bo F X) (o:Obj):RwSt w m g gp bc bo F (X.alloc o):=by
 obtain⟨vals,hp⟩:=h.plc
 exact h.grow ⟨vals,hp.any (World.grownBy_alloc _ _ none)⟩ (World.grownBy_alloc _ _ _)
theorem RwSt.step {w : World} {m g gp : Nat} {bc : Array Value} {F : Nat → Int × Int} {X : World} {b' o' no co arc p : Nat} {v2 : Value} {dx dy : Int} (hAdd : AddOk) (h : RwSt w m g gp bc #[.slice (some ⟨b', o', none⟩) no co] F X) (hF : smallF F 10) (hdx : -1 ≤ dx ∧ dx ≤ 1) (hdy : -1 ≤ dy ∧ dy ≤ 1) (ha : 1 ≤ arc) (han : arc ≤ no) (hno : no ≤ 40) (hp : p < m) (hb : b' < w.heap.size) (cA : w.cell? ⟨b', o' + (arc - 1), none⟩ = some (.int .i64 (p : Nat))) (h2 : Poly.Poly X X.heap.size v2 (aPol dx dy)) :
    Calls Try.prog 71 #[.int .i64 (arc:Nat),v2,.pointer (some ⟨w.heap.size+1,0,none⟩),.pointer (some ⟨gp,0,none⟩)] X fun e w'=>e=.returned (.tuple #[])/\RwSt w m g gp bc #[.slice (some ⟨b',o',none⟩) no co] (addFa F p dx dy) w':=by
 obtain⟨vals,hpl⟩:=h.plc
 refine(alexAdd_any hAdd w.heap.size m g (w.heap.size+1) gp vals F (some ⟨b',o',none⟩) no co b' o' arc p v2 dx dy X h.bel.size hF hdx hdy ha han hno hp rfl h.obx h.pbx (bcell h.bel hb cA) h2 hpl).mono ?_
 rintro e w' ⟨e1,hv,hg⟩
 exact⟨e1,h.grow hv hg⟩
theorem alexRow_any (hAdd : AddOk) (C : List Cr) (xa xb xc xd : Nat) (P : Bool) (oa ob oc : Nat) (m : Nat) (ao : Option Addr) (co bo oo : Nat) (w : World) (hm : m ≤ 40) (hl : C.length ≤ 16) (hao : ao = some ⟨bo, oo, none⟩) (hbo : bo < w.heap.size)
    (la:1<=xa/\xa<=2*C.length) (lb:1<=xb/\xb<=2*C.length) (lc:1<=xc/\xc<=2*C.length) (ma:oa<m) (mb:ob<m) (mc:oc<m)
    (ca:w.cell? ⟨bo,oo+(xa-1),none⟩=some (.int .i64 (oa:Nat))) (cb:w.cell? ⟨bo,oo+(xb-1),none⟩=some (.int .i64 (ob:Nat))) (cc:w.cell? ⟨bo,oo+(xc-1),none⟩=some (.int .i64 (oc:Nat))):
    Calls Try.prog 64 #[.agg #[.int .i64 (xa:Nat),.int .i64 (xb:Nat),.int .i64 (xc:Nat),.int .i64 (xd:Nat),.bool P],.slice ao (2*C.length) co,.int .i64 (m:Nat)] w fun e w'=>∃ g vals,e=.returned (.slice (some ⟨g,0,none⟩) m m)/\PlcAt w.heap.size m g vals (rowF (if P=true then oc else oa) (if P=true then oa else oc) ob) w'/\Below w.heap.size w w':=by
 obtain⟨i1,hj,hy0,hy1,hy2⟩:=info_parts infoTerms
 have HADD:Hid AddOk:=hAdd
 have HCA:Hid (w.cell? ⟨bo,oo+(xa-1),none⟩=some (.int .i64 (oa:Nat))/\w.cell? ⟨bo,oo+(xb-1),none⟩=some (.int .i64 (ob:Nat))/\w.cell? ⟨bo,oo+(xc-1),none⟩=some (.int .i64 (oc:Nat))):=⟨ca,cb,cc⟩
 clear ca cb cc hAdd
 subst hao
 obtain⟨W0,hW0⟩:∃ W,W=(w.alloc (.cells #[.int .i64 (xa:Nat),.int .i64 (xb:Nat),.int .i64 (xc:Nat),.int .i64 (xd:Nat),.bool P] 78)).alloc (.cells #[.slice (some ⟨bo,oo,none⟩) (2*C.length) co] 22):=⟨_,rfl⟩
 have HW0:Hid (W0=(w.alloc (.cells #[.int .i64 (xa:Nat),.int .i64 (xb:Nat),.int .i64 (xc:Nat),.int .i64 (xd:Nat),.bool P] 78)).alloc (.cells #[.slice (some ⟨bo,oo,none⟩) (2*C.length) co] 22)):=hW0
 have HB0:Hid (Below w.heap.size w W0):=(by rw[hW0];exact below2 _ _ _:Below w.heap.size w W0)
 have hs0:W0.heap.size=w.heap.size+2:=by rw[hW0];simp
 have HT0:Hid (W0.heap[w.heap.size]?=some (.cells #[.int .i64 (xa:Nat),.int .i64 (xb:Nat),.int .i64 (xc:Nat),.int .i64 (xd:Nat),.bool P] 78 (0,0))/\W0.heap[w.heap.size+1]?=some (.cells #[.slice (some ⟨bo,oo,none⟩) (2*C.length) co] 22 (0,0))):=(by rw[hW0];exact⟨alloc_old (alloc_at rfl),alloc_at (by simp)⟩:W0.heap[w.heap.size]?=some (.cells #[.int .i64 (xa:Nat),.int .i64 (xb:Nat),.int .i64 (xc:Nat),.int .i64 (xd:Nat),.bool P] 78 (0,0))/\W0.heap[w.heap.size+1]?=some (.cells #[.slice (some ⟨bo,oo,none⟩) (2*C.length) co] 22 (0,0)))
 have HSZ:Hid (W0.heap.size=w.heap.size+2):=hs0
 have hs0':w.heap.size+2<=W0.heap.size:=by omega
 clear hW0 hs0
 go_enter Try.func64,Try.ntmps64
 go_wp2_with (first|(at_make;rw[<-HW0.out];refine wpList_make_full _ rfl _ _ 116 rfl w.heap.size 56 i1 (.slice none 0 0) 1 Try.underlying116 hj hy0 hy1 .i64 .i64 _ _ m rfl rfl rfl rfl (by rw[hy2];omega) (by unfold maxLen;omega) (by omega) ?_;intro w2 hrow hg2;refine Hid.out ?_))
 refine Lib.hid ?_
 rw[made_nilsV]at hrow
 obtain⟨g,hgE⟩:∃ g,W0.heap.size=g:=⟨_,rfl⟩
 rw[hgE]at hrow hs0' ⊢
 have HPL:Hid (PlcAt w.heap.size m g (fun _=>.slice none 0 0) zeroF w2):=⟨hrow,fun j _=>World.ownsRow_nil _ _ _ _⟩
 have hlt2:g<w2.heap.size:=(hrow.lt g rfl).2
 have HX : Hid (RwSt w m g w2.heap.size #[.int .i64 (xa : Nat), .int .i64 (xb : Nat), .int .i64 (xc : Nat), .int .i64 (xd : Nat), .bool P] #[.slice (some ⟨bo, oo, none⟩) (2 * C.length) co] zeroF (w2.alloc (.cells #[.slice (some ⟨g, 0, none⟩) m m] 116))) := (by
  have hga:=World.grownBy_alloc w2 (.cells #[.slice (some ⟨g,0,none⟩) m m] 116) none
  have l0:w.heap.size<W0.heap.size:=by have:=HSZ.out;omega
  have l1:w.heap.size+1<W0.heap.size:=by have:=HSZ.out;omega
  have z2:=hg2.size
  refine⟨⟨_,HPL.out.any hga⟩,?_,?_,alloc_at rfl,(HB0.out.grown hg2 HB0.out.size (fun q hq=>by cases hq)).alloc (by have:=HB0.out.size;omega) _,hs0',by omega⟩
  · exact alloc_old ((hg2.block _ l0 (by simp)).trans HT0.out.1)
  · exact alloc_old ((hg2.block _ l1 (by simp)).trans HT0.out.2):RwSt w m g w2.heap.size #[.int .i64 (xa:Nat),.int .i64 (xb:Nat),.int .i64 (xc:Nat),.int .i64 (xd:Nat),.bool P] #[.slice (some ⟨bo,oo,none⟩) (2*C.length) co] zeroF (w2.alloc (.cells #[.slice (some ⟨g,0,none⟩) m m] 116)))
 obtain⟨X0,hX0⟩:∃ X,X=w2.alloc (.cells #[.slice (some ⟨g,0,none⟩) m m] 116):=⟨_,rfl⟩
 have HX0:Hid (X0=w2.alloc (.cells #[.slice (some ⟨g,0,none⟩) m m] 116)):=hX0
 rw[<-hX0]at HX
 have k0:X0.cell? ⟨w.heap.size,0,none⟩=some (.int .i64 (xa:Nat)):=block_cell HX.out.cbx rfl
 have k2:X0.cell? ⟨w.heap.size,2,none⟩=some (.int .i64 (xc:Nat)):=block_cell HX.out.cbx rfl
 have k4:X0.cell? ⟨w.heap.size,4,none⟩=some (.bool P):=block_cell HX.out.cbx rfl
 have a1:([(0,1)]:List (Int×Int))=aPol 1 0:=by simp[aPol]
 have a2:([(1,-1)]:List (Int×Int))=aPol 0 (-1):=by simp[aPol]
 have a3:([(0,-1),(1,1)]:List (Int×Int))=aPol (-1) 1:=by simp[aPol]
 have HA1:Hid (([(0,1)]:List (Int×Int))=aPol 1 0/\([(1,-1)]:List (Int×Int))=aPol 0 (-1)/\([(0,-1),(1,1)]:List (Int×Int))=aPol (-1) 1):=⟨a1,a2,a3⟩
 clear hrow hg2 hX0 hgE a1 a2 a3 HPL
 go_upto_region 3 with(fail)
 rw[<-HX0.out]
 clear HX0
 go_quiet (fail)
 obtain⟨X1,hX1⟩:∃ X,X=X0.drewN nq:=⟨_,rfl⟩
 rw[<-hX1]
 have HX1 : Hid (RwSt w m g w2.heap.size #[.int .i64 (xa : Nat), .int .i64 (xb : Nat), .int .i64 (xc : Nat), .int .i64 (xd : Nat), .bool P] #[.slice (some ⟨bo, oo, none⟩) (2 * C.length) co] zeroF X1) := (by
  have hb:Below X0.heap.size X0 X1:=by rw[hX1];exact below_drewN (Below.refl _ _) _
  obtain⟨vals,hp⟩:=HX.out.plc
  exact HX.out.grow ⟨vals,hp.any (grown_below hb none)⟩ (grown_below hb _):RwSt w m g w2.heap.size #[.int .i64 (xa:Nat),.int .i64 (xb:Nat),.int .i64 (xc:Nat),.int .i64 (xd:Nat),.bool P] #[.slice (some ⟨bo,oo,none⟩) (2*C.length) co] zeroF X1)
 have hl2:2*C.length<=40:=by omega
 clear hX1 k0 k2 k4 HX
 have k4:X1.cell? ⟨w.heap.size,4,none⟩=some (.bool P):=block_cell HX1.out.cbx rfl
 cases P with
 |true=>
  have n0:smallF zeroF 10:=fun j=>by have:=small_zero j;omega
  have n1:smallF (addFa zeroF oc 1 0) 10:=fun j=>by have:=small_add small_zero oc (dx:=1) (dy:=0) (by omega) (by omega) j;omega
  have n2:smallF (addFa (addFa zeroF oc 1 0) oa 0 (-1)) 10:=fun j=>by have:=small_add (small_add small_zero oc (dx:=1) (dy:=0) (by omega) (by omega)) oa (dx:=0) (dy := -1) (by omega) (by omega) j;omega
  have HN:Hid (smallF zeroF 10/\smallF (addFa zeroF oc 1 0) 10/\smallF (addFa (addFa zeroF oc 1 0) oa 0 (-1)) 10):=⟨n0,n1,n2⟩
  clear n0 n1 n2
  have HC1:Hid (Calls Try.prog 71 #[.int .i64 (xc:Nat),.slice (some ⟨X1.heap.size,0,none⟩) 1 1,.pointer (some ⟨w.heap.size+1,0,none⟩),.pointer (some ⟨w2.heap.size,0,none⟩)] (X1.alloc (.cells #[.int .i64 0,.int .i64 1] 95)) fun e w'=>e=.returned (.tuple #[])/\RwSt w m g w2.heap.size #[.int .i64 (xa:Nat),.int .i64 (xb:Nat),.int .i64 (xc:Nat),.int .i64 (xd:Nat),.bool true] #[.slice (some ⟨bo,oo,none⟩) (2*C.length) co] (addFa zeroF oc 1 0) w'):=RwSt.step HADD.out (HX1.out.alloc _) HN.out.1 (by omega) (by omega) lc.1 lc.2 (by omega) (by omega) hbo HCA.out.2.2 (by rw[<-HA1.out.1];exact poly_new1 X1 0 1 95)
  go_wp2_with (go_at_call 71;refine HC1.out.mono ?_;rintro e9 w3 ⟨rfl,hs3⟩;refine Hid.out ?_)
  refine Lib.hid ?_
  have HX3:Hid (RwSt w m g w2.heap.size #[.int .i64 (xa:Nat),.int .i64 (xb:Nat),.int .i64 (xc:Nat),.int .i64 (xd:Nat),.bool true] #[.slice (some ⟨bo,oo,none⟩) (2*C.length) co] (addFa zeroF oc 1 0) w3):=hs3
  have HC3:Hid (Calls Try.prog 71 #[.int .i64 (xa:Nat),.slice (some ⟨w3.heap.size,0,none⟩) 1 1,.pointer (some ⟨w.heap.size+1,0,none⟩),.pointer (some ⟨w2.heap.size,0,none⟩)] (w3.alloc (.cells #[.int .i64 1,.int .i64 (-1)] 95)) fun e w'=>e=.returned (.tuple #[])/\RwSt w m g w2.heap.size #[.int .i64 (xa:Nat),.int .i64 (xb:Nat),.int .i64 (xc:Nat),.int .i64 (xd:Nat),.bool true] #[.slice (some ⟨bo,oo,none⟩) (2*C.length) co] (addFa (addFa zeroF oc 1 0) oa 0 (-1)) w'):=RwSt.step HADD.out (HX3.out.alloc _) HN.out.2.1 (by omega) (by omega) la.1 la.2 (by omega) (by omega) hbo HCA.out.1 (by rw[<-HA1.out.2.1];exact poly_new1 w3 1 (-1) 95)
  clear hs3
  go_wp2_with (go_at_call 71;refine HC3.out.mono ?_;rintro e9 w4 ⟨rfl,hs4⟩;refine Hid.out ?_)
  refine Lib.hid ?_
  have HX4:Hid (RwSt w m g w2.heap.size #[.int .i64 (xa:Nat),.int .i64 (xb:Nat),.int .i64 (xc:Nat),.int .i64 (xd:Nat),.bool true] #[.slice (some ⟨bo,oo,none⟩) (2*C.length) co] (addFa (addFa zeroF oc 1 0) oa 0 (-1)) w4):=hs4
  have k1:w4.cell? ⟨w.heap.size,1,none⟩=some (.int .i64 (xb:Nat)):=block_cell HX4.out.cbx rfl
  have HC4:Hid (Calls Try.prog 71 #[.int .i64 (xb:Nat),.slice (some ⟨w4.heap.size,0,none⟩) 2 2,.pointer (some ⟨w.heap.size+1,0,none⟩),.pointer (some ⟨w2.heap.size,0,none⟩)] (w4.alloc (.cells #[.int .i64 0,.int .i64 (-1),.int .i64 1,.int .i64 1] 95)) fun e w'=>e=.returned (.tuple #[])/\RwSt w m g w2.heap.size #[.int .i64 (xa:Nat),.int .i64 (xb:Nat),.int .i64 (xc:Nat),.int .i64 (xd:Nat),.bool true] #[.slice (some ⟨bo,oo,none⟩) (2*C.length) co] (addFa (addFa (addFa zeroF oc 1 0) oa 0 (-1)) ob (-1) 1) w'):=RwSt.step HADD.out (HX4.out.alloc _) HN.out.2.2 (by omega) (by omega) lb.1 lb.2 (by omega) (by omega) hbo HCA.out.2.1 (by rw[<-HA1.out.2.2];exact poly_new2 w4 0 (-1) 1 1 95)
  clear hs4
  go_wp2_with (go_at_call 71;refine HC4.out.mono ?_;rintro e9 w5 ⟨rfl,hs5⟩;refine Hid.out ?_)
  refine Lib.hid ?_
  have HX5:Hid (RwSt w m g w2.heap.size #[.int .i64 (xa:Nat),.int .i64 (xb:Nat),.int .i64 (xc:Nat),.int .i64 (xd:Nat),.bool true] #[.slice (some ⟨bo,oo,none⟩) (2*C.length) co] (addFa (addFa (addFa zeroF oc 1 0) oa 0 (-1)) ob (-1) 1) w5):=hs5
  have p0:w5.cell? ⟨w2.heap.size,0,none⟩=some (.slice (some ⟨g,0,none⟩) m m):=block_cell HX5.out.pbx rfl
  clear hs5 k1
  go_wp2
  go_ret
  obtain⟨vals,hp⟩:=HX5.out.plc
  exact⟨g,rfl,⟨vals,hp⟩,HX5.out.bel⟩
 |false=>
  have n0:smallF zeroF 10:=fun j=>by have:=small_zero j;omega
  have n1:smallF (addFa zeroF oa 1 0) 10:=fun j=>by have:=small_add small_zero oa (dx:=1) (dy:=0) (by omega) (by omega) j;omega
  have n2:smallF (addFa (addFa zeroF oa 1 0) oc 0 (-1)) 10:=fun j=>by have:=small_add (small_add small_zero oa (dx:=1) (dy:=0) (by omega) (by omega)) oc (dx:=0) (dy := -1) (by omega) (by omega) j;omega
  have HN:Hid (smallF zeroF 10/\smallF (addFa zeroF oa 1 0) 10/\smallF (addFa (addFa zeroF oa 1 0) oc 0 (-1)) 10):=⟨n0,n1,n2⟩
  clear n0 n1 n2
  have HC1:Hid (Calls Try.prog 71 #[.int .i64 (xa:Nat),.slice (some ⟨X1.heap.size,0,none⟩) 1 1,.pointer (some ⟨w.heap.size+1,0,none⟩),.pointer (some ⟨w2.heap.size,0,none⟩)] (X1.alloc (.cells #[.int .i64 0,.int .i64 1] 95)) fun e w'=>e=.returned (.tuple #[])/\RwSt w m g w2.heap.size #[.int .i64 (xa:Nat),.int .i64 (xb:Nat),.int .i64 (xc:Nat),.int .i64 (xd:Nat),.bool false] #[.slice (some ⟨bo,oo,none⟩) (2*C.length) co] (addFa zeroF oa 1 0) w'):=RwSt.step HADD.out (HX1.out.alloc _) HN.out.1 (by omega) (by omega) la.1 la.2 (by omega) (by omega) hbo HCA.out.1 (by rw[<-HA1.out.1];exact poly_new1 X1 0 1 95)
  go_wp2_with (go_at_call 71;refine HC1.out.mono ?_;rintro e9 w3 ⟨rfl,hs3⟩;refine Hid.out ?_)
  refine Lib.hid ?_
  have HX3:Hid (RwSt w m g w2.heap.size #[.int .i64 (xa:Nat),.int .i64 (xb:Nat),.int .i64 (xc:Nat),.int .i64 (xd:Nat),.bool false] #[.slice (some ⟨bo,oo,none⟩) (2*C.length) co] (addFa zeroF oa 1 0) w3):=hs3
  have HC3:Hid (Calls Try.prog 71 #[.int .i64 (xc:Nat),.slice (some ⟨w3.heap.size,0,none⟩) 1 1,.pointer (some ⟨w.heap.size+1,0,none⟩),.pointer (some ⟨w2.heap.size,0,none⟩)] (w3.alloc (.cells #[.int .i64 1,.int .i64 (-1)] 95)) fun e w'=>e=.returned (.tuple #[])/\RwSt w m g w2.heap.size #[.int .i64 (xa:Nat),.int .i64 (xb:Nat),.int .i64 (xc:Nat),.int .i64 (xd:Nat),.bool false] #[.slice (some ⟨bo,oo,none⟩) (2*C.length) co] (addFa (addFa zeroF oa 1 0) oc 0 (-1)) w'):=RwSt.step HADD.out (HX3.out.alloc _) HN.out.2.1 (by omega) (by omega) lc.1 lc.2 (by omega) (by omega) hbo HCA.out.2.2 (by rw[<-HA1.out.2.1];exact poly_new1 w3 1 (-1) 95)
  clear hs3
  go_wp2_with (go_at_call 71;refine HC3.out.mono ?_;rintro e9 w4 ⟨rfl,hs4⟩;refine Hid.out ?_)
  refine Lib.hid ?_
  have HX4:Hid (RwSt w m g w2.heap.size #[.int .i64 (xa:Nat),.int .i64 (xb:Nat),.int .i64 (xc:Nat),.int .i64 (xd:Nat),.bool false] #[.slice (some ⟨bo,oo,none⟩) (2*C.length) co] (addFa (addFa zeroF oa 1 0) oc 0 (-1)) w4):=hs4
  have k1:w4.cell? ⟨w.heap.size,1,none⟩=some (.int .i64 (xb:Nat)):=block_cell HX4.out.cbx rfl
  have HC4:Hid (Calls Try.prog 71 #[.int .i64 (xb:Nat),.slice (some ⟨w4.heap.size,0,none⟩) 2 2,.pointer (some ⟨w.heap.size+1,0,none⟩),.pointer (some ⟨w2.heap.size,0,none⟩)] (w4.alloc (.cells #[.int .i64 0,.int .i64 (-1),.int .i64 1,.int .i64 1] 95)) fun e w'=>e=.returned (.tuple #[])/\RwSt w m g w2.heap.size #[.int .i64 (xa:Nat),.int .i64 (xb:Nat),.int .i64 (xc:Nat),.int .i64 (xd:Nat),.bool false] #[.slice (some ⟨bo,oo,none⟩) (2*C.length) co] (addFa (addFa (addFa zeroF oa 1 0) oc 0 (-1)) ob (-1) 1) w'):=RwSt.step HADD.out (HX4.out.alloc _) HN.out.2.2 (by omega) (by omega) lb.1 lb.2 (by omega) (by omega) hbo HCA.out.2.1 (by rw[<-HA1.out.2.2];exact poly_new2 w4 0 (-1) 1 1 95)
  clear hs4
  go_wp2_with (go_at_call 71;refine HC4.out.mono ?_;rintro e9 w5 ⟨rfl,hs5⟩;refine Hid.out ?_)
  refine Lib.hid ?_
  have HX5:Hid (RwSt w m g w2.heap.size #[.int .i64 (xa:Nat),.int .i64 (xb:Nat),.int .i64 (xc:Nat),.int .i64 (xd:Nat),.bool false] #[.slice (some ⟨bo,oo,none⟩) (2*C.length) co] (addFa (addFa (addFa zeroF oa 1 0) oc 0 (-1)) ob (-1) 1) w5):=hs5
  have p0:w5.cell? ⟨w2.heap.size,0,none⟩=some (.slice (some ⟨g,0,none⟩) m m):=block_cell HX5.out.pbx rfl
  clear hs5 k1
  go_wp2
  go_ret
  obtain⟨vals,hp⟩:=HX5.out.plc
  exact⟨g,rfl,⟨vals,hp⟩,HX5.out.bel⟩
end Go.Proofs.Ytgagenmkpmmpfaa
