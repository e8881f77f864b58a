/- Several texts of the proof, one behind the other. -/
import Derived.Test.YtookanmeflbdlaaGreatDoorTkhP
import Derived.Test.YtookanmeflbdlaaGreatDoorAL1P
import Derived.Deep.Cut
/- The walk of alex.row. -/
namespace Go.Proofs.YtookanmeflbdlaaGreatDoor
open Go.RowKit
set_option maxHeartbeats 8000000
set_option maxRecDepth 100000
theorem Zh4:(Tryz.prog.info? 26).map (fun i=>(i.zero,i.size,i.bytes))=some (some (.slice none 0 0),1,24):=by kernel_rfl
theorem Qw1 (X:World) (e c:Int) (t:TypeId):Poly.Poly (X.alloc (.cells #[.int .i64 e,.int .i64 c] t)) (X.alloc (.cells #[.int .i64 e,.int .i64 c] t)).heap.size (.slice (some ⟨X.heap.size,0,none⟩) 1 1) [(e,c)]:=by
 have hb:(X.alloc (.cells #[.int .i64 e,.int .i64 c] t)).heap[X.heap.size]?=some (.cells #[.int .i64 e,.int .i64 c] t (0,0)):=alloc_at rfl
 refine Or.inr (Or.inr ⟨X.heap.size,0,1,rfl,by simp,fun i hi=>?_⟩)
 obtain rfl:i=0:=by simpa using hi
 exact⟨QQ0 hb rfl,QQ0 hb rfl⟩
theorem Xz8 (X:World) (e c e' c':Int) (t:TypeId):Poly.Poly (X.alloc (.cells #[.int .i64 e,.int .i64 c,.int .i64 e',.int .i64 c'] t)) (X.alloc (.cells #[.int .i64 e,.int .i64 c,.int .i64 e',.int .i64 c'] t)).heap.size (.slice (some ⟨X.heap.size,0,none⟩) 2 2) [(e,c),(e',c')]:=by
 have hb:(X.alloc (.cells #[.int .i64 e,.int .i64 c,.int .i64 e',.int .i64 c'] t)).heap[X.heap.size]?=some (.cells #[.int .i64 e,.int .i64 c,.int .i64 e',.int .i64 c'] t (0,0)):=alloc_at rfl
 refine Or.inr (Or.inr ⟨X.heap.size,0,2,rfl,by simp,fun i hi=>?_⟩)
 have:i=0∨i=1:=by
  have:i<2:=by simpa using hi
  omega
 rcases this with rfl|rfl
 · exact⟨QQ0 hb rfl,QQ0 hb rfl⟩
 · exact⟨QQ0 hb rfl,QQ0 hb rfl⟩
structure RwSt (w:World) (m g gp:Nat) (bc bo:Array Value) (F:Nat->Int×Int) (X:World):Prop where
 plc:∃ vals,PlcAt w.heap.size m g vals F X
 cbx:X.heap[w.heap.size]?=some (.cells bc 63 (0,0))
 obx:X.heap[w.heap.size+1]?=some (.cells bo 67 (0,0))
 pbx:X.heap[gp]?=some (.cells #[.slice (some ⟨g,0,none⟩) m m] 89 (0,0))
 bel:Below w.heap.size w X
 big:w.heap.size+2<=g
 ne:gp≠g
theorem RwSt.grow {w:World} {m g gp:Nat} {bc bo:Array Value} {F F':Nat->Int×Int} {X Y:World} (h:RwSt w m g gp bc bo F X) (hp:∃ vals,PlcAt w.heap.size m g vals F' Y) (hg:X.grownBy Y (some g)):RwSt w m g gp bc bo F' Y:=by
 have lt:∀ {k:Nat} {o:Obj},X.heap[k]?=some o->k<X.heap.size:=fun h=>(Array.getElem?_eq_some_iff.1 h).1
 have hb:=h.big
 exact⟨hp,(hg.block _ (lt h.cbx) (fun e=>by have:=Option.some.inj e;omega)).trans h.cbx,(hg.block _ (lt h.obx) (fun e=>by have:=Option.some.inj e;omega)).trans h.obx,(hg.block _ (lt h.pbx) (fun e=>h.ne (Option.some.inj e))).trans h.pbx,h.bel.grown hg h.bel.size (fun q hq=>by have:=Option.some.inj hq;omega),h.big,h.ne⟩
theorem RwSt.alloc {w:World} {m g gp:Nat} {bc bo:Array Value} {F:Nat->Int×Int} {X:World} (h:RwSt w m g gp bc bo F X) (o:Obj):RwSt w m g gp bc bo F (X.alloc o):=by
 obtain⟨vals,hp⟩:=h.plc
 exact h.grow ⟨vals,hp.any (World.grownBy_alloc _ _ none)⟩ (World.grownBy_alloc _ _ _)
theorem RwSt.step {w : World} {m g gp : Nat} {bc : Array Value} {F : Nat → Int × Int} {X : World} {b' o' no co arc p : Nat} {v2 : Value} {dx dy : Int} (hAdd : XW3) (h : RwSt w m g gp bc #[.slice (some ⟨b', o', none⟩) no co] F X) (hF : QY0 F 10) (hdx : -1 ≤ dx ∧ dx ≤ 1) (hdy : -1 ≤ dy ∧ dy ≤ 1) (ha : 1 ≤ arc) (han : arc ≤ no) (hno : no ≤ 40) (hp : p < m) (hb : b' < w.heap.size) (cA : w.cell? ⟨b', o' + (arc - 1), none⟩ = some (.int .i64 (p : Nat))) (h2 : Poly.Poly X X.heap.size v2 (QY5 dx dy)) :
    Calls Tryz.prog 86 #[.int .i64 (arc:Nat),v2,.pointer (some ⟨w.heap.size+1,0,none⟩),.pointer (some ⟨gp,0,none⟩)] X fun e w'=>e=.returned (.tuple #[])/\RwSt w m g gp bc #[.slice (some ⟨b',o',none⟩) no co] (QK0 F p dx dy) w':=by
 obtain⟨vals,hpl⟩:=h.plc
 refine(ZQ1 hAdd w.heap.size m g (w.heap.size+1) gp vals F (some ⟨b',o',none⟩) no co b' o' arc p v2 dx dy X h.bel.size hF hdx hdy ha han hno hp rfl h.obx h.pbx (bcell h.bel hb cA) h2 hpl).mono ?_
 rintro e w' ⟨e1,hv,hg⟩
 exact⟨e1,h.grow hv hg⟩
theorem ZQ0 (hAdd : XW3) (C : List Cr) (xa xb xc xd : Nat) (P : Bool) (oa ob oc : Nat) (m : Nat) (ao : Option Addr) (co bo oo : Nat) (w : World) (hm : m ≤ 40) (hl : C.length ≤ 16) (hao : ao = some ⟨bo, oo, none⟩) (hbo : bo < w.heap.size)
    (la:1<=xa/\xa<=2*C.length) (lb:1<=xb/\xb<=2*C.length) (lc:1<=xc/\xc<=2*C.length) (ma:oa<m) (mb:ob<m) (mc:oc<m)
    (ca:w.cell? ⟨bo,oo+(xa-1),none⟩=some (.int .i64 (oa:Nat))) (cb:w.cell? ⟨bo,oo+(xb-1),none⟩=some (.int .i64 (ob:Nat))) (cc:w.cell? ⟨bo,oo+(xc-1),none⟩=some (.int .i64 (oc:Nat))):
    Calls Tryz.prog 69 #[.agg #[.int .i64 (xa:Nat),.int .i64 (xb:Nat),.int .i64 (xc:Nat),.int .i64 (xd:Nat),.bool P],.slice ao (2*C.length) co,.int .i64 (m:Nat)] w fun e w'=>∃ g vals,e=.returned (.slice (some ⟨g,0,none⟩) m m)/\PlcAt w.heap.size m g vals (rowF (if P=true then oc else oa) (if P=true then oa else oc) ob) w'/\Below w.heap.size w w':=by
 obtain⟨i1,hj,hy0,hy1,hy2⟩:=info_parts Zh4
 have HADD:Hid XW3:=hAdd
 have HCA:Hid (w.cell? ⟨bo,oo+(xa-1),none⟩=some (.int .i64 (oa:Nat))/\w.cell? ⟨bo,oo+(xb-1),none⟩=some (.int .i64 (ob:Nat))/\w.cell? ⟨bo,oo+(xc-1),none⟩=some (.int .i64 (oc:Nat))):=⟨ca,cb,cc⟩
 clear ca cb cc hAdd
 subst hao
 obtain⟨W0,hW0⟩:∃ W,W=(w.alloc (.cells #[.int .i64 (xa:Nat),.int .i64 (xb:Nat),.int .i64 (xc:Nat),.int .i64 (xd:Nat),.bool P] 63)).alloc (.cells #[.slice (some ⟨bo,oo,none⟩) (2*C.length) co] 67):=⟨_,rfl⟩
 have HW0:=hidB hW0
 have HB0:=hidB (show Below w.heap.size w W0 by rw[hW0];exact QW3 _ _ _)
 have hs0:W0.heap.size=w.heap.size+2:=by rw[hW0];simp
 have HT0:=hidB (show W0.heap[w.heap.size]?=some (.cells #[.int .i64 (xa:Nat),.int .i64 (xb:Nat),.int .i64 (xc:Nat),.int .i64 (xd:Nat),.bool P] 63 (0,0))/\W0.heap[w.heap.size+1]?=some (.cells #[.slice (some ⟨bo,oo,none⟩) (2*C.length) co] 67 (0,0)) by rw[hW0];exact⟨alloc_old (alloc_at rfl),alloc_at (by simp)⟩)
 have HSZ:=hidB hs0
 have hs0':w.heap.size+2<=W0.heap.size:=by omega
 clear hW0 hs0
 go_enter Tryz.func69,Tryz.ntmps69
 go_wp2_with (first|(at_make;rw[<-HW0.out];refine wpList_make_full _ rfl _ _ 89 rfl w.heap.size 26 i1 (.slice none 0 0) 1 Tryz.underlying89 hj hy0 hy1 .i64 .i64 _ _ m rfl rfl rfl rfl (by rw[hy2];omega) (by unfold maxLen;omega) (by omega) ?_;intro w2 hrow hg2;refine Hid.out ?_))
 refine Lib.hid ?_
 rw[Qy7]at hrow
 obtain⟨g,hgE⟩:∃ g,W0.heap.size=g:=⟨_,rfl⟩
 rw[hgE]at hrow hs0' ⊢
 have HPL:Hid (PlcAt w.heap.size m g (fun _=>.slice none 0 0) QJ4 w2):=⟨hrow,fun j _=>World.ownsRow_nil _ _ _ _⟩
 have hlt2:g<w2.heap.size:=(hrow.lt g rfl).2
 have HX : Hid (RwSt w m g w2.heap.size #[.int .i64 (xa : Nat), .int .i64 (xb : Nat), .int .i64 (xc : Nat), .int .i64 (xd : Nat), .bool P] #[.slice (some ⟨bo, oo, none⟩) (2 * C.length) co] QJ4 (w2.alloc (.cells #[.slice (some ⟨g, 0, none⟩) m m] 89))) := (by
  have hga:=World.grownBy_alloc w2 (.cells #[.slice (some ⟨g,0,none⟩) m m] 89) none
  have l0:w.heap.size<W0.heap.size:=by have:=HSZ.out;omega
  have l1:w.heap.size+1<W0.heap.size:=by have:=HSZ.out;omega
  have z2:=hg2.size
  refine⟨⟨_,HPL.out.any hga⟩,?_,?_,alloc_at rfl,(HB0.out.grown hg2 HB0.out.size (fun q hq=>by cases hq)).alloc (by have:=HB0.out.size;omega) _,hs0',by omega⟩
  · exact alloc_old ((hg2.block _ l0 (by simp)).trans HT0.out.1)
  · exact alloc_old ((hg2.block _ l1 (by simp)).trans HT0.out.2):RwSt w m g w2.heap.size #[.int .i64 (xa:Nat),.int .i64 (xb:Nat),.int .i64 (xc:Nat),.int .i64 (xd:Nat),.bool P] #[.slice (some ⟨bo,oo,none⟩) (2*C.length) co] QJ4 (w2.alloc (.cells #[.slice (some ⟨g,0,none⟩) m m] 89)))
 obtain⟨X0,hX0⟩:∃ X,X=w2.alloc (.cells #[.slice (some ⟨g,0,none⟩) m m] 89):=⟨_,rfl⟩
 have HX0:=hidB hX0
 rw[<-hX0]at HX
 have k0:=QQ0 (i:=0) HX.out.cbx rfl
 have k2:=QQ0 (i:=2) HX.out.cbx rfl
 have k4:=QQ0 (i:=4) HX.out.cbx rfl
 have a1:([(0,1)]:List (Int×Int))=QY5 1 0:=by simp[QY5]
 have a2:([(1,-1)]:List (Int×Int))=QY5 0 (-1):=by simp[QY5]
 have a3:([(0,-1),(1,1)]:List (Int×Int))=QY5 (-1) 1:=by simp[QY5]
 have HA1:Hid (([(0,1)]:List (Int×Int))=QY5 1 0/\([(1,-1)]:List (Int×Int))=QY5 0 (-1)/\([(0,-1),(1,1)]:List (Int×Int))=QY5 (-1) 1):=⟨a1,a2,a3⟩
 clear hrow hg2 hX0 hgE a1 a2 a3 HPL
 go_upto_region 3 with(fail)
 rw[<-HX0.out]
 clear HX0
 go_quiet (fail)
 obtain⟨X1,hX1⟩:∃ X,X=X0.drewN nq:=⟨_,rfl⟩
 rw[<-hX1]
 have HX1 : Hid (RwSt w m g w2.heap.size #[.int .i64 (xa : Nat), .int .i64 (xb : Nat), .int .i64 (xc : Nat), .int .i64 (xd : Nat), .bool P] #[.slice (some ⟨bo, oo, none⟩) (2 * C.length) co] QJ4 X1) := (by
  have hb:Below X0.heap.size X0 X1:=by rw[hX1];exact below_drewN (Below.refl _ _) _
  obtain⟨vals,hp⟩:=HX.out.plc
  exact HX.out.grow ⟨vals,hp.any (grown_below hb none)⟩ (grown_below hb _):RwSt w m g w2.heap.size #[.int .i64 (xa:Nat),.int .i64 (xb:Nat),.int .i64 (xc:Nat),.int .i64 (xd:Nat),.bool P] #[.slice (some ⟨bo,oo,none⟩) (2*C.length) co] QJ4 X1)
 have hl2:2*C.length<=40:=by omega
 clear hX1 k0 k2 k4 HX
 have k4:=QQ0 (i:=4) HX1.out.cbx rfl
 cases P with
 |true=>
  have n0:QY0 QJ4 10:=fun j=>by have:=QB1 j;omega
  have n1:QY0 (QK0 QJ4 oc 1 0) 10:=fun j=>by have:=QG2 QB1 oc (dx:=1) (dy:=0) (by omega) (by omega) j;omega
  have n2:QY0 (QK0 (QK0 QJ4 oc 1 0) oa 0 (-1)) 10:=fun j=>by have:=QG2 (QG2 QB1 oc (dx:=1) (dy:=0) (by omega) (by omega)) oa (dx:=0) (dy := -1) (by omega) (by omega) j;omega
  have HN:Hid (QY0 QJ4 10/\QY0 (QK0 QJ4 oc 1 0) 10/\QY0 (QK0 (QK0 QJ4 oc 1 0) oa 0 (-1)) 10):=⟨n0,n1,n2⟩
  clear n0 n1 n2
  have HC1:Hid (Calls Tryz.prog 86 #[.int .i64 (xc:Nat),.slice (some ⟨X1.heap.size,0,none⟩) 1 1,.pointer (some ⟨w.heap.size+1,0,none⟩),.pointer (some ⟨w2.heap.size,0,none⟩)] (X1.alloc (.cells #[.int .i64 0,.int .i64 1] 45)) fun e w'=>e=.returned (.tuple #[])/\RwSt w m g w2.heap.size #[.int .i64 (xa:Nat),.int .i64 (xb:Nat),.int .i64 (xc:Nat),.int .i64 (xd:Nat),.bool true] #[.slice (some ⟨bo,oo,none⟩) (2*C.length) co] (QK0 QJ4 oc 1 0) w'):=RwSt.step HADD.out (HX1.out.alloc _) HN.out.1 (by omega) (by omega) lc.1 lc.2 (by omega) (by omega) hbo HCA.out.2.2 (by rw[<-HA1.out.1];exact Qw1 X1 0 1 45)
  go_wp2_with (go_at_call 86;refine HC1.out.mono ?_;rintro e9 w3 ⟨rfl,hs3⟩;refine Hid.out ?_)
  refine Lib.hid ?_
  have HX3:=hidB hs3
  have HC3:Hid (Calls Tryz.prog 86 #[.int .i64 (xa:Nat),.slice (some ⟨w3.heap.size,0,none⟩) 1 1,.pointer (some ⟨w.heap.size+1,0,none⟩),.pointer (some ⟨w2.heap.size,0,none⟩)] (w3.alloc (.cells #[.int .i64 1,.int .i64 (-1)] 45)) fun e w'=>e=.returned (.tuple #[])/\RwSt w m g w2.heap.size #[.int .i64 (xa:Nat),.int .i64 (xb:Nat),.int .i64 (xc:Nat),.int .i64 (xd:Nat),.bool true] #[.slice (some ⟨bo,oo,none⟩) (2*C.length) co] (QK0 (QK0 QJ4 oc 1 0) oa 0 (-1)) w'):=RwSt.step HADD.out (HX3.out.alloc _) HN.out.2.1 (by omega) (by omega) la.1 la.2 (by omega) (by omega) hbo HCA.out.1 (by rw[<-HA1.out.2.1];exact Qw1 w3 1 (-1) 45)
  clear hs3
  go_wp2_with (go_at_call 86;refine HC3.out.mono ?_;rintro e9 w4 ⟨rfl,hs4⟩;refine Hid.out ?_)
  refine Lib.hid ?_
  have HX4:=hidB hs4
  have k1:=QQ0 (i:=1) HX4.out.cbx rfl
  have HC4:Hid (Calls Tryz.prog 86 #[.int .i64 (xb:Nat),.slice (some ⟨w4.heap.size,0,none⟩) 2 2,.pointer (some ⟨w.heap.size+1,0,none⟩),.pointer (some ⟨w2.heap.size,0,none⟩)] (w4.alloc (.cells #[.int .i64 0,.int .i64 (-1),.int .i64 1,.int .i64 1] 45)) fun e w'=>e=.returned (.tuple #[])/\RwSt w m g w2.heap.size #[.int .i64 (xa:Nat),.int .i64 (xb:Nat),.int .i64 (xc:Nat),.int .i64 (xd:Nat),.bool true] #[.slice (some ⟨bo,oo,none⟩) (2*C.length) co] (QK0 (QK0 (QK0 QJ4 oc 1 0) oa 0 (-1)) ob (-1) 1) w'):=RwSt.step HADD.out (HX4.out.alloc _) HN.out.2.2 (by omega) (by omega) lb.1 lb.2 (by omega) (by omega) hbo HCA.out.2.1 (by rw[<-HA1.out.2.2];exact Xz8 w4 0 (-1) 1 1 45)
  clear hs4
  go_wp2_with (go_at_call 86;refine HC4.out.mono ?_;rintro e9 w5 ⟨rfl,hs5⟩;refine Hid.out ?_)
  refine Lib.hid ?_
  have HX5:=hidB hs5
  have p0:=QQ0 (i:=0) HX5.out.pbx rfl
  clear hs5 k1
  go_wp2
  go_ret
  obtain⟨vals,hp⟩:=HX5.out.plc
  exact⟨g,rfl,⟨vals,hp⟩,HX5.out.bel⟩
 |false=>
  have n0:QY0 QJ4 10:=fun j=>by have:=QB1 j;omega
  have n1:QY0 (QK0 QJ4 oa 1 0) 10:=fun j=>by have:=QG2 QB1 oa (dx:=1) (dy:=0) (by omega) (by omega) j;omega
  have n2:QY0 (QK0 (QK0 QJ4 oa 1 0) oc 0 (-1)) 10:=fun j=>by have:=QG2 (QG2 QB1 oa (dx:=1) (dy:=0) (by omega) (by omega)) oc (dx:=0) (dy := -1) (by omega) (by omega) j;omega
  have HN:Hid (QY0 QJ4 10/\QY0 (QK0 QJ4 oa 1 0) 10/\QY0 (QK0 (QK0 QJ4 oa 1 0) oc 0 (-1)) 10):=⟨n0,n1,n2⟩
  clear n0 n1 n2
  have HC1:Hid (Calls Tryz.prog 86 #[.int .i64 (xa:Nat),.slice (some ⟨X1.heap.size,0,none⟩) 1 1,.pointer (some ⟨w.heap.size+1,0,none⟩),.pointer (some ⟨w2.heap.size,0,none⟩)] (X1.alloc (.cells #[.int .i64 0,.int .i64 1] 45)) fun e w'=>e=.returned (.tuple #[])/\RwSt w m g w2.heap.size #[.int .i64 (xa:Nat),.int .i64 (xb:Nat),.int .i64 (xc:Nat),.int .i64 (xd:Nat),.bool false] #[.slice (some ⟨bo,oo,none⟩) (2*C.length) co] (QK0 QJ4 oa 1 0) w'):=RwSt.step HADD.out (HX1.out.alloc _) HN.out.1 (by omega) (by omega) la.1 la.2 (by omega) (by omega) hbo HCA.out.1 (by rw[<-HA1.out.1];exact Qw1 X1 0 1 45)
  go_wp2_with (go_at_call 86;refine HC1.out.mono ?_;rintro e9 w3 ⟨rfl,hs3⟩;refine Hid.out ?_)
  refine Lib.hid ?_
  have HX3:=hidB hs3
  have HC3:Hid (Calls Tryz.prog 86 #[.int .i64 (xc:Nat),.slice (some ⟨w3.heap.size,0,none⟩) 1 1,.pointer (some ⟨w.heap.size+1,0,none⟩),.pointer (some ⟨w2.heap.size,0,none⟩)] (w3.alloc (.cells #[.int .i64 1,.int .i64 (-1)] 45)) fun e w'=>e=.returned (.tuple #[])/\RwSt w m g w2.heap.size #[.int .i64 (xa:Nat),.int .i64 (xb:Nat),.int .i64 (xc:Nat),.int .i64 (xd:Nat),.bool false] #[.slice (some ⟨bo,oo,none⟩) (2*C.length) co] (QK0 (QK0 QJ4 oa 1 0) oc 0 (-1)) w'):=RwSt.step HADD.out (HX3.out.alloc _) HN.out.2.1 (by omega) (by omega) lc.1 lc.2 (by omega) (by omega) hbo HCA.out.2.2 (by rw[<-HA1.out.2.1];exact Qw1 w3 1 (-1) 45)
  clear hs3
  go_wp2_with (go_at_call 86;refine HC3.out.mono ?_;rintro e9 w4 ⟨rfl,hs4⟩;refine Hid.out ?_)
  refine Lib.hid ?_
  have HX4:=hidB hs4
  have k1:=QQ0 (i:=1) HX4.out.cbx rfl
  have HC4:Hid (Calls Tryz.prog 86 #[.int .i64 (xb:Nat),.slice (some ⟨w4.heap.size,0,none⟩) 2 2,.pointer (some ⟨w.heap.size+1,0,none⟩),.pointer (some ⟨w2.heap.size,0,none⟩)] (w4.alloc (.cells #[.int .i64 0,.int .i64 (-1),.int .i64 1,.int .i64 1] 45)) fun e w'=>e=.returned (.tuple #[])/\RwSt w m g w2.heap.size #[.int .i64 (xa:Nat),.int .i64 (xb:Nat),.int .i64 (xc:Nat),.int .i64 (xd:Nat),.bool false] #[.slice (some ⟨bo,oo,none⟩) (2*C.length) co] (QK0 (QK0 (QK0 QJ4 oa 1 0) oc 0 (-1)) ob (-1) 1) w'):=RwSt.step HADD.out (HX4.out.alloc _) HN.out.2.2 (by omega) (by omega) lb.1 lb.2 (by omega) (by omega) hbo HCA.out.2.1 (by rw[<-HA1.out.2.2];exact Xz8 w4 0 (-1) 1 1 45)
  clear hs4
  go_wp2_with (go_at_call 86;refine HC4.out.mono ?_;rintro e9 w5 ⟨rfl,hs5⟩;refine Hid.out ?_)
  refine Lib.hid ?_
  have HX5:=hidB hs5
  have p0:=QQ0 (i:=0) HX5.out.pbx rfl
  clear hs5 k1
  go_wp2
  go_ret
  obtain⟨vals,hp⟩:=HX5.out.plc
  exact⟨g,rfl,⟨vals,hp⟩,HX5.out.bel⟩
end Go.Proofs.YtookanmeflbdlaaGreatDoor
/- The walk of canon.both. -/
namespace Go.Proofs.YtookanmeflbdlaaGreatDoor
open Go.RowKit
set_option maxHeartbeats 4000000
set_option maxRecDepth 100000
structure DrawIs (w:World) (v:Value) (loops:Int) (C:List Cr) (c0 c1 c2 c3:Value):Prop where
 no:QQ6 C loops=false->c0=.slice none 0 0/\c1=.int .i64 0/\c2=.slice none 0 0/\c3=.slice none 0 0
 yes:QQ6 C loops=true->∃ a cap gF cF gT cT,v=.slice a C.length cap/\c0=v/\c1=.int .i64 loops/\c2=.slice (some ⟨gF,0,none⟩) (2*C.length+1) cF/\c3=.slice (some ⟨gT,0,none⟩) (2*C.length+1) cT
def Shaped (c0 c1 c2 c3:Value):Prop:=∃ (a:Option Addr) (n cap:Nat) (l:Int) (gF:Option Addr) (nF cF:Nat) (gT:Option Addr) (nT cT:Nat),c0=.slice a n cap/\c1=.int .i64 l/\c2=.slice gF nF cF/\c3=.slice gT nT cT
theorem QB4 {w:World} {k:Nat} {o:Option Obj} (h:w.heap[k]?=o):w.drew.heap[k]?=o:=h
theorem QG6 {w:World} {B:Nat} {v:Value} {C:List Cr} (h:Crs w B v C):∃ a cap,v=.slice a C.length cap:=by
 obtain⟨a,cap,rfl,-,-⟩:=h
 exact⟨a,cap,rfl⟩
theorem of_cells {v : Value} {C : List Cr} {loops : Int} {w : World} (h : Crs w w.heap.size v C) :
    Calls Tryz.prog 44 #[.agg #[v,.int .i64 loops]] w fun e w'=>∃ c0 c1 c2 c3,e=.returned (.tuple #[.agg #[c0,c1,c2,c3],.bool (QQ6 C loops)])/\Below w.heap.size w w'/\DrawIs w v loops C c0 c1 c2 c3:=by
 refine(ZX2 v C loops w h).mono fun e w' hq=>?_
 obtain⟨d,rfl,hb,hd⟩:=hq
 cases hm:QQ6 C loops with
 |false=>
  refine⟨.slice none 0 0,.int .i64 0,.slice none 0 0,.slice none 0 0,by rw[hd.no hm];rfl,hb,⟨fun _=>⟨rfl,rfl,rfl,rfl⟩,fun h=>(by rw[hm]at h;cases h)⟩⟩
 |true=>
  obtain⟨gF,cF,gT,cT,rfl,-,-⟩:=hd.yes hm
  obtain⟨a,cap,rfl⟩:=QG6 h
  exact⟨_,_,_,_,rfl,hb,⟨fun h=>(by rw[hm]at h;cases h),fun _=>⟨a,cap,gF,cF,gT,cT,rfl,rfl,rfl,rfl,rfl⟩⟩⟩
theorem KH3 (v1 v2 : Value) (C D : List Cr) (l1 l2 : Int) (w : World) (h1 : Crs w w.heap.size v1 C) (h2 : Crs w w.heap.size v2 D) :
    Calls Tryz.prog 18 #[.agg #[v1,.int .i64 l1],.agg #[v2,.int .i64 l2]] w fun e w'=>∃ c0 c1 c2 c3 d0 d1 d2 d3,e=.returned (.tuple #[.agg #[c0,c1,c2,c3],.agg #[d0,d1,d2,d3],.bool (QQ6 C l1&&QQ6 D l2)])/\Below w.heap.size w w'/\Shaped c0 c1 c2 c3/\Shaped d0 d1 d2 d3/\(QQ6 C l1=true->QQ6 D l2=true->DrawIs w v1 l1 C c0 c1 c2 c3/\DrawIs w v2 l2 D d0 d1 d2 d3):=by
 have HC:=hidB h1
 have HD:=hidB h2
 obtain⟨a,cap,rfl⟩:=QG6 h1
 obtain⟨a',cap',rfl⟩:=QG6 h2
 clear h1 h2
 obtain⟨w0,hw0⟩:∃ w0,w0=(((w.alloc (.cells #[.slice a C.length cap,.int .i64 l1] 24)).alloc (.cells #[.slice a' D.length cap',.int .i64 l2] 24)).alloc (.cells #[.slice none 0 0,.int .i64 0,.slice none 0 0,.slice none 0 0] 49)).alloc (.cells #[.slice none 0 0,.int .i64 0,.slice none 0 0,.slice none 0 0] 49):=⟨_,rfl⟩
 have HW0:=hidB hw0
 have hs0:w0.heap.size=w.heap.size+4:=by rw[hw0];simp
 have HB0:=hidB (show Below w.heap.size w w0 by rw[hw0];exact(QA8 _ _ _ _).alloc (by simp;omega) _)
 have HT1:=hidB (show w0.heap[w.heap.size+1]?=some (.cells #[.slice a' D.length cap',.int .i64 l2] 24 (0,0)) by rw[hw0];exact alloc_old (alloc_old (alloc_at (by simp))))
 have HT2:=hidB (show w0.heap[w.heap.size+1+1]?=some (.cells #[.slice none 0 0,.int .i64 0,.slice none 0 0,.slice none 0 0] 49 (0,0)) by rw[hw0];exact alloc_old (alloc_at (by simp)))
 have HT3:=hidB (show w0.heap[w.heap.size+1+1+1]?=some (.cells #[.slice none 0 0,.int .i64 0,.slice none 0 0,.slice none 0 0] 49 (0,0)) by rw[hw0];exact alloc_at (by simp))
 clear hw0
 go_enter Tryz.func18,Tryz.ntmps18
 go_wp2_with (go_at_call 44;rw[<-HW0.out];refine(of_cells (HC.out.up HB0.out)).mono ?_;rintro e9 w1 ⟨c0,c1,c2,c3,rfl,hb1,hd1⟩;refine Hid.out ?_)
 refine Lib.hid ?_
 have HD1:Hid (QQ6 C l1=true->∃ a cap gF cF gT cT,Value.slice a C.length cap=.slice a C.length cap/\True):=fun _=>⟨none,0,0,0,0,0,rfl,trivial⟩
 have HB1:=hidB hb1
 have hs1:=hb1.size
 have HDI1:=hidB hd1
 have g2:=(hb1.block _ (by omega)).trans HT2.out
 have HG2:=hidB g2
 have HG3:=hidB ((hb1.block _ (by omega)).trans HT3.out)
 have HG1:=hidB ((hb1.block _ (by omega)).trans HT1.out)
 have m0:=QQ0 (i:=0) g2 rfl
 have m1:=QQ0 (i:=1) g2 rfl
 have m2:=QQ0 (i:=2) g2 rfl
 have m3:=QQ0 (i:=3) g2 rfl
 have n0:=QQ1 (i:=0) g2
 have n1:=QQ1 (i:=1) g2
 have n2:=QQ1 (i:=2) g2
 have n3:=QQ1 (i:=3) g2
 have hl1:w.heap.size+1+1<w1.heap.size:=by omega
 clear hb1 hd1 g2 HD1
 cases hm:QQ6 C l1 with
 |false=>
  obtain⟨rfl,rfl,rfl,rfl⟩:=HDI1.out.no hm
  go_wp2
  obtain⟨W,hW⟩:∃ W,W=st4 w1 (w.heap.size+1+1) (.slice none 0 0) (.int .i64 0) (.slice none 0 0) (.slice none 0 0):=⟨_,rfl⟩
  have hv2:W.heap[w.heap.size+1+1]?=some (.cells #[(.slice none 0 0),(.int .i64 0),(.slice none 0 0),(.slice none 0 0)] 49 (0,0)):=by rw[hW];exact QX7 HG2.out
  have HX3:=hidB (show W.heap[w.heap.size+1+1+1]?=some (.cells #[.slice none 0 0,.int .i64 0,.slice none 0 0,.slice none 0 0] 49 (0,0)) by rw[hW];exact((QQ5 w1 (w.heap.size+1+1) _ _ _ _).block _ (by omega) (fun e=>by have:=Option.some.inj e;omega)).trans HG3.out)
  have HX1:=hidB (show W.heap[w.heap.size+1]?=some (.cells #[.slice a' D.length cap',.int .i64 l2] 24 (0,0)) by rw[hW];exact((QQ5 w1 (w.heap.size+1+1) _ _ _ _).block _ (by omega) (fun e=>by have:=Option.some.inj e;omega)).trans HG1.out)
  have HBW:=hidB (show Below w.heap.size w W by rw[hW];exact(HB0.out.trans (HB1.out.mono (by omega))).grown (QQ5 w1 (w.heap.size+1+1) _ _ _ _) (by omega) (fun q hq=>by have:=Option.some.inj hq;omega))
  have hsW:w1.heap.size<=W.heap.size:=by rw[hW];exact(QQ5 w1 (w.heap.size+1+1) _ _ _ _).size
  unfold st4 at hW
  rw[<-hW]
  clear hW m0 m1 m2 m3 n0 n1 n2 n3
  have hv3:=HX3.out
  have HV2:=hidB hv2
  have HV3:=hidB hv3
  have k0:=QQ0 (i:=0) hv2 rfl
  have k1:=QQ0 (i:=1) hv2 rfl
  have k2:=QQ0 (i:=2) hv2 rfl
  have k3:=QQ0 (i:=3) hv2 rfl
  have j0:=QQ0 (i:=0) hv3 rfl
  have j1:=QQ0 (i:=1) hv3 rfl
  have j2:=QQ0 (i:=2) hv3 rfl
  have j3:=QQ0 (i:=3) hv3 rfl
  have y0:=QQ1 (i:=0) hv2
  have y1:=QQ1 (i:=1) hv2
  have y2:=QQ1 (i:=2) hv2
  have y3:=QQ1 (i:=3) hv2
  have z0:=QQ1 (i:=0) hv3
  have z1:=QQ1 (i:=1) hv3
  have z2:=QQ1 (i:=2) hv3
  have z3:=QQ1 (i:=3) hv3
  have hlw:w.heap.size+1+1+1<W.heap.size:=(Array.getElem?_eq_some_iff.1 hv3).1
  have hlv:w.heap.size+1+1<W.heap.size:=by omega
  clear hv2 hv3
  go_region
  all_goals go_wp2
  all_goals
   have hX3:=QX7 (a:=(.slice none 0 0)) (b:=(.int .i64 0)) (c:=(.slice none 0 0)) (d:=(.slice none 0 0)) (((QQ5 W (w.heap.size+1+1) (.slice none 0 0) (.int .i64 0) (.slice none 0 0) (.slice none 0 0)).block (w.heap.size+1+1+1) (by omega) (fun e=>by have:=Option.some.inj e;omega)).trans HV3.out)
   have hX2:=((QQ5 (st4 W (w.heap.size+1+1) (.slice none 0 0) (.int .i64 0) (.slice none 0 0) (.slice none 0 0)) (w.heap.size+1+1+1) (.slice none 0 0) (.int .i64 0) (.slice none 0 0) (.slice none 0 0)).block (w.heap.size+1+1) (by have h9:=(QQ5 W (w.heap.size+1+1) (.slice none 0 0) (.int .i64 0) (.slice none 0 0) (.slice none 0 0)).size;omega) (fun e=>by have:=Option.some.inj e;omega)).trans (QX7 (a:=(.slice none 0 0)) (b:=(.int .i64 0)) (c:=(.slice none 0 0)) (d:=(.slice none 0 0)) HV2.out)
   have hz1:=(QQ5 W (w.heap.size+1+1) (.slice none 0 0) (.int .i64 0) (.slice none 0 0) (.slice none 0 0)).size
   have hz2:=HBW.out.size
   have HBF:Hid (Below w.heap.size w (st4 (st4 W (w.heap.size+1+1) (.slice none 0 0) (.int .i64 0) (.slice none 0 0) (.slice none 0 0)) (w.heap.size+1+1+1) (.slice none 0 0) (.int .i64 0) (.slice none 0 0) (.slice none 0 0)).drew):=(((HBW.out).grown (QQ5 W (w.heap.size+1+1) (.slice none 0 0) (.int .i64 0) (.slice none 0 0) (.slice none 0 0)) HBW.out.size (fun q hq=>by have:=Option.some.inj hq;omega)).grown (QQ5 (st4 W (w.heap.size+1+1) (.slice none 0 0) (.int .i64 0) (.slice none 0 0) (.slice none 0 0)) (w.heap.size+1+1+1) (.slice none 0 0) (.int .i64 0) (.slice none 0 0) (.slice none 0 0)) (by omega) (fun q hq=>by have:=Option.some.inj hq;omega)).drew
   have hY2:(st4 (st4 W (w.heap.size+1+1) (.slice none 0 0) (.int .i64 0) (.slice none 0 0) (.slice none 0 0)) (w.heap.size+1+1+1) (.slice none 0 0) (.int .i64 0) (.slice none 0 0) (.slice none 0 0)).drew.heap[w.heap.size+1+1]?=some (.cells #[(.slice none 0 0),(.int .i64 0),(.slice none 0 0),(.slice none 0 0)] 49 (0,0)):=QB4 hX2
   have hY3:(st4 (st4 W (w.heap.size+1+1) (.slice none 0 0) (.int .i64 0) (.slice none 0 0) (.slice none 0 0)) (w.heap.size+1+1+1) (.slice none 0 0) (.int .i64 0) (.slice none 0 0) (.slice none 0 0)).drew.heap[w.heap.size+1+1+1]?=some (.cells #[(.slice none 0 0),(.int .i64 0),(.slice none 0 0),(.slice none 0 0)] 49 (0,0)):=QB4 hX3
   clear hX2 hX3
   unfold st4 at hY2 hY3
   have u0:=QQ0 (i:=0) (v:=(.slice none 0 0)) hY2 rfl
   have u1:=QQ0 (i:=1) (v:=(.int .i64 0)) hY2 rfl
   have u2:=QQ0 (i:=2) (v:=(.slice none 0 0)) hY2 rfl
   have u3:=QQ0 (i:=3) (v:=(.slice none 0 0)) hY2 rfl
   have v0:=QQ0 (i:=0) (v:=(.slice none 0 0)) hY3 rfl
   have v1:=QQ0 (i:=1) (v:=(.int .i64 0)) hY3 rfl
   have v2:=QQ0 (i:=2) (v:=(.slice none 0 0)) hY3 rfl
   have v3:=QQ0 (i:=3) (v:=(.slice none 0 0)) hY3 rfl
   exact bodyPost_ret (v:=.tuple #[.agg #[(.slice none 0 0),(.int .i64 0),(.slice none 0 0),(.slice none 0 0)],.agg #[(.slice none 0 0),(.int .i64 0),(.slice none 0 0),(.slice none 0 0)],.bool false]) (by simp[results,Tryz.results18,go_sem,u0,u1,u2,u3,v0,v1,v2,v3]) rfl ⟨(.slice none 0 0),(.int .i64 0),(.slice none 0 0),(.slice none 0 0),(.slice none 0 0),(.int .i64 0),(.slice none 0 0),(.slice none 0 0),(by rw[hm];rfl),HBF.out,⟨_,_,_,_,_,_,_,_,_,_,rfl,rfl,rfl,rfl⟩,⟨_,_,_,_,_,_,_,_,_,_,rfl,rfl,rfl,rfl⟩,fun h=>(by rw[hm]at h;cases h)⟩
 |true=>
  obtain⟨a8,cap8,gF,cF,gT,cT,ev8,rfl,rfl,rfl,rfl⟩:=HDI1.out.yes hm
  go_upto_if 12 with(fail)
  obtain⟨W,hW⟩:∃ W,W=st4 w1 (w.heap.size+1+1) ((.slice a C.length cap)) ((.int .i64 l1)) ((.slice (some ⟨gF,0,none⟩) (2*C.length+1) cF)) ((.slice (some ⟨gT,0,none⟩) (2*C.length+1) cT)):=⟨_,rfl⟩
  have hv2:W.heap[w.heap.size+1+1]?=some (.cells #[((.slice a C.length cap)),((.int .i64 l1)),((.slice (some ⟨gF,0,none⟩) (2*C.length+1) cF)),((.slice (some ⟨gT,0,none⟩) (2*C.length+1) cT))] 49 (0,0)):=by rw[hW];exact QX7 HG2.out
  have HX3:=hidB (show W.heap[w.heap.size+1+1+1]?=some (.cells #[.slice none 0 0,.int .i64 0,.slice none 0 0,.slice none 0 0] 49 (0,0)) by rw[hW];exact((QQ5 w1 (w.heap.size+1+1) _ _ _ _).block _ (by omega) (fun e=>by have:=Option.some.inj e;omega)).trans HG3.out)
  have HX1:=hidB (show W.heap[w.heap.size+1]?=some (.cells #[.slice a' D.length cap',.int .i64 l2] 24 (0,0)) by rw[hW];exact((QQ5 w1 (w.heap.size+1+1) _ _ _ _).block _ (by omega) (fun e=>by have:=Option.some.inj e;omega)).trans HG1.out)
  have HBW:=hidB (show Below w.heap.size w W by rw[hW];exact(HB0.out.trans (HB1.out.mono (by omega))).grown (QQ5 w1 (w.heap.size+1+1) _ _ _ _) (by omega) (fun q hq=>by have:=Option.some.inj hq;omega))
  have hsW:w1.heap.size<=W.heap.size:=by rw[hW];exact(QQ5 w1 (w.heap.size+1+1) _ _ _ _).size
  unfold st4 at hW
  rw[<-hW]
  clear hW m0 m1 m2 m3 n0 n1 n2 n3
  have HV2:=hidB hv2
  have e0:=QQ0 (i:=0) HX1.out rfl
  have e1:=QQ0 (i:=1) HX1.out rfl
  have hle:w.heap.size+1<W.heap.size:=by omega
  clear hv2
  go_wp2_with (go_at_call 44;refine(of_cells (HD.out.up HBW.out)).mono ?_;rintro e9 w2 ⟨q0,q1,q2,q3,rfl,hb2,hd2⟩;refine Hid.out ?_)
  refine Lib.hid ?_
  have HB2:=hidB hb2
  have hs2:=hb2.size
  have HDI2:=hidB hd2
  have g3:=(hb2.block _ (by omega)).trans HX3.out
  have HG3':Hid (w2.heap[w.heap.size+1+1+1]?=some (.cells #[.slice none 0 0,.int .i64 0,.slice none 0 0,.slice none 0 0] 49 (0,0))):=g3
  have HG2':Hid (w2.heap[w.heap.size+1+1]?=some (.cells #[(.slice a C.length cap),(.int .i64 l1),(.slice (some ⟨gF,0,none⟩) (2*C.length+1) cF),(.slice (some ⟨gT,0,none⟩) (2*C.length+1) cT)] 49 (0,0))):=(hb2.block _ (by omega)).trans HV2.out
  have m0:=QQ0 (i:=0) g3 rfl
  have m1:=QQ0 (i:=1) g3 rfl
  have m2:=QQ0 (i:=2) g3 rfl
  have m3:=QQ0 (i:=3) g3 rfl
  have n0:=QQ1 (i:=0) g3
  have n1:=QQ1 (i:=1) g3
  have n2:=QQ1 (i:=2) g3
  have n3:=QQ1 (i:=3) g3
  have hl2:w.heap.size+1+1+1<w2.heap.size:=by omega
  have HBV:=hidB (HBW.out.trans (HB2.out.mono (by omega)))
  have HM2:=hidB (show QQ6 D l2=(true&&QQ6 D l2) by simp)
  clear hb2 hd2 g3 e0 e1 HV2 HBW HX1 HX3
  have HDY:=hidB HDI1.out
  cases hm2:QQ6 D l2 with
  |false=>
   obtain⟨rfl,rfl,rfl,rfl⟩:=HDI2.out.no hm2
   go_wp2
   obtain⟨W,hW⟩:∃ W,W=st4 w2 (w.heap.size+1+1+1) (.slice none 0 0) (.int .i64 0) (.slice none 0 0) (.slice none 0 0):=⟨_,rfl⟩
   have hv3:W.heap[w.heap.size+1+1+1]?=some (.cells #[(.slice none 0 0),(.int .i64 0),(.slice none 0 0),(.slice none 0 0)] 49 (0,0)):=by rw[hW];exact QX7 HG3'.out
   have hv2:W.heap[w.heap.size+1+1]?=some (.cells #[(.slice a C.length cap),(.int .i64 l1),(.slice (some ⟨gF,0,none⟩) (2*C.length+1) cF),(.slice (some ⟨gT,0,none⟩) (2*C.length+1) cT)] 49 (0,0)):=by rw[hW];exact((QQ5 w2 (w.heap.size+1+1+1) _ _ _ _).block _ (by omega) (fun e=>by have:=Option.some.inj e;omega)).trans HG2'.out
   have HBW:=hidB (show Below w.heap.size w W by rw[hW];exact HBV.out.grown (QQ5 w2 (w.heap.size+1+1+1) _ _ _ _) (by omega) (fun q hq=>by have:=Option.some.inj hq;omega))
   unfold st4 at hW
   rw[<-hW]
   clear hW m0 m1 m2 m3 n0 n1 n2 n3
   have HV2:=hidB hv2
   have HV3:=hidB hv3
   have k0:=QQ0 (i:=0) hv2 rfl
   have k1:=QQ0 (i:=1) hv2 rfl
   have k2:=QQ0 (i:=2) hv2 rfl
   have k3:=QQ0 (i:=3) hv2 rfl
   have j0:=QQ0 (i:=0) hv3 rfl
   have j1:=QQ0 (i:=1) hv3 rfl
   have j2:=QQ0 (i:=2) hv3 rfl
   have j3:=QQ0 (i:=3) hv3 rfl
   have y0:=QQ1 (i:=0) hv2
   have y1:=QQ1 (i:=1) hv2
   have y2:=QQ1 (i:=2) hv2
   have y3:=QQ1 (i:=3) hv2
   have z0:=QQ1 (i:=0) hv3
   have z1:=QQ1 (i:=1) hv3
   have z2:=QQ1 (i:=2) hv3
   have z3:=QQ1 (i:=3) hv3
   have hlw:w.heap.size+1+1+1<W.heap.size:=(Array.getElem?_eq_some_iff.1 hv3).1
   have hlv:w.heap.size+1+1<W.heap.size:=by omega
   clear hv2 hv3
   go_region
   all_goals go_wp2
   all_goals
    have hX3:=QX7 (a:=(.slice none 0 0)) (b:=(.int .i64 0)) (c:=(.slice none 0 0)) (d:=(.slice none 0 0)) (((QQ5 W (w.heap.size+1+1) (.slice a C.length cap) (.int .i64 l1) (.slice (some ⟨gF,0,none⟩) (2*C.length+1) cF) (.slice (some ⟨gT,0,none⟩) (2*C.length+1) cT)).block (w.heap.size+1+1+1) (by omega) (fun e=>by have:=Option.some.inj e;omega)).trans HV3.out)
    have hX2:=((QQ5 (st4 W (w.heap.size+1+1) (.slice a C.length cap) (.int .i64 l1) (.slice (some ⟨gF,0,none⟩) (2*C.length+1) cF) (.slice (some ⟨gT,0,none⟩) (2*C.length+1) cT)) (w.heap.size+1+1+1) (.slice none 0 0) (.int .i64 0) (.slice none 0 0) (.slice none 0 0)).block (w.heap.size+1+1) (by have h9:=(QQ5 W (w.heap.size+1+1) (.slice a C.length cap) (.int .i64 l1) (.slice (some ⟨gF,0,none⟩) (2*C.length+1) cF) (.slice (some ⟨gT,0,none⟩) (2*C.length+1) cT)).size;omega) (fun e=>by have:=Option.some.inj e;omega)).trans (QX7 (a:=(.slice a C.length cap)) (b:=(.int .i64 l1)) (c:=(.slice (some ⟨gF,0,none⟩) (2*C.length+1) cF)) (d:=(.slice (some ⟨gT,0,none⟩) (2*C.length+1) cT)) HV2.out)
    have hz1:=(QQ5 W (w.heap.size+1+1) (.slice a C.length cap) (.int .i64 l1) (.slice (some ⟨gF,0,none⟩) (2*C.length+1) cF) (.slice (some ⟨gT,0,none⟩) (2*C.length+1) cT)).size
    have hz2:=HBW.out.size
    have HBF:Hid (Below w.heap.size w (st4 (st4 W (w.heap.size+1+1) (.slice a C.length cap) (.int .i64 l1) (.slice (some ⟨gF,0,none⟩) (2*C.length+1) cF) (.slice (some ⟨gT,0,none⟩) (2*C.length+1) cT)) (w.heap.size+1+1+1) (.slice none 0 0) (.int .i64 0) (.slice none 0 0) (.slice none 0 0)).drew):=(((HBW.out).grown (QQ5 W (w.heap.size+1+1) (.slice a C.length cap) (.int .i64 l1) (.slice (some ⟨gF,0,none⟩) (2*C.length+1) cF) (.slice (some ⟨gT,0,none⟩) (2*C.length+1) cT)) HBW.out.size (fun q hq=>by have:=Option.some.inj hq;omega)).grown (QQ5 (st4 W (w.heap.size+1+1) (.slice a C.length cap) (.int .i64 l1) (.slice (some ⟨gF,0,none⟩) (2*C.length+1) cF) (.slice (some ⟨gT,0,none⟩) (2*C.length+1) cT)) (w.heap.size+1+1+1) (.slice none 0 0) (.int .i64 0) (.slice none 0 0) (.slice none 0 0)) (by omega) (fun q hq=>by have:=Option.some.inj hq;omega)).drew
    have hY2:(st4 (st4 W (w.heap.size+1+1) (.slice a C.length cap) (.int .i64 l1) (.slice (some ⟨gF,0,none⟩) (2*C.length+1) cF) (.slice (some ⟨gT,0,none⟩) (2*C.length+1) cT)) (w.heap.size+1+1+1) (.slice none 0 0) (.int .i64 0) (.slice none 0 0) (.slice none 0 0)).drew.heap[w.heap.size+1+1]?=some (.cells #[(.slice a C.length cap),(.int .i64 l1),(.slice (some ⟨gF,0,none⟩) (2*C.length+1) cF),(.slice (some ⟨gT,0,none⟩) (2*C.length+1) cT)] 49 (0,0)):=QB4 hX2
    have hY3:(st4 (st4 W (w.heap.size+1+1) (.slice a C.length cap) (.int .i64 l1) (.slice (some ⟨gF,0,none⟩) (2*C.length+1) cF) (.slice (some ⟨gT,0,none⟩) (2*C.length+1) cT)) (w.heap.size+1+1+1) (.slice none 0 0) (.int .i64 0) (.slice none 0 0) (.slice none 0 0)).drew.heap[w.heap.size+1+1+1]?=some (.cells #[(.slice none 0 0),(.int .i64 0),(.slice none 0 0),(.slice none 0 0)] 49 (0,0)):=QB4 hX3
    clear hX2 hX3
    unfold st4 at hY2 hY3
    have u0:=QQ0 (i:=0) (v:=(.slice a C.length cap)) hY2 rfl
    have u1:=QQ0 (i:=1) (v:=(.int .i64 l1)) hY2 rfl
    have u2:=QQ0 (i:=2) (v:=(.slice (some ⟨gF,0,none⟩) (2*C.length+1) cF)) hY2 rfl
    have u3:=QQ0 (i:=3) (v:=(.slice (some ⟨gT,0,none⟩) (2*C.length+1) cT)) hY2 rfl
    have v0:=QQ0 (i:=0) (v:=(.slice none 0 0)) hY3 rfl
    have v1:=QQ0 (i:=1) (v:=(.int .i64 0)) hY3 rfl
    have v2:=QQ0 (i:=2) (v:=(.slice none 0 0)) hY3 rfl
    have v3:=QQ0 (i:=3) (v:=(.slice none 0 0)) hY3 rfl
    exact bodyPost_ret (v:=.tuple #[.agg #[(.slice a C.length cap),(.int .i64 l1),(.slice (some ⟨gF,0,none⟩) (2*C.length+1) cF),(.slice (some ⟨gT,0,none⟩) (2*C.length+1) cT)],.agg #[(.slice none 0 0),(.int .i64 0),(.slice none 0 0),(.slice none 0 0)],.bool false]) (by simp[results,Tryz.results18,go_sem,u0,u1,u2,u3,v0,v1,v2,v3]) rfl ⟨(.slice a C.length cap),(.int .i64 l1),(.slice (some ⟨gF,0,none⟩) (2*C.length+1) cF),(.slice (some ⟨gT,0,none⟩) (2*C.length+1) cT),(.slice none 0 0),(.int .i64 0),(.slice none 0 0),(.slice none 0 0),(by rw[hm,hm2];rfl),HBF.out,⟨_,_,_,_,_,_,_,_,_,_,rfl,rfl,rfl,rfl⟩,⟨_,_,_,_,_,_,_,_,_,_,rfl,rfl,rfl,rfl⟩,fun _ h=>(by rw[hm2]at h;cases h)⟩
  |true=>
   obtain⟨a9,cap9,gF',cF',gT',cT',ev9,rfl,rfl,rfl,rfl⟩:=HDI2.out.yes hm2
   go_wp2
   obtain⟨W,hW⟩:∃ W,W=st4 w2 (w.heap.size+1+1+1) (.slice a' D.length cap') (.int .i64 l2) (.slice (some ⟨gF',0,none⟩) (2*D.length+1) cF') (.slice (some ⟨gT',0,none⟩) (2*D.length+1) cT'):=⟨_,rfl⟩
   have hv3:W.heap[w.heap.size+1+1+1]?=some (.cells #[(.slice a' D.length cap'),(.int .i64 l2),(.slice (some ⟨gF',0,none⟩) (2*D.length+1) cF'),(.slice (some ⟨gT',0,none⟩) (2*D.length+1) cT')] 49 (0,0)):=by rw[hW];exact QX7 HG3'.out
   have hv2:W.heap[w.heap.size+1+1]?=some (.cells #[(.slice a C.length cap),(.int .i64 l1),(.slice (some ⟨gF,0,none⟩) (2*C.length+1) cF),(.slice (some ⟨gT,0,none⟩) (2*C.length+1) cT)] 49 (0,0)):=by rw[hW];exact((QQ5 w2 (w.heap.size+1+1+1) _ _ _ _).block _ (by omega) (fun e=>by have:=Option.some.inj e;omega)).trans HG2'.out
   have HBW:=hidB (show Below w.heap.size w W by rw[hW];exact HBV.out.grown (QQ5 w2 (w.heap.size+1+1+1) _ _ _ _) (by omega) (fun q hq=>by have:=Option.some.inj hq;omega))
   unfold st4 at hW
   rw[<-hW]
   clear hW m0 m1 m2 m3 n0 n1 n2 n3
   have HV2:=hidB hv2
   have HV3:=hidB hv3
   have k0:=QQ0 (i:=0) hv2 rfl
   have k1:=QQ0 (i:=1) hv2 rfl
   have k2:=QQ0 (i:=2) hv2 rfl
   have k3:=QQ0 (i:=3) hv2 rfl
   have j0:=QQ0 (i:=0) hv3 rfl
   have j1:=QQ0 (i:=1) hv3 rfl
   have j2:=QQ0 (i:=2) hv3 rfl
   have j3:=QQ0 (i:=3) hv3 rfl
   have y0:=QQ1 (i:=0) hv2
   have y1:=QQ1 (i:=1) hv2
   have y2:=QQ1 (i:=2) hv2
   have y3:=QQ1 (i:=3) hv2
   have z0:=QQ1 (i:=0) hv3
   have z1:=QQ1 (i:=1) hv3
   have z2:=QQ1 (i:=2) hv3
   have z3:=QQ1 (i:=3) hv3
   have hlw:w.heap.size+1+1+1<W.heap.size:=(Array.getElem?_eq_some_iff.1 hv3).1
   have hlv:w.heap.size+1+1<W.heap.size:=by omega
   clear hv2 hv3
   go_region
   all_goals go_wp2
   all_goals
    have hX3:=QX7 (a:=(.slice a' D.length cap')) (b:=(.int .i64 l2)) (c:=(.slice (some ⟨gF',0,none⟩) (2*D.length+1) cF')) (d:=(.slice (some ⟨gT',0,none⟩) (2*D.length+1) cT')) (((QQ5 W (w.heap.size+1+1) (.slice a C.length cap) (.int .i64 l1) (.slice (some ⟨gF,0,none⟩) (2*C.length+1) cF) (.slice (some ⟨gT,0,none⟩) (2*C.length+1) cT)).block (w.heap.size+1+1+1) (by omega) (fun e=>by have:=Option.some.inj e;omega)).trans HV3.out)
    have hX2:=((QQ5 (st4 W (w.heap.size+1+1) (.slice a C.length cap) (.int .i64 l1) (.slice (some ⟨gF,0,none⟩) (2*C.length+1) cF) (.slice (some ⟨gT,0,none⟩) (2*C.length+1) cT)) (w.heap.size+1+1+1) (.slice a' D.length cap') (.int .i64 l2) (.slice (some ⟨gF',0,none⟩) (2*D.length+1) cF') (.slice (some ⟨gT',0,none⟩) (2*D.length+1) cT')).block (w.heap.size+1+1) (by have h9:=(QQ5 W (w.heap.size+1+1) (.slice a C.length cap) (.int .i64 l1) (.slice (some ⟨gF,0,none⟩) (2*C.length+1) cF) (.slice (some ⟨gT,0,none⟩) (2*C.length+1) cT)).size;omega) (fun e=>by have:=Option.some.inj e;omega)).trans (QX7 (a:=(.slice a C.length cap)) (b:=(.int .i64 l1)) (c:=(.slice (some ⟨gF,0,none⟩) (2*C.length+1) cF)) (d:=(.slice (some ⟨gT,0,none⟩) (2*C.length+1) cT)) HV2.out)
    have hz1:=(QQ5 W (w.heap.size+1+1) (.slice a C.length cap) (.int .i64 l1) (.slice (some ⟨gF,0,none⟩) (2*C.length+1) cF) (.slice (some ⟨gT,0,none⟩) (2*C.length+1) cT)).size
    have hz2:=HBW.out.size
    have HBF:Hid (Below w.heap.size w (st4 (st4 W (w.heap.size+1+1) (.slice a C.length cap) (.int .i64 l1) (.slice (some ⟨gF,0,none⟩) (2*C.length+1) cF) (.slice (some ⟨gT,0,none⟩) (2*C.length+1) cT)) (w.heap.size+1+1+1) (.slice a' D.length cap') (.int .i64 l2) (.slice (some ⟨gF',0,none⟩) (2*D.length+1) cF') (.slice (some ⟨gT',0,none⟩) (2*D.length+1) cT')).drew):=(((HBW.out).grown (QQ5 W (w.heap.size+1+1) (.slice a C.length cap) (.int .i64 l1) (.slice (some ⟨gF,0,none⟩) (2*C.length+1) cF) (.slice (some ⟨gT,0,none⟩) (2*C.length+1) cT)) HBW.out.size (fun q hq=>by have:=Option.some.inj hq;omega)).grown (QQ5 (st4 W (w.heap.size+1+1) (.slice a C.length cap) (.int .i64 l1) (.slice (some ⟨gF,0,none⟩) (2*C.length+1) cF) (.slice (some ⟨gT,0,none⟩) (2*C.length+1) cT)) (w.heap.size+1+1+1) (.slice a' D.length cap') (.int .i64 l2) (.slice (some ⟨gF',0,none⟩) (2*D.length+1) cF') (.slice (some ⟨gT',0,none⟩) (2*D.length+1) cT')) (by omega) (fun q hq=>by have:=Option.some.inj hq;omega)).drew
    have hY2:(st4 (st4 W (w.heap.size+1+1) (.slice a C.length cap) (.int .i64 l1) (.slice (some ⟨gF,0,none⟩) (2*C.length+1) cF) (.slice (some ⟨gT,0,none⟩) (2*C.length+1) cT)) (w.heap.size+1+1+1) (.slice a' D.length cap') (.int .i64 l2) (.slice (some ⟨gF',0,none⟩) (2*D.length+1) cF') (.slice (some ⟨gT',0,none⟩) (2*D.length+1) cT')).drew.heap[w.heap.size+1+1]?=some (.cells #[(.slice a C.length cap),(.int .i64 l1),(.slice (some ⟨gF,0,none⟩) (2*C.length+1) cF),(.slice (some ⟨gT,0,none⟩) (2*C.length+1) cT)] 49 (0,0)):=QB4 hX2
    have hY3:(st4 (st4 W (w.heap.size+1+1) (.slice a C.length cap) (.int .i64 l1) (.slice (some ⟨gF,0,none⟩) (2*C.length+1) cF) (.slice (some ⟨gT,0,none⟩) (2*C.length+1) cT)) (w.heap.size+1+1+1) (.slice a' D.length cap') (.int .i64 l2) (.slice (some ⟨gF',0,none⟩) (2*D.length+1) cF') (.slice (some ⟨gT',0,none⟩) (2*D.length+1) cT')).drew.heap[w.heap.size+1+1+1]?=some (.cells #[(.slice a' D.length cap'),(.int .i64 l2),(.slice (some ⟨gF',0,none⟩) (2*D.length+1) cF'),(.slice (some ⟨gT',0,none⟩) (2*D.length+1) cT')] 49 (0,0)):=QB4 hX3
    clear hX2 hX3
    unfold st4 at hY2 hY3
    have u0:=QQ0 (i:=0) (v:=(.slice a C.length cap)) hY2 rfl
    have u1:=QQ0 (i:=1) (v:=(.int .i64 l1)) hY2 rfl
    have u2:=QQ0 (i:=2) (v:=(.slice (some ⟨gF,0,none⟩) (2*C.length+1) cF)) hY2 rfl
    have u3:=QQ0 (i:=3) (v:=(.slice (some ⟨gT,0,none⟩) (2*C.length+1) cT)) hY2 rfl
    have v0:=QQ0 (i:=0) (v:=(.slice a' D.length cap')) hY3 rfl
    have v1:=QQ0 (i:=1) (v:=(.int .i64 l2)) hY3 rfl
    have v2:=QQ0 (i:=2) (v:=(.slice (some ⟨gF',0,none⟩) (2*D.length+1) cF')) hY3 rfl
    have v3:=QQ0 (i:=3) (v:=(.slice (some ⟨gT',0,none⟩) (2*D.length+1) cT')) hY3 rfl
    exact bodyPost_ret (v:=.tuple #[.agg #[(.slice a C.length cap),(.int .i64 l1),(.slice (some ⟨gF,0,none⟩) (2*C.length+1) cF),(.slice (some ⟨gT,0,none⟩) (2*C.length+1) cT)],.agg #[(.slice a' D.length cap'),(.int .i64 l2),(.slice (some ⟨gF',0,none⟩) (2*D.length+1) cF'),(.slice (some ⟨gT',0,none⟩) (2*D.length+1) cT')],.bool true]) (by simp[results,Tryz.results18,go_sem,u0,u1,u2,u3,v0,v1,v2,v3]) rfl ⟨(.slice a C.length cap),(.int .i64 l1),(.slice (some ⟨gF,0,none⟩) (2*C.length+1) cF),(.slice (some ⟨gT,0,none⟩) (2*C.length+1) cT),(.slice a' D.length cap'),(.int .i64 l2),(.slice (some ⟨gF',0,none⟩) (2*D.length+1) cF'),(.slice (some ⟨gT',0,none⟩) (2*D.length+1) cT'),(by rw[hm,hm2];rfl),HBF.out,⟨_,_,_,_,_,_,_,_,_,_,rfl,rfl,rfl,rfl⟩,⟨_,_,_,_,_,_,_,_,_,_,rfl,rfl,rfl,rfl⟩,fun _ _=>⟨⟨HDY.out.no,HDY.out.yes⟩,⟨HDI2.out.no,HDI2.out.yes⟩⟩⟩
end Go.Proofs.YtookanmeflbdlaaGreatDoor
/- The walk of canon.Sum. -/
namespace Go.Proofs.YtookanmeflbdlaaGreatDoor
open Go.RowKit
set_option maxHeartbeats 4000000
set_option maxRecDepth 100000
def sumE (C D:List Cr) (l1 l2 x y:Int):Int:=if(hasB C x&&hasB D y)=true then(if 16<C.length+D.length∨16<l1+l2 then 2 else 0) else 3
theorem JZ3 (v1 v2 : Value) (C D : List Cr) (l1 l2 x y : Int) (w : World) (h1 : Crs w w.heap.size v1 C) (h2 : Crs w w.heap.size v2 D) (hm : QQ6 C l1 = true) (hm' : QQ6 D l2 = true) (hx : hasB C x = true) (hy : hasB D y = true) (hn : ¬ 16 < C.length + D.length) (hl : ¬ 16 < l1 + l2) :
    Calls Tryz.prog 6 #[.agg #[v1,.int .i64 l1],.int .i64 x,.agg #[v2,.int .i64 l2],.int .i64 y] w fun e w'=>∃ r,e=.returned (.tuple #[.agg #[r,.int .i64 (l1+l2)],.int .i64 0])/\Crs w' w'.heap.size r (QX4 C D x y)/\Below w.heap.size w w':=by
 have HC:=hidB h1
 have HD:=hidB h2
 obtain⟨a,cap,rfl⟩:=QG6 h1
 obtain⟨a',cap',rfl⟩:=QG6 h2
 clear h1 h2
 obtain⟨w0,hw0⟩:∃ w0,w0=((w.alloc (.cells #[.slice a C.length cap,.int .i64 l1] 24)).alloc (.cells #[.slice a' D.length cap',.int .i64 l2] 24)).alloc (.cells #[.slice none 0 0,.int .i64 0] 24):=⟨_,rfl⟩
 have HW0:=hidB hw0
 have hs0:w0.heap.size=w.heap.size+3:=by rw[hw0];simp
 have HB0:=hidB (show Below w.heap.size w w0 by rw[hw0];exact QA8 _ _ _ _)
 have HT2:=hidB (show w0.heap[w.heap.size+1+1]?=some (.cells #[.slice none 0 0,.int .i64 0] 24 (0,0)) by rw[hw0];exact alloc_at (by simp))
 clear hw0
 have HM1:=hidB hm
 have HM2:=hidB (hm')
 have hmm:(QQ6 C l1&&QQ6 D l2)=true:=by rw[hm,hm'];rfl
 obtain⟨s1,p1,p2,-⟩:=QX5 (QZ6 hm)
 obtain⟨s2,p3,p4,-⟩:=QX5 (QZ6 hm')
 go_enter Tryz.func6,Tryz.ntmps6
 go_wp2_with (go_at_call 18;rw[<-HW0.out];refine(KH3 _ _ _ _ _ _ _ (HC.out.up HB0.out) (HD.out.up HB0.out)).mono ?_;rw[hmm];rintro e9 w1 ⟨c0,c1,c2,c3,d0,d1,d2,d3,rfl,hb1,-,-,hd⟩;obtain⟨hd1,hd2⟩:=hd hm hm';obtain⟨a8,cap8,gF,cF,gT,cT,-,rfl,rfl,rfl,rfl⟩:=hd1.yes HM1.out;obtain⟨a9,cap9,gF',cF',gT',cT',-,rfl,rfl,rfl,rfl⟩:=hd2.yes HM2.out;refine Hid.out ?_)
 refine Lib.hid ?_
 have HB1:=hidB hb1
 have hs1:=hb1.size
 have HR1:=hidB ((hb1.block _ (by omega)).trans HT2.out)
 have HB2:=hidB (HB0.out.trans (HB1.out.mono HB0.out.size))
 clear hb1
 have HBA:Hid (Below w1.heap.size w1 ((w1.alloc (.cells #[.slice a C.length cap,.int .i64 l1,.slice (some ⟨gF,0,none⟩) (2*C.length+1) cF,.slice (some ⟨gT,0,none⟩) (2*C.length+1) cT] 49)).alloc (.cells #[.slice a' D.length cap',.int .i64 l2,.slice (some ⟨gF',0,none⟩) (2*D.length+1) cF',.slice (some ⟨gT',0,none⟩) (2*D.length+1) cT'] 49))):=QW3 _ _ _
 clear hd hd1 hd2 hmm hm hm'
 go_wp2_with (go_at_call 19;refine(Zj9 a cap C l1 gF cF gT cT x _ s1).mono ?_;rw[hx];rintro e9 w3 ⟨rfl,hb3⟩;refine Hid.out ?_)
 refine Lib.hid ?_
 have HB3:Hid (Below w.heap.size w w3):=(HB2.out.trans (HBA.out.mono HB2.out.size)).trans (hb3.mono (by simp;omega))
 have HT3:Hid (w3.heap[w.heap.size+1+1]?=some (.cells #[.slice none 0 0,.int .i64 0] 24 (0,0))):=(hb3.block _ (by simp;omega)).trans (alloc_old (alloc_old HR1.out))
 have HA3:Hid (w3.heap[w1.heap.size]?=some (.cells #[.slice a C.length cap,.int .i64 l1,.slice (some ⟨gF,0,none⟩) (2*C.length+1) cF,.slice (some ⟨gT,0,none⟩) (2*C.length+1) cT] 49 (0,0))):=(hb3.block _ (by simp;omega)).trans (alloc_old (alloc_at rfl))
 have HK3:Hid (w3.heap[w1.heap.size+1]?=some (.cells #[.slice a' D.length cap',.int .i64 l2,.slice (some ⟨gF',0,none⟩) (2*D.length+1) cF',.slice (some ⟨gT',0,none⟩) (2*D.length+1) cT'] 49 (0,0))):=(hb3.block _ (by simp)).trans (alloc_at (by simp))
 have hs3:w1.heap.size+2<=w3.heap.size:=by have:=hb3.size;simpa using this
 clear hb3
 have j0:=QQ0 (i:=0) HK3.out rfl
 have j1:=QQ0 (i:=1) HK3.out rfl
 have j2:=QQ0 (i:=2) HK3.out rfl
 have j3:=QQ0 (i:=3) HK3.out rfl
 have jl:w1.heap.size+1<w3.heap.size:=by omega
 go_wp2_with (go_at_call 19;refine(Zj9 a' cap' D l2 gF' cF' gT' cT' y _ s2).mono ?_;rw[hy];rintro e9 w4 ⟨rfl,hb4⟩;refine Hid.out ?_)
 refine Lib.hid ?_
 have HB4:=hidB (HB3.out.trans (hb4.mono (by omega)))
 have HT4:=hidB ((hb4.block _ (by omega)).trans HT3.out)
 have HA4:=hidB ((hb4.block _ (by omega)).trans HA3.out)
 have HK4:=hidB ((hb4.block _ (by omega)).trans HK3.out)
 have hs4:=hb4.size
 clear hb4 j0 j1 j2 j3 jl
 have i0:=QQ0 (i:=0) HA4.out rfl
 have i1:=QQ0 (i:=1) HA4.out rfl
 have j0:=QQ0 (i:=0) HK4.out rfl
 have j1:=QQ0 (i:=1) HK4.out rfl
 have il:w1.heap.size<w4.heap.size:=by omega
 have jl:w1.heap.size+1<w4.heap.size:=by omega
 have wn:IntKind.i64.wrap ((C.length:Int)+(D.length:Int))=(C.length:Int)+(D.length:Int):=IntWalk.i64_in _ (by omega)
 have wl:IntKind.i64.wrap (l1+l2)=l1+l2:=IntWalk.i64_in _ (by omega)
 have g1:decide (16<(C.length:Int)+(D.length:Int))=false:=by simp;omega
 have g2:decide (16<l1+l2)=false:=by simp;omega
 have i2:=QQ0 (i:=2) HA4.out rfl
 have i3:=QQ0 (i:=3) HA4.out rfl
 have j2:=QQ0 (i:=2) HK4.out rfl
 have j3:=QQ0 (i:=3) HK4.out rfl
 have HXR:=hidB (show 1<=x/\x<=32 by simp[hasB]at hx;omega)
 have HYR:=hidB (show 1<=y/\y<=32 by simp[hasB]at hy;omega)
 go_wp2_with (go_at_call 20;refine(KJ7 a cap C l1 gF cF gT cT a' cap' D l2 gF' cF' gT' cT' x y _ HM1.out HM2.out HXR.out HYR.out (HC.out.up HB4.out) (HD.out.up HB4.out)).mono ?_;rintro e9 w5 ⟨r,rfl,hr,hb5⟩;refine Hid.out ?_)
 refine Lib.hid ?_
 have HRW:=hidB (QZ7 hr (by omega))
 have HB5:=hidB (HB4.out.trans (hb5.mono HB4.out.size))
 have HT5:=hidB ((hb5.block _ (by omega)).trans HT4.out)
 have hs5:=hb5.size
 clear hr hb5 i0 i1 i2 i3 j0 j1 j2 j3 il jl
 obtain⟨a3,c3',ev3⟩:=QK8 HRW.out
 subst ev3
 have hlen:(QX4 C D x y).length<=100:=by simp[QX4];omega
 have r0:=QQ0 (i:=0) HT5.out rfl
 have r1:=QQ0 (i:=1) HT5.out rfl
 have rf0:=QQ1 (i:=0) HT5.out
 have rf1:=QQ1 (i:=1) HT5.out
 have rl:w.heap.size+1+1<w5.heap.size:=by omega
 go_wp2
 have hX:=QX1 (i:=1) (u:=.int .i64 (l1+l2)) (QX1 (i:=0) (u:=.slice a3 (QX4 C D x y).length c3') HT5.out)
 have x0:=QQ0 (i:=0) (v:=.slice a3 (QX4 C D x y).length c3') hX rfl
 have x1:=QQ0 (i:=1) (v:=.int .i64 (l1+l2)) hX rfl
 have hk := HRW.out.kept (QK7 w5 (w.heap.size + 1 + 1) 0 (.slice a3 (QX4 C D x y).length c3') (.int .i64 (l1 + l2))) (by
  cases hv:(Value.slice a3 (QX4 C D x y).length c3').ownBlock with
  |none=>exact Or.inl rfl
  |some k=>exact Or.inr (fun e=>by have h1:=(HRW.out.lt k hv).1;have h2:=Option.some.inj e;omega))
 exact bodyPost_ret (v:=.tuple #[.agg #[.slice a3 (QX4 C D x y).length c3',.int .i64 (l1+l2)],.int .i64 0]) (by simp[results,Tryz.results6,go_sem,x0,x1]) rfl ⟨_,rfl,Kf1 hk (by unfold maxLen;omega),HB5.out.grown (QK7 w5 (w.heap.size+1+1) 0 (.slice a3 (QX4 C D x y).length c3') (.int .i64 (l1+l2))) (by omega) (fun q hq=>by have:=Option.some.inj hq;omega)⟩
end Go.Proofs.YtookanmeflbdlaaGreatDoor
