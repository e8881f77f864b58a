/- Moves: the walk of bench.push from its new arcs on. Made by genmv9b.py. -/
import Derived.Test.YtagaajlbkfkaiaaTkhP
import Derived.Test.YtagaajlbkfkaiaaMV7
import Derived.Deep.RegionHeld
import Derived.Deep.Cut
namespace Go.Proofs.Ytagaajlbkfkaiaa
open Go.RowKit Go.Maps
set_option maxHeartbeats 16000000
set_option maxRecDepth 100000
structure UvAt (w W:World) (bs ms us vs:Array Value) (g5 g6:Nat):Prop where
 b0:W.heap[w.heap.size]?=some (.cells bs 63 (0,0))
 b1:W.heap[w.heap.size+1]?=some (.cells ms 28 (0,0))
 b2:W.heap[w.heap.size+1+1]?=some (.cells #[.slice none 0 0,.int .i64 0] 24 (0,0))
 b5:W.heap[g5]?=some (.cells us 26 (0,0))
 b6:W.heap[g6]?=some (.cells vs 26 (0,0))
 ne:g5≠g6
 l5:w.heap.size+2<g5
 l6:w.heap.size+2<g6
 bel:Below w.heap.size w W
theorem UvAt.on {w W W':World} {bs ms us vs:Array Value} {g5 g6:Nat} (h:UvAt w W bs ms us vs g5 g6) (hb:Below W.heap.size W W'):UvAt w W' bs ms us vs g5 g6:=
 have hl {k:Nat} {o:Obj} (e:W.heap[k]?=some o):W'.heap[k]?=some o:=(hb.block _ (Array.getElem?_eq_some_iff.1 e).1).trans e
 ⟨hl h.b0,hl h.b1,hl h.b2,hl h.b5,hl h.b6,h.ne,h.l5,h.l6,h.bel.trans (hb.mono h.bel.size)⟩
structure TwP (Z W:World) (p q:Int×Int):Prop where
 b0:W.heap[Z.heap.size]?=some (.cells #[.int .i64 p.1,.int .i64 p.2] 154 (0,0))
 b1:W.heap[Z.heap.size+1]?=some (.cells #[.int .i64 q.1,.int .i64 q.2] 154 (0,0))
 bel:Below Z.heap.size Z W
theorem TwP.on {Z W W':World} {p q:Int×Int} (h:TwP Z W p q) (hb:Below W.heap.size W W'):TwP Z W' p q:=
 have hl {k:Nat} {o:Obj} (e:W.heap[k]?=some o):W'.heap[k]?=some o:=(hb.block _ (Array.getElem?_eq_some_iff.1 e).1).trans e
 ⟨hl h.b0,hl h.b1,h.bel.trans (hb.mono h.bel.size)⟩
theorem TwP.made (Z:World) (p q:Int×Int):TwP Z ((Z.alloc (.cells #[.int .i64 p.1,.int .i64 p.2] 154)).alloc (.cells #[.int .i64 q.1,.int .i64 q.2] 154)) p q:=
 ⟨alloc_old (alloc_at rfl),alloc_at (by simp),QJ3 _ _ _⟩
theorem st2b {W:World} {z:Nat} {a b c d:Value} {t:TypeId} {fz:Nat×Nat} (h:W.heap[z]?=some (.cells #[c,d] t fz)):((W.setCell ⟨z,0,none⟩ a).setCell ⟨z,1,none⟩ b).heap[z]?=some (.cells #[a,b] t fz):=by
 rw[QQ6 (QQ6 h)]
 rfl
theorem TwP.swap {Z W:World} {p q:Int×Int} (h:TwP Z W p q) (x y x2 y2:Int):TwP Z ((((W.setCell ⟨Z.heap.size,0,none⟩ (.int .i64 x)).setCell ⟨Z.heap.size,1,none⟩ (.int .i64 y)).setCell ⟨Z.heap.size+1,0,none⟩ (.int .i64 x2)).setCell ⟨Z.heap.size+1,1,none⟩ (.int .i64 y2)) (x,y) (x2,y2):=by
 have l1:Z.heap.size+1<W.heap.size:=(Array.getElem?_eq_some_iff.1 h.b1).1
 have g1:=QZ5 W Z.heap.size 0 (.int .i64 x) (.int .i64 y)
 have g2:=QZ5 ((W.setCell ⟨Z.heap.size,0,none⟩ (.int .i64 x)).setCell ⟨Z.heap.size,1,none⟩ (.int .i64 y)) (Z.heap.size+1) 0 (.int .i64 x2) (.int .i64 y2)
 have s1:W.heap.size<=((W.setCell ⟨Z.heap.size,0,none⟩ (.int .i64 x)).setCell ⟨Z.heap.size,1,none⟩ (.int .i64 y)).heap.size:=g1.size
 refine⟨?_,?_,?_⟩
 · exact(g2.block Z.heap.size (by omega) (fun e=>by have:=Option.some.inj e;omega)).trans (st2b h.b0)
 · exact st2b ((g1.block (Z.heap.size+1) l1 (fun e=>by have:=Option.some.inj e;omega)).trans h.b1)
 · exact(h.bel.grown g1 (by omega) (fun q hq=>by have:=Option.some.inj hq;omega)).grown g2 (Nat.le_trans h.bel.size g1.size) (fun q hq=>by have:=Option.some.inj hq;omega)
theorem wpAnyH_like {P:Program} {ops:Array Oper} {Q:Exit->Act->World->Prop} {md:Region.Mode} {S:World->Prop} {fuel:Nat} {l l':Array Bool} {a:Act} {w:World} (e:l=l') (h:wpAnyH P md ops Q S fuel l' a w):wpAnyH P md ops Q S fuel l a w:=e▸h
structure PqAt (Z W:World) (p q:Cr) (g h:Nat):Prop where
 b0:W.heap[g]?=some (.cells #[.int .i64 p.a,.int .i64 p.b,.int .i64 p.c,.int .i64 p.d,.bool p.plus] 71 (0,0))
 b1:W.heap[h]?=some (.cells #[.int .i64 q.a,.int .i64 q.b,.int .i64 q.c,.int .i64 q.d,.bool q.plus] 71 (0,0))
 ne:g≠h
 l0:Z.heap.size<=g
 l1:Z.heap.size<=h
 bel:Below Z.heap.size Z W
theorem PqAt.on {Z W W':World} {p q:Cr} {g h:Nat} (a:PqAt Z W p q g h) (hb:Below W.heap.size W W'):PqAt Z W' p q g h:=
 have hl {k:Nat} {o:Obj} (e:W.heap[k]?=some o):W'.heap[k]?=some o:=(hb.block _ (Array.getElem?_eq_some_iff.1 e).1).trans e
 ⟨hl a.b0,hl a.b1,a.ne,a.l0,a.l1,a.bel.trans (hb.mono a.bel.size)⟩
theorem PqAt.of {Z W:World} {g h:Nat} (a:W.heap[g]?=some (.cells #[.int .i64 0,.int .i64 0,.int .i64 0,.int .i64 0,.bool false] 71 (0,0))/\W.heap[h]?=some (.cells #[.int .i64 0,.int .i64 0,.int .i64 0,.int .i64 0,.bool false] 71 (0,0))/\g≠h/\Z.heap.size<=g/\Z.heap.size<=h/\Below Z.heap.size Z W):PqAt Z W ⟨0,0,0,0,false⟩ ⟨0,0,0,0,false⟩ g h:=⟨a.1,a.2.1,a.2.2.1,a.2.2.2.1,a.2.2.2.2.1,a.2.2.2.2.2⟩
theorem st5b {w:World} {g:Nat} {t:TypeId} {fz:Nat×Nat} {a b c d e:Value} (v0 v1 v2 v3 v4:Value) (h:w.heap[g]?=some (.cells #[a,b,c,d,e] t fz)):
    (((((w.setCell ⟨g,0,none⟩ v0).setCell ⟨g,1,none⟩ v1).setCell ⟨g,2,none⟩ v2).setCell ⟨g,3,none⟩ v3).setCell ⟨g,4,none⟩ v4).heap[g]?=some (.cells #[v0,v1,v2,v3,v4] t fz):=by
 rw[QQ6 (QQ6 (QQ6 (QQ6 (QQ6 h))))]
 rfl
theorem st5n (w:World) (g:Nat) (v0 v1 v2 v3 v4:Value):w.grownBy (((((w.setCell ⟨g,0,none⟩ v0).setCell ⟨g,1,none⟩ v1).setCell ⟨g,2,none⟩ v2).setCell ⟨g,3,none⟩ v3).setCell ⟨g,4,none⟩ v4) (some g):=
 QQ8 (QQ8 (QQ8 (QQ8 (QQ7 _ _ _ _) (QQ7 _ _ _ _)) (QQ7 _ _ _ _)) (QQ7 _ _ _ _)) (QQ7 _ _ _ _)
theorem PqAt.set0 {Z W:World} {p q:Cr} {g h:Nat} (a:PqAt Z W p q g h) (x:Cr):PqAt Z (((((W.setCell ⟨g,0,none⟩ (.int .i64 x.a)).setCell ⟨g,1,none⟩ (.int .i64 x.b)).setCell ⟨g,2,none⟩ (.int .i64 x.c)).setCell ⟨g,3,none⟩ (.int .i64 x.d)).setCell ⟨g,4,none⟩ (.bool x.plus)) x q g h:=
 have hg:=st5n W g (.int .i64 x.a) (.int .i64 x.b) (.int .i64 x.c) (.int .i64 x.d) (.bool x.plus)
 ⟨st5b _ _ _ _ _ a.b0,(hg.block h (Array.getElem?_eq_some_iff.1 a.b1).1 (fun e=>a.ne (Option.some.inj e).symm)).trans a.b1,a.ne,a.l0,a.l1,a.bel.grown hg a.bel.size (fun q hq=>by have:=Option.some.inj hq;have:=a.l0;omega)⟩
theorem PqAt.set1 {Z W:World} {p q:Cr} {g h:Nat} (a:PqAt Z W p q g h) (x:Cr):PqAt Z (((((W.setCell ⟨h,0,none⟩ (.int .i64 x.a)).setCell ⟨h,1,none⟩ (.int .i64 x.b)).setCell ⟨h,2,none⟩ (.int .i64 x.c)).setCell ⟨h,3,none⟩ (.int .i64 x.d)).setCell ⟨h,4,none⟩ (.bool x.plus)) p x g h:=
 have hg:=st5n W h (.int .i64 x.a) (.int .i64 x.b) (.int .i64 x.c) (.int .i64 x.d) (.bool x.plus)
 ⟨(hg.block g (Array.getElem?_eq_some_iff.1 a.b0).1 (fun e=>a.ne (Option.some.inj e))).trans a.b0,st5b _ _ _ _ _ a.b1,a.ne,a.l0,a.l1,a.bel.grown hg a.bel.size (fun q hq=>by have:=Option.some.inj hq;have:=a.l1;omega)⟩
theorem block_cells {W:World} {b:Nat} {e:TypeId} {cs:List Value} (h:W.heap[b]?=some (.cells cs.toArray e (0,0))):∀ j u,cs[j]?=some u->W.cell? ((⟨b,0,none⟩:Addr).add j)=some u:=by
 intro j u hj
 rw[Addr.add_lit,Nat.zero_add]
 exact QQ0 h (by simpa using hj)
def codeAt (n:Nat):Code->Code
 |.seq (.region m a b) c=>if m=n then .seq (.region m a b) c else codeAt n c
 |.seq _ c=>codeAt n c
 |c=>c
theorem push7 (a:Option Addr) (cap:Nat) (C:List Cr) (loops:Int) (gF cF gT cT:Nat) (k x y:Int) (un vn:Nat) (ub vb ov:Bool) (gM mM:Nat) (F:Nat->Option Int) (g5 g6:Nat) (w W6:World) (P:Ending->World->Prop) (hm:mayD C loops=true) (hn:C.length+2<=16) (hd:Dr W6 a cap C gF gT) (hM:MapS W6 gM mM F) (hU:UvAt w W6 #[.slice a C.length cap,.int .i64 loops,.slice (some ⟨gF,0,none⟩) (2*C.length+1) cF,.slice (some ⟨gT,0,none⟩) (2*C.length+1) cT] #[.int .i64 k,.int .i64 x,.int .i64 y,.int .i64 (un:Nat),.bool ub,.int .i64 (vn:Nat),.bool vb,.bool ov] #[.int .i64 (un:Nat),.bool ub] #[.int .i64 (vn:Nat),.bool vb] g5 g6)
    (hP:∀ a' c' w',w'.ownsRow w.heap.size 71 5 (.slice a' (C.length+2) c') (C.length+2) (QQ4 (relN F C C.length++[QZ1 (if ub then(2*(C.length:Int)+1,2*(C.length:Int)+2) else((un:Int),2*(C.length:Int)+1)) (if vb then((vn:Int),2*(C.length:Int)+3) else(2*(C.length:Int)+3,2*(C.length:Int)+4)) ov (ov==(ub==vb)),QZ1 (if ub then((un:Int),2*(C.length:Int)+1) else(2*(C.length:Int)+1,2*(C.length:Int)+2)) (if vb then(2*(C.length:Int)+3,2*(C.length:Int)+4) else((vn:Int),2*(C.length:Int)+3)) ov (!(ov==(ub==vb)))]))->Below w.heap.size w w'->P (.returned (.agg #[.slice a' (C.length+2) c',.int .i64 loops])) w') (z9 z10 z11 z12 z13 z14 z15 z16 z17 z18 z19 z20 z21 z22 z23 z24 z25 z26 z27 z28 z29 z30 z31 z32 z33 z34 z35 z36 z37 z38 z39 z40 z41 z42 z43 z44 z45 z46 z47 z48 z49 z50 z51 z52 z53 z54 z55 z56 z57 z58 z59 z60 z61 z62 z63 z64 z65 z66 z67 z68 z69 z70 z71 z72 z73 z74 z75 z76 z77 z78 z79 z80 z81 z82 z83 z84 z85 z86 z87 z88 z89 z90 z91 z92 z93 z94 z95 z96 z97 z98 z99 z100 z101 z102 z103 z104 z105 z106 z107 z108 z109 z110 z111 z112 z113 z114 z115 z116 z117 z118 z119 z120 z121 z122 z123 z124 z125 z126 z127 z128 z129 z130 z131 z132 z133 z134 z135 z136 z137 z138 z139 z140 z141 z142:Value):
    Code.wp Try.prog (codeAt 7 (Try.f90.body.getD .skip)) (bodyPost Try.prog Try.f90 P) { tmps := #[.agg #[.slice a C.length cap, .int .i64 loops, .slice (some ⟨gF, 0, none⟩) (2 * C.length + 1) cF, .slice (some ⟨gT, 0, none⟩) (2 * C.length + 1) cT], .agg #[.int .i64 k, .int .i64 x, .int .i64 y, .int .i64 (un : Nat), .bool ub, .int .i64 (vn : Nat), .bool vb, .bool ov], .pointer (some ⟨w.heap.size, 0, none⟩), .pointer (some ⟨w.heap.size + 1, 0, none⟩), .pointer (some ⟨w.heap.size + 1 + 1, 0, none⟩), .pointer (some ⟨g5, 0, none⟩), .pointer (some ⟨g6, 0, none⟩), .int .i64 (C.length : Int), .map (some gM), z9, z10, z11, z12, z13, z14, z15, z16, z17, z18, z19, z20, z21, z22, z23, z24, z25, z26, z27, z28, z29, z30, z31, z32, z33, z34, z35, z36, z37, z38, z39, z40, z41, z42, z43, z44, z45, z46, z47, z48, z49, z50, z51, z52, z53, z54, z55, z56, z57, z58, z59, z60, z61, z62, z63, z64, z65, z66, z67, z68, z69, z70, z71, z72, z73, z74, z75, z76, z77, z78, z79, z80, z81, z82, z83, z84, z85, z86, z87, z88, z89, z90, z91, z92, z93, z94, z95, z96, z97, z98, z99, z100, z101, z102, z103, z104, z105, z106, z107, z108, z109, z110, z111, z112, z113, z114, z115, z116, z117, z118, z119, z120, z121, z122, z123, z124, z125, z126, z127, z128, z129, z130, z131, z132, z133, z134, z135, z136, z137, z138, z139, z140, z141, z142], defers := [] } W6 := by
 have HD:=QQ1 hd
 have HMP:=QQ1 hM
 have HU:=QQ1 hU
 have HPP:=QQ1 hP
 have HRA:=QQ1 (fun(w:World) (gF cF gT cT:Nat) (b m:Nat) (F:Nat->Option Int)=>relaid_any a cap C loops gF cF gT cT b m F w hm)
 unfold drV at HRA
 have b5:=QQ0 (i:=0) hU.b5 rfl
 have b5b:=QQ0 (i:=1) hU.b5 rfl
 have l5:g5<W6.heap.size:=(Array.getElem?_eq_some_iff.1 hU.b5).1
 have l6:g6<W6.heap.size:=(Array.getElem?_eq_some_iff.1 hU.b6).1
 have l51:g5<W6.heap.size+1:=by omega
 clear hm hd hM hU hP
 let Q9:Exit->Act->World->Prop:=bodyPost Try.prog Try.f90 P
 change Code.wp Try.prog (codeAt 7 (Try.f90.body.getD .skip)) Q9 { tmps:=#[.agg #[.slice a C.length cap,.int .i64 loops,.slice (some ⟨gF,0,none⟩) (2*C.length+1) cF,.slice (some ⟨gT,0,none⟩) (2*C.length+1) cT],.agg #[.int .i64 k,.int .i64 x,.int .i64 y,.int .i64 (un:Nat),.bool ub,.int .i64 (vn:Nat),.bool vb,.bool ov],.pointer (some ⟨w.heap.size,0,none⟩),.pointer (some ⟨w.heap.size+1,0,none⟩),.pointer (some ⟨w.heap.size+1+1,0,none⟩),.pointer (some ⟨g5,0,none⟩),.pointer (some ⟨g6,0,none⟩),.int .i64 (C.length:Int),.map (some gM),z9,z10,z11,z12,z13,z14,z15,z16,z17,z18,z19,z20,z21,z22,z23,z24,z25,z26,z27,z28,z29,z30,z31,z32,z33,z34,z35,z36,z37,z38,z39,z40,z41,z42,z43,z44,z45,z46,z47,z48,z49,z50,z51,z52,z53,z54,z55,z56,z57,z58,z59,z60,z61,z62,z63,z64,z65,z66,z67,z68,z69,z70,z71,z72,z73,z74,z75,z76,z77,z78,z79,z80,z81,z82,z83,z84,z85,z86,z87,z88,z89,z90,z91,z92,z93,z94,z95,z96,z97,z98,z99,z100,z101,z102,z103,z104,z105,z106,z107,z108,z109,z110,z111,z112,z113,z114,z115,z116,z117,z118,z119,z120,z121,z122,z123,z124,z125,z126,z127,z128,z129,z130,z131,z132,z133,z134,z135,z136,z137,z138,z139,z140,z141,z142],defers:=[] } W6
 simp only[codeAt,Try.f90,Option.getD_some,reduceIte,Nat.reduceEqDiff]
 obtain⟨X,hX⟩:∃ X,(W6.alloc (.cells #[.int .i64 (un:Nat),.int .i64 (2*(C.length:Int)+1)] 154)).alloc (.cells #[.int .i64 (2*(C.length:Int)+1),.int .i64 (2*(C.length:Int)+2)] 154)=X:=⟨_,rfl⟩
 have HX:=QQ1 hX
 have hTX:TwP W6 X ((un:Int),2*(C.length:Int)+1) (2*(C.length:Int)+1,2*(C.length:Int)+2):=by rw[<-hX];exact TwP.made W6 ((un:Int),2*(C.length:Int)+1) (2*(C.length:Int)+1,2*(C.length:Int)+2)
 have HTX:=QQ1 hTX
 clear hX hTX
 go_upto_region 8 with(fail)
 rw[HX.out]
 clear b5 b5b l51
 have HUX:=QQ1 (HU.out.on HTX.out.bel)
 have b5b:=QQ0 (i:=1) HUX.out.b5 rfl
 have b9a:=QQ0 (i:=0) HTX.out.b0 rfl
 have b9b:=QQ0 (i:=1) HTX.out.b0 rfl
 have b10a:=QQ0 (i:=0) HTX.out.b1 rfl
 have b10b:=QQ0 (i:=1) HTX.out.b1 rfl
 have f9a:=QQ2 (i:=0) HTX.out.b0
 have f9b:=QQ2 (i:=1) HTX.out.b0
 have f10a:=QQ2 (i:=0) HTX.out.b1
 have f10b:=QQ2 (i:=1) HTX.out.b1
 have lX:W6.heap.size+1<X.heap.size:=(Array.getElem?_eq_some_iff.1 HTX.out.b1).1
 have HSW : Hid (TwP W6 ((((X.setCell ⟨W6.heap.size, 0, none⟩ (.int .i64 (2 * (C.length : Int) + 1))).setCell ⟨W6.heap.size, 1, none⟩ (.int .i64 (2 * (C.length : Int) + 2))).setCell ⟨W6.heap.size + 1, 0, none⟩ (.int .i64 (un : Nat))).setCell ⟨W6.heap.size + 1, 1, none⟩ (.int .i64 (2 * (C.length : Int) + 1))) (2 * (C.length : Int) + 1, 2 * (C.length : Int) + 2) ((un : Int), 2 * (C.length : Int) + 1)) := HTX.out.swap _ _ _ _
 go_upto_if 90 with(fail)
 go_cut [] from 16 (fun wx=>TwP W6 wx (if ub then(2*(C.length:Int)+1,2*(C.length:Int)+2) else((un:Int),2*(C.length:Int)+1)) (if ub then((un:Int),2*(C.length:Int)+1) else(2*(C.length:Int)+1,2*(C.length:Int)+2)))
 case first=>
  cases ub with
  |false=>
   go_wp2
   go_meet
   exact HTX.out
  |true=>
   go_wp2
   go_meet
   exact HSW.out
 case rest=>
  rename World=>X1
  have HT1:=QQ1 hcut
  clear hcut b5b b9a b9b b10a b10b f9a f9b f10a f10b HSW HTX HX HUX lX
  clear X
  have HU1:=QQ1 (HU.out.on HT1.out.bel)
  have b6a:=QQ0 (i:=0) HU1.out.b6 rfl
  have l61:g6<X1.heap.size:=(Array.getElem?_eq_some_iff.1 HU1.out.b6).1
  have l62:g6<X1.heap.size+1:=by omega
  obtain⟨Y,hY⟩:∃ Y,(X1.alloc (.cells #[.int .i64 (vn:Nat),.int .i64 (2*(C.length:Int)+3)] 154)).alloc (.cells #[.int .i64 (2*(C.length:Int)+3),.int .i64 (2*(C.length:Int)+4)] 154)=Y:=⟨_,rfl⟩
  have HY:=QQ1 hY
  have hTY:TwP X1 Y ((vn:Int),2*(C.length:Int)+3) (2*(C.length:Int)+3,2*(C.length:Int)+4):=by rw[<-hY];exact TwP.made X1 ((vn:Int),2*(C.length:Int)+3) (2*(C.length:Int)+3,2*(C.length:Int)+4)
  have HTY:=QQ1 hTY
  clear hY hTY
  go_upto_region 11 with(fail)
  rw[HY.out]
  clear b6a l62
  have HUY:=QQ1 (HU1.out.on HTY.out.bel)
  have b6b:=QQ0 (i:=1) HUY.out.b6 rfl
  have b11a:=QQ0 (i:=0) HTY.out.b0 rfl
  have b11b:=QQ0 (i:=1) HTY.out.b0 rfl
  have b12a:=QQ0 (i:=0) HTY.out.b1 rfl
  have b12b:=QQ0 (i:=1) HTY.out.b1 rfl
  have f11a:=QQ2 (i:=0) HTY.out.b0
  have f11b:=QQ2 (i:=1) HTY.out.b0
  have f12a:=QQ2 (i:=0) HTY.out.b1
  have f12b:=QQ2 (i:=1) HTY.out.b1
  have lY:X1.heap.size+1<Y.heap.size:=(Array.getElem?_eq_some_iff.1 HTY.out.b1).1
  have HSW : Hid (TwP X1 ((((Y.setCell ⟨X1.heap.size, 0, none⟩ (.int .i64 (2 * (C.length : Int) + 3))).setCell ⟨X1.heap.size, 1, none⟩ (.int .i64 (2 * (C.length : Int) + 4))).setCell ⟨X1.heap.size + 1, 0, none⟩ (.int .i64 (vn : Nat))).setCell ⟨X1.heap.size + 1, 1, none⟩ (.int .i64 (2 * (C.length : Int) + 3))) (2 * (C.length : Int) + 3, 2 * (C.length : Int) + 4) ((vn : Int), 2 * (C.length : Int) + 3)) := HTY.out.swap _ _ _ _
  go_upto_if 107 with(fail)
  go_cut [] from 16 (fun wx=>TwP X1 wx (if vb then(2*(C.length:Int)+3,2*(C.length:Int)+4) else((vn:Int),2*(C.length:Int)+3)) (if vb then((vn:Int),2*(C.length:Int)+3) else(2*(C.length:Int)+3,2*(C.length:Int)+4)))
  case first=>
   cases vb with
   |false=>
    go_wp2
    go_meet
    exact HTY.out
   |true=>
    go_wp2
    go_meet
    exact HSW.out
  case rest=>
   rename World=>X2
   have HT2:=QQ1 hcut
   clear hcut b6b b11a b11b b12a b12b f11a f11b f12a f12b HSW HTY HY HUY lY
   clear Y
   have HU2:=QQ1 (HU1.out.on HT2.out.bel)
   have HA2:=QQ1 (HT1.out.on HT2.out.bel)
   have m7:=QQ0 (i:=7) HU2.out.b1 rfl
   have b5b:=QQ0 (i:=1) HU2.out.b5 rfl
   have b6b:=QQ0 (i:=1) HU2.out.b6 rfl
   have k1:w.heap.size+1<X2.heap.size:=(Array.getElem?_eq_some_iff.1 HU2.out.b1).1
   have k5:g5<X2.heap.size:=(Array.getElem?_eq_some_iff.1 HU2.out.b5).1
   have k6:g6<X2.heap.size:=(Array.getElem?_eq_some_iff.1 HU2.out.b6).1
   obtain⟨up,hup⟩:∃ up,(if ub then(2*(C.length:Int)+1,2*(C.length:Int)+2) else((un:Int),2*(C.length:Int)+1))=up:=⟨_,rfl⟩
   obtain⟨uq,huq⟩:∃ uq,(if ub then((un:Int),2*(C.length:Int)+1) else(2*(C.length:Int)+1,2*(C.length:Int)+2))=uq:=⟨_,rfl⟩
   obtain⟨vp,hvp⟩:∃ vp,(if vb then((vn:Int),2*(C.length:Int)+3) else(2*(C.length:Int)+3,2*(C.length:Int)+4))=vp:=⟨_,rfl⟩
   obtain⟨vq,hvq⟩:∃ vq,(if vb then(2*(C.length:Int)+3,2*(C.length:Int)+4) else((vn:Int),2*(C.length:Int)+3))=vq:=⟨_,rfl⟩
   rw[hup,huq]at HA2
   rw[hvp,hvq]at HT2
   rw[hup,huq,hvp,hvq]at HPP
   clear hup huq hvp hvq HT1 HU1 HU
   go_upto_region 14 with(fail)
   obtain⟨pl,hpl⟩:∃ pl,(ov==(ub==vb))=pl:=⟨_,rfl⟩
   rw[hpl]
   rw[hpl]at HPP
   clear hpl m7 b5b b6b k5 k6
   have HX1:=QQ1 (fun W:World=>crossed_any up vp ov pl W)
   have HX2:=QQ1 (fun W:World=>crossed_any uq vq ov (!pl) W)
   obtain⟨c1,hc1⟩:∃ c,QZ1 up vp ov pl=c:=⟨_,rfl⟩
   obtain⟨c2,hc2⟩:∃ c,QZ1 uq vq ov (!pl)=c:=⟨_,rfl⟩
   rw[hc1]at HX1 HPP
   rw[hc2]at HX2 HPP
   clear hc1 hc2
   have HSV:Hid (∀ X,Below X2.heap.size X2 X->(fun X:World=>X.cell? ⟨W6.heap.size,0,none⟩=some (.int .i64 up.1)/\X.cell? ⟨W6.heap.size,1,none⟩=some (.int .i64 up.2)/\X.cell? ⟨W6.heap.size+1,0,none⟩=some (.int .i64 uq.1)/\X.cell? ⟨W6.heap.size+1,1,none⟩=some (.int .i64 uq.2)/\X.cell? ⟨X1.heap.size,0,none⟩=some (.int .i64 vq.1)/\X.cell? ⟨X1.heap.size,1,none⟩=some (.int .i64 vq.2)/\X.cell? ⟨X1.heap.size+1,0,none⟩=some (.int .i64 vp.1)/\X.cell? ⟨X1.heap.size+1,1,none⟩=some (.int .i64 vp.2)/\X.cell? ⟨w.heap.size+1,7,none⟩=some (.bool ov)) X):=fun X hX=>by
    have p:=HA2.out.on hX
    have q:=HT2.out.on hX
    have r:=HU2.out.on hX
    exact⟨QQ0 p.b0 rfl,QQ0 p.b0 rfl,QQ0 p.b1 rfl,QQ0 p.b1 rfl,QQ0 q.b0 rfl,QQ0 q.b0 rfl,QQ0 q.b1 rfl,QQ0 q.b1 rfl,QQ0 r.b1 rfl⟩
   have HDV : Hid (Below X2.heap.size X2 X2.drew) := (Below.refl _ _).drew
   go_cut [14,15] from 16 (fun s14 s15 wx=>∃ g h,s14=.pointer (some ⟨g,0,none⟩)/\s15=.pointer (some ⟨h,0,none⟩)/\PqAt X2 wx c1 c2 g h)
   case first=>
    apply cut_one
    case h=>
     intro key
     refine rhd HSV HDV.out (fun hHeld=>?_)
     refine tk 0 (h:=?_)
     refine tk 1 (h:=?_)
     refine tk 2 (h:=?_)
     refine tk 3 (h:=?_)
     refine tk 4 (h:=?_)
     refine tk 6 (h:=?_)
     refine tk 7 (h:=?_)
     refine tk 8 (h:=?_)
     refine tk 9 (h:=?_)
     refine tk 10 (h:=?_)
     refine tk 11 (h:=?_)
     try simp only[Act.put]
     have HN:=hidN (Nd.st (z:=(.cells #[.int .i64 0,.int .i64 0,.int .i64 0,.int .i64 0,.bool false] 71)) HDV.out)
     iterate 4
      all_goals
       first
       |(have _q:Nd _ _ _ 0 none none:=HN.out;refine rm3 5 13 14 (fun K hK=>?_) (fun K hK=>?_) (fun K hK=>?_))
       |(have _q:Nd _ _ _ 0 none (some _):=HN.out;refine rm2 5 13 (fun K hK=>?_) (fun K hK=>?_))
       |(have _q:Nd _ _ _ 0 (some _) none:=HN.out;refine rm2 5 14 (fun K hK=>?_) (fun K hK=>?_))
       |(have _q:Nd _ _ _ 0 (some _) (some _):=HN.out;refine rm1 5 (fun K hK=>?_))
       |(have _q:Nd _ _ _ 1 none none:=HN.out;refine rm3 12 13 14 (fun K hK=>?_) (fun K hK=>?_) (fun K hK=>?_))
       |(have _q:Nd _ _ _ 1 none (some _):=HN.out;refine rm2 12 13 (fun K hK=>?_) (fun K hK=>?_))
       |(have _q:Nd _ _ _ 1 (some _) none:=HN.out;refine rm2 12 14 (fun K hK=>?_) (fun K hK=>?_))
       |(have _q:Nd _ _ _ 1 (some _) (some _):=HN.out;refine rm1 12 (fun K hK=>?_))
       |(have _q:Nd _ _ _ 2 none none:=HN.out;refine rm2 13 14 (fun K hK=>?_) (fun K hK=>?_))
       |(have _q:Nd _ _ _ 2 none (some _):=HN.out;refine rm1 13 (fun K hK=>?_))
       |(have _q:Nd _ _ _ 2 (some _) none:=HN.out;refine rm1 14 (fun K hK=>?_))
      all_goals
       first
       |(refine mk_ 5 ?_;go_simp;go_wp2_with (go_at_call 105;refine(HX1.out _).mono ?_;rintro e9 wA ⟨rfl,hbA⟩);have HN:=hidN (HN.out.on hbA);clear hbA;refine hK.out _ _ (HSV.out _ HN.out.2.1) (fun hHeld=>?_))
       |(refine mk_ 12 ?_;go_simp;go_wp2_with (go_at_call 105;refine(HX2.out _).mono ?_;rintro e9 wA ⟨rfl,hbA⟩);have HN:=hidN (HN.out.on hbA);clear hbA;refine hK.out _ _ (HSV.out _ HN.out.2.1) (fun hHeld=>?_))
       |(refine mk_ 13 ?_;have HN:=hidN HN.out.al0;go_simp;refine hK.out _ _ (HSV.out _ HN.out.2.1) (fun hHeld=>?_))
       |(refine mk_ 14 ?_;have HN:=hidN HN.out.al1;go_simp;refine hK.out _ _ (HSV.out _ HN.out.2.1) (fun hHeld=>?_))
       clear hK K
       try simp only[Act.put]
     all_goals refine wpAnyH_like (l':=#[true,true,true,true,true,true,true,true,true,true,true,true,true,true,true,false,false]) (by kernel_rfl) ?_
     · have HFN:Hid (PqAt X2 ((wA.alloc (.cells #[.int .i64 0,.int .i64 0,.int .i64 0,.int .i64 0,.bool false] 71)).alloc (.cells #[.int .i64 0,.int .i64 0,.int .i64 0,.int .i64 0,.bool false] 71)) ⟨0,0,0,0,false⟩ ⟨0,0,0,0,false⟩ (wA.heap.size) (wA.heap.size+1)):=PqAt.of (Nd.fin HN.out (by first|rfl|simp) (by simp) (by simp))
       clear hHeld
       revert HFN
       generalize (wA.alloc (.cells #[.int .i64 0,.int .i64 0,.int .i64 0,.int .i64 0,.bool false] 71)).alloc (.cells #[.int .i64 0,.int .i64 0,.int .i64 0,.int .i64 0,.bool false] 71)=Wz
       generalize wA.heap.size+1=gB
       generalize wA.heap.size=gA
       revert Wz gB gA
       exact key.out
     all_goals(refine key.out _ _ _ ?_;exact PqAt.of (Nd.fin HN.out (by first|rfl|simp) (by simp) (by simp)))
    intro Wz g15 g14 HZ
    have hHeld:=HSV.out _ HZ.out.bel
    have r0:=QQ0 (i:=0) HZ.out.b0 rfl
    have z0:=QQ2 (i:=0) HZ.out.b0
    have r1:=QQ0 (i:=1) HZ.out.b0 rfl
    have z1:=QQ2 (i:=1) HZ.out.b0
    have r2:=QQ0 (i:=2) HZ.out.b0 rfl
    have z2:=QQ2 (i:=2) HZ.out.b0
    have r3:=QQ0 (i:=3) HZ.out.b0 rfl
    have z3:=QQ2 (i:=3) HZ.out.b0
    have r4:=QQ0 (i:=4) HZ.out.b0 rfl
    have z4:=QQ2 (i:=4) HZ.out.b0
    have lg:g14<Wz.heap.size:=(Array.getElem?_eq_some_iff.1 HZ.out.b0).1
    obtain⟨Z1,hZ1⟩:∃ Z1,(((((Wz.setCell ⟨g14,0,none⟩ (.int .i64 c1.a)).setCell ⟨g14,1,none⟩ (.int .i64 c1.b)).setCell ⟨g14,2,none⟩ (.int .i64 c1.c)).setCell ⟨g14,3,none⟩ (.int .i64 c1.d)).setCell ⟨g14,4,none⟩ (.bool c1.plus))=Z1:=⟨_,rfl⟩
    have HZ1:=QQ1 hZ1
    have HP1:=QQ1 (HZ.out.set0 c1)
    rw[hZ1]at HP1
    clear hZ1
    refine rd1 15 (fun K hK=>?_)
    go_simp
    rw[HZ1.out]
    refine hK.out _ _ (HSV.out _ HP1.out.bel) (fun hHeld=>?_)
    clear hK K
    clear r0 r1 r2 r3 r4 z0 z1 z2 z3 z4 lg
    try simp only[Act.put]
    have r0:=QQ0 (i:=0) HP1.out.b1 rfl
    have z0:=QQ2 (i:=0) HP1.out.b1
    have r1:=QQ0 (i:=1) HP1.out.b1 rfl
    have z1:=QQ2 (i:=1) HP1.out.b1
    have r2:=QQ0 (i:=2) HP1.out.b1 rfl
    have z2:=QQ2 (i:=2) HP1.out.b1
    have r3:=QQ0 (i:=3) HP1.out.b1 rfl
    have z3:=QQ2 (i:=3) HP1.out.b1
    have r4:=QQ0 (i:=4) HP1.out.b1 rfl
    have z4:=QQ2 (i:=4) HP1.out.b1
    have lg:g15<Z1.heap.size:=(Array.getElem?_eq_some_iff.1 HP1.out.b1).1
    obtain⟨Z2,hZ2⟩:∃ Z2,(((((Z1.setCell ⟨g15,0,none⟩ (.int .i64 c2.a)).setCell ⟨g15,1,none⟩ (.int .i64 c2.b)).setCell ⟨g15,2,none⟩ (.int .i64 c2.c)).setCell ⟨g15,3,none⟩ (.int .i64 c2.d)).setCell ⟨g15,4,none⟩ (.bool c2.plus))=Z2:=⟨_,rfl⟩
    have HZ2:=QQ1 hZ2
    have HP2:=QQ1 (HP1.out.set1 c2)
    rw[hZ2]at HP2
    clear hZ2
    refine rd1 16 (fun K hK=>?_)
    go_simp
    rw[HZ2.out]
    refine hK.out _ _ (HSV.out _ HP2.out.bel) (fun hHeld=>?_)
    clear hK K
    clear r0 r1 r2 r3 r4 z0 z1 z2 z3 z4 lg
    try simp only[Act.put]
    refine wpAnyH_done (by kernel_rfl) ?_ _
    clear hHeld
    go_wp2
    go_meet
    exact⟨g14,g15,rfl,rfl,HP2.out⟩
   case rest=>
    rename World=>X3
    obtain⟨g14,g15,rfl,rfl,hpq⟩:=hcut
    have HPQ:=QQ1 hpq
    clear hpq
    have HU3:=QQ1 (HU2.out.on HPQ.out.bel)
    have HB63:=hidB (HA2.out.bel.trans (HPQ.out.bel.mono HA2.out.bel.size))
    have HD3:=QQ1 (HD.out.on HB63.out)
    have HM3:=QQ1 (HMP.out.kept (QQ5 HB63.out none) (by simp))
    have HX2B:=QQ1 HU2.out.b2
    clear HSV HDV HX1 HX2 HA2 HT2 HU2 HB63 HD HMP k1
    have HSV:Hid (∀ W,Below X3.heap.size X3 W->(fun W:World=>W.cell? ⟨w.heap.size,0,none⟩=some (.slice a C.length cap)/\W.cell? ⟨w.heap.size,1,none⟩=some (.int .i64 loops)/\W.cell? ⟨w.heap.size,2,none⟩=some (.slice (some ⟨gF,0,none⟩) (2*C.length+1) cF)/\W.cell? ⟨w.heap.size,3,none⟩=some (.slice (some ⟨gT,0,none⟩) (2*C.length+1) cT)/\W.cell? ⟨g14,0,none⟩=some (.int .i64 c1.a)/\W.cell? ⟨g14,1,none⟩=some (.int .i64 c1.b)/\W.cell? ⟨g14,2,none⟩=some (.int .i64 c1.c)/\W.cell? ⟨g14,3,none⟩=some (.int .i64 c1.d)/\W.cell? ⟨g14,4,none⟩=some (.bool c1.plus)/\W.cell? ⟨g15,0,none⟩=some (.int .i64 c2.a)/\W.cell? ⟨g15,1,none⟩=some (.int .i64 c2.b)/\W.cell? ⟨g15,2,none⟩=some (.int .i64 c2.c)/\W.cell? ⟨g15,3,none⟩=some (.int .i64 c2.d)/\W.cell? ⟨g15,4,none⟩=some (.bool c2.plus)) W):=fun W hW=>by
     have k0:=(HU3.out.on hW).b0
     have p:=HPQ.out.on hW
     exact⟨QQ0 k0 rfl,QQ0 k0 rfl,QQ0 k0 rfl,QQ0 k0 rfl,QQ0 p.b0 rfl,QQ0 p.b0 rfl,QQ0 p.b0 rfl,QQ0 p.b0 rfl,QQ0 p.b0 rfl,QQ0 p.b1 rfl,QQ0 p.b1 rfl,QQ0 p.b1 rfl,QQ0 p.b1 rfl,QQ0 p.b1 rfl⟩
    have HRL:=QQ1 (fun(W:World) (hW:Below X3.heap.size X3 W)=>HRA.out W gF cF gT cT _ _ _ (HD3.out.on hW) (HM3.out.kept (QQ5 hW none) (by simp)))
    have HDV : Hid (Below X3.heap.size X3 X3.drew) := (Below.refl _ _).drew
    have HRV:=QQ1 HU3.out.b2
    have lz:w.heap.size+1+1<X3.heap.size:=(Array.getElem?_eq_some_iff.1 HU3.out.b2).1
    have HBW:=QQ1 HU3.out.bel
    obtain⟨i0,hi,hz0,hz1,hz2⟩:=info_parts infoCross
    go_upto_region 15 with(fail)
    refine rhd HSV HDV.out (fun hHeld=>?_)
    refine tk 0 (h:=?_)
    refine tk 1 (h:=?_)
    refine tk 3 (h:=?_)
    refine tk 4 (h:=?_)
    refine tk 7 (h:=?_)
    refine tk 8 (h:=?_)
    refine tk 9 (h:=?_)
    refine tk 10 (h:=?_)
    try simp only[Act.put]
    refine rd2 2 5 (fun K hK=>?_) (fun K hK=>?_)
    · go_simp
      go_wp2_with (go_at_call 106;refine(HRL.out _ HDV.out).mono ?_;rintro e9 wA ⟨a9,c9,rfl,hoA,hbA⟩)
      have HA:=hidB ((HDV.out).trans (hbA.mono (by simp)))
      have HO:=QQ1 (QX4 (B':=X3.heap.size) hoA (by simp))
      refine hK.out _ _ (HSV.out _ HA.out) (fun hHeld=>?_)
      clear hK K
      try simp only[Act.put]
      refine rd1 5 (fun K hK=>?_)
      have HX:Hid (Below X3.heap.size X3 (wA.alloc (.cells #[.int .i64 c1.a,.int .i64 c1.b,.int .i64 c1.c,.int .i64 c1.d,.bool c1.plus,.int .i64 c2.a,.int .i64 c2.b,.int .i64 c2.c,.int .i64 c2.d,.bool c2.plus] 71))):=HA.out.alloc HA.out.size _
      go_simp
      refine hK.out _ _ (HSV.out _ HX.out) (fun hHeld=>?_)
      clear hK K
      try simp only[Act.put]
      refine rd1 6 (fun K hK=>?_)
      refine QK2 rfl (.tmp 133) (.tmp 136) 22 rfl X3.heap.size 71 i0 (.agg #[.int .i64 0,.int .i64 0,.int .i64 0,.int .i64 0,.bool false]) 5 40 Try.underlying22 hi hz0 hz1 hz2 rfl (by decide) _ C.length _ (by simp[Act.eval]) (HO.out.alloc _) ⟨wA.heap.size,0,none⟩ 2 2 [.int .i64 c1.a,.int .i64 c1.b,.int .i64 c1.c,.int .i64 c1.d,.bool c1.plus,.int .i64 c2.a,.int .i64 c2.b,.int .i64 c2.c,.int .i64 c2.d,.bool c2.plus] (by simp[Act.eval]) rfl (block_cells (alloc_at rfl)) (cells_one [c1,c2]) (by unfold maxLen;omega) (by omega) (by have:=HA.out.size;simp<;>omega) ?_
      intro v8 w8 hown8 hg8
      have H8:=hidB ((HX.out.grown hg8 HX.out.size (fun q hq=>(HO.out.lt q hq).1)))
      obtain⟨a8,c8,rfl⟩:=QX5 hown8
      have HO8:=QQ1 hown8
      refine hK.out _ _ (HSV.out _ H8.out) (fun hHeld=>?_)
      clear hK K hown8 hg8
      refine tk 11 (h:=?_)
      try simp only[Act.put]
      have q2:=(H8.out.block _ lz).trans HRV.out
      have hs8:=H8.out.size
      have r0:=QQ0 (i:=0) q2 rfl
      have r1:=QQ0 (i:=1) q2 rfl
      have z0:=QQ2 (i:=0) q2
      have z1:=QQ2 (i:=1) q2
      have l2:w.heap.size+1+1<w8.heap.size:=by omega
      obtain⟨Z,hZ⟩:∃ Z,Z=(w8.setCell ⟨w.heap.size+1+1,0,none⟩ (.slice a8 (C.length+2) c8)).setCell ⟨w.heap.size+1+1,1,none⟩ (.int .i64 loops):=⟨_,rfl⟩
      have HZE:=QQ1 hZ
      have hgZ:w8.grownBy Z (some (w.heap.size+1+1)):=by rw[hZ];exact QQ8 (QQ7 _ _ _ _) (QQ7 _ _ _ _)
      have hZ2:Z.heap[w.heap.size+1+1]?=some (.cells #[.slice a8 (C.length+2) c8,.int .i64 loops] 24 (0,0)):=by rw[hZ,QQ6 (QQ6 q2)];rfl
      have HZB:Hid (Below w.heap.size w Z):=(HBW.out.trans (H8.out.mono HBW.out.size)).grown hgZ (Nat.le_trans HBW.out.size hs8) (fun q hq=>by have:=Option.some.inj hq;omega)
      have HSZ:Hid ((fun W:World=>W.cell? ⟨w.heap.size,0,none⟩=some (.slice a C.length cap)/\W.cell? ⟨w.heap.size,1,none⟩=some (.int .i64 loops)/\W.cell? ⟨w.heap.size,2,none⟩=some (.slice (some ⟨gF,0,none⟩) (2*C.length+1) cF)/\W.cell? ⟨w.heap.size,3,none⟩=some (.slice (some ⟨gT,0,none⟩) (2*C.length+1) cT)/\W.cell? ⟨g14,0,none⟩=some (.int .i64 c1.a)/\W.cell? ⟨g14,1,none⟩=some (.int .i64 c1.b)/\W.cell? ⟨g14,2,none⟩=some (.int .i64 c1.c)/\W.cell? ⟨g14,3,none⟩=some (.int .i64 c1.d)/\W.cell? ⟨g14,4,none⟩=some (.bool c1.plus)/\W.cell? ⟨g15,0,none⟩=some (.int .i64 c2.a)/\W.cell? ⟨g15,1,none⟩=some (.int .i64 c2.b)/\W.cell? ⟨g15,2,none⟩=some (.int .i64 c2.c)/\W.cell? ⟨g15,3,none⟩=some (.int .i64 c2.d)/\W.cell? ⟨g15,4,none⟩=some (.bool c2.plus)) Z):=(by
       have hU8:=HU3.out.on H8.out
       have hP8:=HPQ.out.on H8.out
       have lw:=(Array.getElem?_eq_some_iff.1 hU8.b0).1
       have lg:=(Array.getElem?_eq_some_iff.1 hP8.b0).1
       have lh:=(Array.getElem?_eq_some_iff.1 hP8.b1).1
       have a0:=HPQ.out.l0
       have a1:=HPQ.out.l1
       have lX:=(Array.getElem?_eq_some_iff.1 HX2B.out).1
       have k0:=(hgZ.block w.heap.size lw (fun e=>by have:=Option.some.inj e;omega)).trans hU8.b0
       have k1:=(hgZ.block g14 lg (fun e=>by have:=Option.some.inj e;omega)).trans hP8.b0
       have k2:=(hgZ.block g15 lh (fun e=>by have:=Option.some.inj e;omega)).trans hP8.b1
       exact⟨QQ0 k0 rfl,QQ0 k0 rfl,QQ0 k0 rfl,QQ0 k0 rfl,QQ0 k1 rfl,QQ0 k1 rfl,QQ0 k1 rfl,QQ0 k1 rfl,QQ0 k1 rfl,QQ0 k2 rfl,QQ0 k2 rfl,QQ0 k2 rfl,QQ0 k2 rfl,QQ0 k2 rfl⟩)
      have HOZ:=QQ1 (HO8.out.kept hgZ (by
       cases hv:(Value.slice a8 (C.length+2) c8).ownBlock with
       |none=>exact Or.inl rfl
       |some k=>exact Or.inr (fun e=>by have h1:=(HO8.out.lt k hv).1;have h2:=Option.some.inj e;omega)))
      clear hZ hgZ q2
      refine rd1 12 (fun K hK=>?_)
      go_simp
      rw[<-HZE.out]
      refine hK.out _ _ HSZ.out (fun hHeld=>?_)
      clear hK K
      try simp only[Act.put]
      refine wpAnyH_done (by kernel_rfl) ?_ _
      clear hHeld
      go_wp2
      have x0:=QQ0 (i:=0) (v:=.slice a8 (C.length+2) c8) hZ2 rfl
      have x1:=QQ0 (i:=1) (v:=.int .i64 loops) hZ2 rfl
      refine bodyPost_ret (v:=.agg #[.slice a8 (C.length+2) c8,.int .i64 loops]) (by simp[results,Try.results90,go_sem,x0,x1]) rfl (HPP.out a8 c8 Z ?_ HZB.out)
      have e:∀ L:List Cr,QQ4 (L++[c1,c2])=QQ4 L++[.int .i64 c1.a,.int .i64 c1.b,.int .i64 c1.c,.int .i64 c1.d,.bool c1.plus,.int .i64 c2.a,.int .i64 c2.b,.int .i64 c2.c,.int .i64 c2.d,.bool c2.plus]:=fun L=>by simp[QQ4]
      rw[e]
      exact QX4 HOZ.out HBW.out.size
    · have HX0:Hid (Below X3.heap.size X3 (X3.drew.alloc (.cells #[.int .i64 c1.a,.int .i64 c1.b,.int .i64 c1.c,.int .i64 c1.d,.bool c1.plus,.int .i64 c2.a,.int .i64 c2.b,.int .i64 c2.c,.int .i64 c2.d,.bool c2.plus] 71))):=HDV.out.alloc (Nat.le_refl _) _
      have HNW:=hidB ((alloc_at rfl:(X3.drew.alloc (.cells #[.int .i64 c1.a,.int .i64 c1.b,.int .i64 c1.c,.int .i64 c1.d,.bool c1.plus,.int .i64 c2.a,.int .i64 c2.b,.int .i64 c2.c,.int .i64 c2.d,.bool c2.plus] 71)).heap[X3.drew.heap.size]?=some (.cells #[.int .i64 c1.a,.int .i64 c1.b,.int .i64 c1.c,.int .i64 c1.d,.bool c1.plus,.int .i64 c2.a,.int .i64 c2.b,.int .i64 c2.c,.int .i64 c2.d,.bool c2.plus] 71 (0,0))))
      go_simp
      refine hK.out _ _ (HSV.out _ HX0.out) (fun hHeld=>?_)
      clear hK K
      try simp only[Act.put]
      refine rd1 2 (fun K hK=>?_)
      go_simp
      go_wp2_with (go_at_call 106;refine(HRL.out _ HX0.out).mono ?_;rintro e9 wA ⟨a9,c9,rfl,hoA,hbA⟩)
      have HA:=hidB ((HX0.out).trans (hbA.mono (by simp)))
      have HO:=QQ1 (QX4 (B':=X3.heap.size) hoA (by simp))
      have HX:=hidB HA.out
      have HN9:=QQ1 ((hbA.block _ (by simp)).trans HNW.out)
      refine hK.out _ _ (HSV.out _ HA.out) (fun hHeld=>?_)
      clear hK K
      try simp only[Act.put]
      refine rd1 6 (fun K hK=>?_)
      refine QK2 rfl (.tmp 133) (.tmp 136) 22 rfl X3.heap.size 71 i0 (.agg #[.int .i64 0,.int .i64 0,.int .i64 0,.int .i64 0,.bool false]) 5 40 Try.underlying22 hi hz0 hz1 hz2 rfl (by decide) _ C.length _ (by simp[Act.eval]) HO.out ⟨X3.heap.size,0,none⟩ 2 2 [.int .i64 c1.a,.int .i64 c1.b,.int .i64 c1.c,.int .i64 c1.d,.bool c1.plus,.int .i64 c2.a,.int .i64 c2.b,.int .i64 c2.c,.int .i64 c2.d,.bool c2.plus] (by simp[Act.eval]) rfl (block_cells HN9.out) (cells_one [c1,c2]) (by unfold maxLen;omega) (by omega) (by have:=HA.out.size;simp<;>omega) ?_
      intro v8 w8 hown8 hg8
      have H8:=hidB ((HX.out.grown hg8 HX.out.size (fun q hq=>(HO.out.lt q hq).1)))
      obtain⟨a8,c8,rfl⟩:=QX5 hown8
      have HO8:=QQ1 hown8
      refine hK.out _ _ (HSV.out _ H8.out) (fun hHeld=>?_)
      clear hK K hown8 hg8
      refine tk 11 (h:=?_)
      try simp only[Act.put]
      have q2:=(H8.out.block _ lz).trans HRV.out
      have hs8:=H8.out.size
      have r0:=QQ0 (i:=0) q2 rfl
      have r1:=QQ0 (i:=1) q2 rfl
      have z0:=QQ2 (i:=0) q2
      have z1:=QQ2 (i:=1) q2
      have l2:w.heap.size+1+1<w8.heap.size:=by omega
      obtain⟨Z,hZ⟩:∃ Z,Z=(w8.setCell ⟨w.heap.size+1+1,0,none⟩ (.slice a8 (C.length+2) c8)).setCell ⟨w.heap.size+1+1,1,none⟩ (.int .i64 loops):=⟨_,rfl⟩
      have HZE:=QQ1 hZ
      have hgZ:w8.grownBy Z (some (w.heap.size+1+1)):=by rw[hZ];exact QQ8 (QQ7 _ _ _ _) (QQ7 _ _ _ _)
      have hZ2:Z.heap[w.heap.size+1+1]?=some (.cells #[.slice a8 (C.length+2) c8,.int .i64 loops] 24 (0,0)):=by rw[hZ,QQ6 (QQ6 q2)];rfl
      have HZB:Hid (Below w.heap.size w Z):=(HBW.out.trans (H8.out.mono HBW.out.size)).grown hgZ (Nat.le_trans HBW.out.size hs8) (fun q hq=>by have:=Option.some.inj hq;omega)
      have HSZ:Hid ((fun W:World=>W.cell? ⟨w.heap.size,0,none⟩=some (.slice a C.length cap)/\W.cell? ⟨w.heap.size,1,none⟩=some (.int .i64 loops)/\W.cell? ⟨w.heap.size,2,none⟩=some (.slice (some ⟨gF,0,none⟩) (2*C.length+1) cF)/\W.cell? ⟨w.heap.size,3,none⟩=some (.slice (some ⟨gT,0,none⟩) (2*C.length+1) cT)/\W.cell? ⟨g14,0,none⟩=some (.int .i64 c1.a)/\W.cell? ⟨g14,1,none⟩=some (.int .i64 c1.b)/\W.cell? ⟨g14,2,none⟩=some (.int .i64 c1.c)/\W.cell? ⟨g14,3,none⟩=some (.int .i64 c1.d)/\W.cell? ⟨g14,4,none⟩=some (.bool c1.plus)/\W.cell? ⟨g15,0,none⟩=some (.int .i64 c2.a)/\W.cell? ⟨g15,1,none⟩=some (.int .i64 c2.b)/\W.cell? ⟨g15,2,none⟩=some (.int .i64 c2.c)/\W.cell? ⟨g15,3,none⟩=some (.int .i64 c2.d)/\W.cell? ⟨g15,4,none⟩=some (.bool c2.plus)) Z):=(by
       have hU8:=HU3.out.on H8.out
       have hP8:=HPQ.out.on H8.out
       have lw:=(Array.getElem?_eq_some_iff.1 hU8.b0).1
       have lg:=(Array.getElem?_eq_some_iff.1 hP8.b0).1
       have lh:=(Array.getElem?_eq_some_iff.1 hP8.b1).1
       have a0:=HPQ.out.l0
       have a1:=HPQ.out.l1
       have lX:=(Array.getElem?_eq_some_iff.1 HX2B.out).1
       have k0:=(hgZ.block w.heap.size lw (fun e=>by have:=Option.some.inj e;omega)).trans hU8.b0
       have k1:=(hgZ.block g14 lg (fun e=>by have:=Option.some.inj e;omega)).trans hP8.b0
       have k2:=(hgZ.block g15 lh (fun e=>by have:=Option.some.inj e;omega)).trans hP8.b1
       exact⟨QQ0 k0 rfl,QQ0 k0 rfl,QQ0 k0 rfl,QQ0 k0 rfl,QQ0 k1 rfl,QQ0 k1 rfl,QQ0 k1 rfl,QQ0 k1 rfl,QQ0 k1 rfl,QQ0 k2 rfl,QQ0 k2 rfl,QQ0 k2 rfl,QQ0 k2 rfl,QQ0 k2 rfl⟩)
      have HOZ:=QQ1 (HO8.out.kept hgZ (by
       cases hv:(Value.slice a8 (C.length+2) c8).ownBlock with
       |none=>exact Or.inl rfl
       |some k=>exact Or.inr (fun e=>by have h1:=(HO8.out.lt k hv).1;have h2:=Option.some.inj e;omega)))
      clear hZ hgZ q2
      refine rd1 12 (fun K hK=>?_)
      go_simp
      rw[<-HZE.out]
      refine hK.out _ _ HSZ.out (fun hHeld=>?_)
      clear hK K
      try simp only[Act.put]
      refine wpAnyH_done (by kernel_rfl) ?_ _
      clear hHeld
      go_wp2
      have x0:=QQ0 (i:=0) (v:=.slice a8 (C.length+2) c8) hZ2 rfl
      have x1:=QQ0 (i:=1) (v:=.int .i64 loops) hZ2 rfl
      refine bodyPost_ret (v:=.agg #[.slice a8 (C.length+2) c8,.int .i64 loops]) (by simp[results,Try.results90,go_sem,x0,x1]) rfl (HPP.out a8 c8 Z ?_ HZB.out)
      have e:∀ L:List Cr,QQ4 (L++[c1,c2])=QQ4 L++[.int .i64 c1.a,.int .i64 c1.b,.int .i64 c1.c,.int .i64 c1.d,.bool c1.plus,.int .i64 c2.a,.int .i64 c2.b,.int .i64 c2.c,.int .i64 c2.d,.bool c2.plus]:=fun L=>by simp[QQ4]
      rw[e]
      exact QX4 HOZ.out HBW.out.size
end Go.Proofs.Ytagaajlbkfkaiaa
