/- The walk of ref.curlOf, where it may be done. Made by genme5.py. -/
import Derived.Test.YtagaajlbkfkaiaaTkhP
import Derived.Test.YtagaajlbkfkaiaaME4
import Derived.Test.YtagaajlbkfkaiaaMV7
import Derived.Test.YtagaajlbkfkaiaaMV9b
namespace Go.Proofs.Ytagaajlbkfkaiaa
open Go.RowKit
set_option maxHeartbeats 8000000
set_option maxRecDepth 100000
theorem own_apart {W:World} {B e s n k:Nat} {v:Value} {xs:List Value} {cs:Array Value} {t:TypeId} {fz:Nat×Nat} (h:W.ownsRow B e s v n xs) (hv:v.ownBlock=some k) (hk:W.heap[k]?=some (.cells cs t fz)) (hne:e≠t):False:=by
 rcases h.2 with⟨rfl,-⟩|⟨g,cp,cu,rfl,-,h1,-⟩
 · cases hv
 · obtain rfl:g=k:=Option.some.inj hv
   rw[h1]at hk
   injection hk with hk
   injection hk with h2 h3
   exact hne h3
def regAt (n:Nat):Code->Code
 |.seq (.region m a b) c=>if m=n then .region m a b else regAt n c
 |.seq _ c=>regAt n c
 |c=>c
def CurlAt (w:World) (n:Nat) (lo:Int) (L:List Cr) (e:Ending) (w':World):Prop:=∃ a' c',e=.returned (.tuple #[.agg #[.slice a' (n+1) c',.int .i64 lo],.int .i64 0])/\w'.ownsRow w.heap.size 71 5 (.slice a' (n+1) c') (n+1) (crossCells L)/\Below w.heap.size w w'
theorem own_off {W W':World} {B e s n k:Nat} {v:Value} {xs:List Value} {cs:Array Value} {t:TypeId} {fz:Nat×Nat} (h:W.ownsRow B e s v n xs) (hk:W.heap[k]?=some (.cells cs t fz)) (hne:e≠t) (hg:W.grownBy W' (some k)):W'.ownsRow B e s v n xs:=
 h.kept hg (by
  cases hv:v.ownBlock with
  |none=>exact Or.inl rfl
  |some j=>exact Or.inr (fun q=>by obtain rfl:=Option.some.inj q;exact own_apart h hv hk hne))
theorem curlEnd (aO:Option Addr) (n c2:Nat) (L:List Cr) (lo:Int) (c:Cr) (B pO pR:Nat) (w Y:World) (hn:n<16) (hO:Y.ownsRow B 71 5 (.slice aO n c2) n (crossCells L)) (hB:w.heap.size<=B) (hB2:B<=Y.heap.size) (hq:Y.heap[pO]?=some (.cells #[.slice aO n c2,.int .i64 lo] 24 (0,0))) (hr:Y.heap[pR]?=some (.cells #[.slice none 0 0,.int .i64 0] 24 (0,0))) (h1:w.heap.size<=pO) (h2:w.heap.size<=pR) (n1:pO≠pR) (hb:Below w.heap.size w Y) (K:Act->World->Prop) (hK:∀ a w1,Code.wp Try.prog (codeAt 22 (Try.f33.body.getD .skip)) (bodyPost Try.prog Try.f33 (CurlAt w n lo (L++[c]))) a w1->K a w1) (z0 z1 z2 z3 z6 z8 z9 z10 z11 z13 z14 z15 z16 z17 z18 z19 z20 z21 z22 z23 z24 z25 z26 z27 z28 z29 z30 z31 z32 z33 z34 z35 z36 z37 z38 z39 z40 z41 z42 z43 z44 z45 z46 z47 z48 z49 z50 z51 z52 z53 z54 z55 z56 z57 z58 z59 z60 z61 z62 z63 z64 z65 z66 z67 z68 z69 z70 z71 z72 z73 z74 z75 z76 z77 z78 z79 z80 z81 z82 z83 z84 z85 z86 z87 z88 z89 z90 z91 z92 z93 z94 z95 z96 z97 z98 z99 z100 z101 z102 z103 z104 z105 z106 z107 z108 z109 z110 z111 z112 z113 z114 z115 z116 z117 z118:Value):
    Code.wp Try.prog (regAt 21 (Try.f33.body.getD .skip)) (Exit.then K (bodyPost Try.prog Try.f33 (CurlAt w n lo (L++[c])))) { tmps:=#[z0,z1,z2,z3,.pointer (some ⟨pR,0,none⟩),.int .i64 0,z6,.pointer (some ⟨pO,0,none⟩),z8,z9,z10,z11,.pointer (some ⟨Y.heap.size,0,none⟩),z13,z14,z15,z16,z17,z18,z19,z20,z21,z22,z23,z24,z25,z26,z27,z28,z29,z30,z31,z32,z33,z34,z35,z36,z37,z38,z39,z40,z41,z42,z43,z44,z45,z46,z47,z48,z49,z50,z51,z52,z53,z54,z55,z56,z57,z58,z59,z60,z61,z62,z63,z64,z65,z66,z67,z68,z69,z70,z71,z72,z73,z74,z75,z76,z77,z78,z79,z80,z81,z82,z83,z84,z85,z86,z87,z88,z89,z90,z91,z92,z93,z94,z95,z96,z97,z98,z99,z100,z101,z102,z103,z104,z105,z106,z107,z108,z109,z110,z111,z112,z113,z114,z115,z116,z117,z118],defers:=[] } (Y.alloc (.cells #[.int .i64 c.a,.int .i64 c.b,.int .i64 c.c,.int .i64 c.d,.bool c.plus] 71)):=by
 let Q9:Exit->Act->World->Prop:=bodyPost Try.prog Try.f33 (CurlAt w n lo (L++[c]))
 change Code.wp Try.prog (regAt 21 (Try.f33.body.getD .skip)) (Exit.then K Q9) { tmps:=#[z0,z1,z2,z3,.pointer (some ⟨pR,0,none⟩),.int .i64 0,z6,.pointer (some ⟨pO,0,none⟩),z8,z9,z10,z11,.pointer (some ⟨Y.heap.size,0,none⟩),z13,z14,z15,z16,z17,z18,z19,z20,z21,z22,z23,z24,z25,z26,z27,z28,z29,z30,z31,z32,z33,z34,z35,z36,z37,z38,z39,z40,z41,z42,z43,z44,z45,z46,z47,z48,z49,z50,z51,z52,z53,z54,z55,z56,z57,z58,z59,z60,z61,z62,z63,z64,z65,z66,z67,z68,z69,z70,z71,z72,z73,z74,z75,z76,z77,z78,z79,z80,z81,z82,z83,z84,z85,z86,z87,z88,z89,z90,z91,z92,z93,z94,z95,z96,z97,z98,z99,z100,z101,z102,z103,z104,z105,z106,z107,z108,z109,z110,z111,z112,z113,z114,z115,z116,z117,z118],defers:=[] } (Y.alloc (.cells #[.int .i64 c.a,.int .i64 c.b,.int .i64 c.c,.int .i64 c.d,.bool c.plus] 71))
 change ∀ a w1,Code.wp Try.prog (codeAt 22 (Try.f33.body.getD .skip)) Q9 a w1->K a w1 at hK
 simp only[codeAt,Try.f33,Option.getD_some,reduceIte,Nat.reduceEqDiff]at hK
 simp only[regAt,Try.f33,Option.getD_some,reduceIte,Nat.reduceEqDiff]
 obtain⟨i0,hi,hz0,hz1,hz2⟩:=info_parts infoCross
 have lq:pO<Y.heap.size:=(Array.getElem?_eq_some_iff.1 hq).1
 have lr:pR<Y.heap.size:=(Array.getElem?_eq_some_iff.1 hr).1
 have hs0:=hb.size
 obtain⟨T,hT⟩:∃ T,Y.alloc (.cells #[.int .i64 c.a,.int .i64 c.b,.int .i64 c.c,.int .i64 c.d,.bool c.plus] 71)=T:=⟨_,rfl⟩
 rw[hT]
 have HBT:=hidB (show Below Y.heap.size Y T by rw[<-hT];exact(Below.refl _ _).alloc (Nat.le_refl _) _)
 have HKT:=hidB (show T.heap[Y.heap.size]?=some (.cells #[.int .i64 c.a,.int .i64 c.b,.int .i64 c.c,.int .i64 c.d,.bool c.plus] 71 (0,0)) by rw[<-hT];exact alloc_at rfl)
 have hsT:Y.heap.size+1<=T.heap.size:=by rw[<-hT];simp
 clear hT
 have HQT:=hid_of ((HBT.out.block pO lq).trans hq)
 have HRT:=hid_of ((HBT.out.block pR lr).trans hr)
 have HOT:=hid_of (own_any hO (grown_below HBT.out none))
 have HB:=hid_of (hb.trans (HBT.out.mono hs0))
 clear hO hq hr hb
 have o0:=block_cell (i:=0) HQT.out rfl
 have z0':=block_cell (i:=0) HKT.out rfl
 have z1':=block_cell (i:=1) HKT.out rfl
 have z2':=block_cell (i:=2) HKT.out rfl
 have z3':=block_cell (i:=3) HKT.out rfl
 have z4':=block_cell (i:=4) HKT.out rfl
 have l1:pO<T.heap.size:=by omega
 have l2:Y.heap.size<T.heap.size:=by omega
 go_wp2_with (at_builtin;refine wpList_append_own _ rfl _ _ 22 rfl B 71 i0 (.agg #[.int .i64 0,.int .i64 0,.int .i64 0,.int .i64 0,.bool false]) 5 40 Try.underlying22 hi hz0 hz1 hz2 rfl (by decide) _ _ _ rfl (HOT.out.alloc _) ⟨T.heap.size,0,none⟩ 1 1 [.int .i64 c.a,.int .i64 c.b,.int .i64 c.c,.int .i64 c.d,.bool c.plus] rfl rfl (new_cell5 _ _ _ _ _ _ _) (cells_one [c]) (by unfold maxLen;omega) (by omega) (by simp;omega) ?_;intro v8 w8 hown8 hg8 _;refine Hid.out ?_)
 refine Lib.hid ?_
 obtain⟨a8,c8,rfl⟩:=own_capS hown8
 have HO8:=hid_of hown8
 have H8:=hidB (World.grownBy.andThen (World.grownBy_alloc T _ _) hg8 (fun j e=>Or.inr e))
 have hs8:=H8.out.size
 clear hown8 hg8 o0 z0' z1' z2' z3' z4'
 have HQ8:=hid_of ((H8.out.block pO (by omega) (fun e=>own_apart HOT.out e.symm HQT.out (by decide))).trans HQT.out)
 have HR8:=hid_of ((H8.out.block pR (by omega) (fun e=>own_apart HOT.out e.symm HRT.out (by decide))).trans HRT.out)
 have HB8:=hid_of (HB.out.grown H8.out (by omega) (fun q hq=>by have:=(HOT.out.lt q hq).1;omega))
 have d0:=block_cell (i:=0) HQ8.out rfl
 have d1:=block_cell (i:=1) HQ8.out rfl
 have f0:=block_frozen (i:=0) HQ8.out
 have r0:=block_cell (i:=0) HR8.out rfl
 have r1:=block_cell (i:=1) HR8.out rfl
 have f2:=block_frozen (i:=0) HR8.out
 have f3:=block_frozen (i:=1) HR8.out
 have l3:pO<w8.heap.size:=by omega
 have l4:pR<w8.heap.size:=by omega
 go_wp2
 have hgA:=set_grown w8 pO 0 (.slice a8 (n+1) c8)
 have hZ0:=(hgA.block pR l4 (fun e=>n1 (Option.some.inj e).symm)).trans HR8.out
 have hgB:=st2_grown (w8.setCell ⟨pO,0,none⟩ (.slice a8 (n+1) c8)) pR 0 (.slice a8 (n+1) c8) (.int .i64 lo)
 refine bodyPost_ret (res_curl (set_block (set_block hZ0)) rfl rfl) rfl ⟨a8,c8,rfl,?_,?_⟩
 · have e:crossCells (L++[c])=crossCells L++[.int .i64 c.a,.int .i64 c.b,.int .i64 c.c,.int .i64 c.d,.bool c.plus]:=by simp[crossCells]
   rw[e]
   exact own_low (own_off (own_off HO8.out HQ8.out (by decide) hgA) hZ0 (by decide) hgB) hB
 · exact(HB8.out.grown hgA (by omega) (fun q hq=>by have:=Option.some.inj hq;omega)).grown hgB (by simp;omega) (fun q hq=>by have:=Option.some.inj hq;omega)
theorem curlOf_yes1 (a:Option Addr) (cap:Nat) (C:List Cr) (loops:Int) (k ua va:Int) (x:Nat) (y:Nat) (ub vb ov:Bool) (w:World) (hm:mayD C loops=true) (hx1:1<=x) (hx2:x<=2*C.length) (hy:y<4) (hn:C.length<16) (hD:CrsW w w.heap.size (.slice a C.length cap) C):
    Calls Try.prog 33 #[.agg #[.slice a C.length cap, .int .i64 loops], .agg #[.int .i64 k, .int .i64 (x : Nat), .int .i64 (y : Nat), .int .i64 ua, .bool ub, .int .i64 va, .bool vb, .bool ov]] w (CurlAt w C.length (loops) (setL C (toC C x) (toS C x) (2 * (C.length : Int) + 2) ++ [crossX ((x : Int), 2 * (C.length : Int) + 1) (2 * (C.length : Int) + 1, 2 * (C.length : Int) + 2) (decide (2 ≤ y)) (decide (y % 2 = 1))])) := by
 have hl:C.length<=16:=by omega
 have hlu:0<=loops/\loops<=1000:=by obtain⟨-,l0,l16,-⟩:=sizeB_iff (may_size hm);omega
 obtain⟨V,hV⟩:∃ V,((w.alloc (.cells #[.slice a C.length cap,.int .i64 loops] 24)).alloc (.cells #[.int .i64 k,.int .i64 (x:Nat),.int .i64 (y:Nat),.int .i64 ua,.bool ub,.int .i64 va,.bool vb,.bool ov] 28)).alloc (.cells #[.slice none 0 0,.int .i64 0] 24)=V:=⟨_,rfl⟩
 have HB:=hidB (show Below w.heap.size w V by rw[<-hV];exact below3 _ _ _ _)
 have k0:V.heap[w.heap.size]?=some (.cells #[.slice a C.length cap,.int .i64 loops] 24 (0,0)):=by rw[<-hV];exact alloc_old (alloc_old (alloc_at rfl))
 have k1:V.heap[w.heap.size+1]?=some (.cells #[.int .i64 k,.int .i64 (x:Nat),.int .i64 (y:Nat),.int .i64 ua,.bool ub,.int .i64 va,.bool vb,.bool ov] 28 (0,0)):=by rw[<-hV];exact alloc_old (alloc_at (by simp))
 have k2:V.heap[w.heap.size+1+1]?=some (.cells #[.slice none 0 0,.int .i64 0] 24 (0,0)):=by rw[<-hV];exact alloc_at (by simp)
 have hs:w.heap.size+3=V.heap.size:=by rw[<-hV];simp
 have HV:=hid_of hV
 clear hV
 have HCW:Hid (∀ W,Below w.heap.size w W->CrsW W W.heap.size (.slice a C.length cap) C):=fun W hW=>hD.up hW
 have HK0:=hid_of k0
 have HK1:=hid_of k1
 have HK2:=hid_of k2
 have b0:=block_cell (i:=0) k0 rfl
 have b1:=block_cell (i:=1) k0 rfl
 have m1:=block_cell (i:=1) k1 rfl
 have m2:=block_cell (i:=2) k1 rfl
 clear k0 k1 k2 hD
 have t1:decide ((x:Int)<0)=false:=decide_eq_false (by omega)
 have t2:decide (2*(C.length:Int)<(x:Int))=false:=decide_eq_false (by omega)
 have t3:((x:Int)==0)=false:=beq_eq_false_iff_ne.2 (by omega)
 have t6:decide ((y:Int)<0)=false:=decide_eq_false (by omega)
 have t7:decide (3<(y:Int))=false:=decide_eq_false (by omega)
 have t5:((C.length:Int)==16)=false:=beq_eq_false_iff_ne.2 (by omega)
 have HM:=hid_of hm
 clear hm
 go_enter Try.func33,Try.ntmps33
 go_upto_region 1 with(fail)
 rw[HV.out]
 go_wp2_with (go_at_call 10;refine(diagramOf_ownW _ C loops _ (by omega) (HCW.out _ HB.out)).mono ?_;rintro e9 w2 ⟨v2,rfl,hr2,hb2⟩;refine Hid.out ?_)
 refine Lib.hid ?_
 obtain⟨a2,c2,rfl⟩:=own_capS hr2
 have HB2:=hid_of hb2
 have HO2:=hid_of hr2
 have hs2:=hb2.size
 clear hr2 hb2 b0 b1 m1 m2
 obtain⟨X,hX⟩:∃ X,w2.alloc (.cells #[.slice a2 C.length c2,.int .i64 loops] 24)=X:=⟨_,rfl⟩
 have HX:=hid_of hX
 have HBX:=hidB (show Below w2.heap.size w2 X by rw[<-hX];exact(Below.refl _ _).alloc (Nat.le_refl _) _)
 have HKX:Hid (X.heap[w2.heap.size]?=some (.cells #[.slice a2 C.length c2,.int .i64 loops] 24 (0,0))):=(by rw[<-hX];exact alloc_at rfl:X.heap[w2.heap.size]?=_)
 have hsX:X.heap.size=w2.heap.size+1:=by rw[<-hX];simp
 have HVX:=hidB (HB2.out.trans (HBX.out.mono HB2.out.size))
 have HOX:=hidB (own_any HO2.out (grown_below HBX.out none))
 clear hX
 obtain⟨g2,cc,ev⟩:=own_block'' HOX.out (by omega)
 injection ev with e1 e2 e3
 subst e1
 clear e2 e3
 have hg2:=HO2.out.lt g2 rfl
 have HG2:=hid_of hg2
 obtain⟨b,off,ea,hbw,hC⟩:∃ b off,a=some ⟨b,off,none⟩/\b<w.heap.size/\CrossAt w b off C:=by
  rcases HCW.out w (Below.refl _ _) with⟨h1,h2⟩|⟨ad,cp,h1,h2⟩|⟨b,off,cp,h1,h2,h3⟩
  · rw[h2]at hx2;simp at hx2;omega
  · rw[h2]at hx2;simp at hx2;omega
  · injection h1 with h4;exact⟨b,off,h4,h2,h3⟩
 subst ea
 have HC:=hid_of hC
 clear hC
 have m1:=block_cell (i:=1) ((HVX.out.block _ (by omega)).trans HK1.out) rfl
 have HSX:Hid (∀ W,X.grownBy W (some g2)->(fun W:World=>W.cell? ⟨w2.heap.size,0,none⟩=some (.slice (some ⟨g2,0,none⟩) C.length c2)/\W.cell? ⟨w2.heap.size,1,none⟩=some (.int .i64 loops)/\W.cell? ⟨w.heap.size,0,none⟩=some (.slice (some ⟨b,off,none⟩) C.length cap)/\W.cell? ⟨w.heap.size,1,none⟩=some (.int .i64 loops)/\W.cell? ⟨w.heap.size+1,1,none⟩=some (.int .i64 (x:Nat))) W):=fun W hW=>by
  have q0:=(hW.block w2.heap.size (by omega) (fun e=>by have:=Option.some.inj e;omega)).trans HKX.out
  have q1:=((hW.block w.heap.size (by omega) (fun e=>by have:=Option.some.inj e;omega)).trans (HVX.out.block _ (by omega))).trans HK0.out
  have q2:=((hW.block (w.heap.size+1) (by omega) (fun e=>by have:=Option.some.inj e;omega)).trans (HVX.out.block _ (by omega))).trans HK1.out
  exact⟨block_cell q0 rfl,block_cell q0 rfl,block_cell q1 rfl,block_cell q1 rfl,block_cell q2 rfl⟩
 have HDX : Hid (Below X.heap.size X X.drew) := (Below.refl _ _).drew
 have HWX:=hidB (HB.out.trans (HVX.out.mono (by omega)))
 have hbX:b<X.heap.size:=by omega
 have HEN:=hid_of (fun(W:World) (hW:Below X.heap.size X W)=>endOf_is b off cap C loops x true W HM.out hx1 hx2 (by have:=hW.size;omega) (HC.out.on (HWX.out.trans (hW.mono HWX.out.size)) hbw))
 have hto:=(to_may HM.out x hx1 hx2).2
 have HST:=hid_of (fun(W:World) (hW:W.ownsRow V.heap.size 71 5 (.slice (some ⟨g2,0,none⟩) C.length c2) C.length (crossCells C))=>set_any V.heap.size g2 c2 C loops (toC C x) (toS C x) (2*(C.length:Int)+2) W hto.2.1 hto.1 (by omega) hW)
 go_upto_region 7 with(fail)
 rw[HX.out]
 go_upto_region 11 with(fail)
 refine rhd HSX (grown_below HDX.out _) (fun hHeld=>?_)
 refine tk 0 (h:=?_)
 refine tk 1 (h:=?_)
 refine tk 2 (h:=?_)
 refine tk 3 (h:=?_)
 refine tk 5 (h:=?_)
 try simp only[Act.put]
 refine rd1 4 (fun K hK=>?_)
 go_simp
 go_wp2_with (go_at_call 63;refine(HEN.out _ HDX.out).mono ?_;rintro e9 w5 ⟨rfl,hb5⟩)
 have HB5:=hid_of (HDX.out.trans (hb5.mono HDX.out.size))
 clear hb5
 refine hK.out _ _ (HSX.out _ (grown_below HB5.out _)) (fun hHeld=>?_)
 clear hK K
 try simp only[Act.put]
 refine rd1 6 (fun K hK=>?_)
 go_simp
 go_wp2_with (go_at_call 64;refine(HST.out _ (own_any HOX.out (grown_below HB5.out none))).mono ?_;rintro e9 Y ⟨rfl,hoY,hgY⟩)
 have HOY:=hid_of hoY
 have HGY:=hid_of ((grown_below HB5.out _).trans hgY)
 clear hoY hgY
 refine hK.out _ _ (HSX.out _ HGY.out) (fun hHeld=>?_)
 clear hK K
 try simp only[Act.put]
 refine wpAnyH_done (by kernel_rfl) ?_ _
 clear hHeld
 have HQO:=hid_of ((HGY.out.block w2.heap.size (by omega) (fun e=>by have:=Option.some.inj e;omega)).trans HKX.out)
 have HQR:=hid_of (((HGY.out.block (w.heap.size+1+1) (by omega) (fun e=>by have:=Option.some.inj e;omega)).trans (HVX.out.block _ (by omega))).trans HK2.out)
 have HQM:=hid_of (((HGY.out.block (w.heap.size+1) (by omega) (fun e=>by have:=Option.some.inj e;omega)).trans (HVX.out.block _ (by omega))).trans HK1.out)
 have HBY:Hid (Below w.heap.size w Y):=HWX.out.grown HGY.out HWX.out.size (fun q hq=>by have:=Option.some.inj hq;omega)
 have hsY:=HGY.out.size
 clear HSX HEN HST
 have lm:w.heap.size+1<Y.heap.size:=by omega
 have HE:=fun c=>curlEnd (some ⟨g2,0,none⟩) C.length c2 (setL C (toC C x) (toS C x) (2*(C.length:Int)+2)) (loops) c V.heap.size w2.heap.size (w.heap.size+1+1) w Y hn HOY.out (by omega) (by omega) HQO.out HQR.out (by omega) (by omega) (by omega) HBY.out
 have h4:y=0∨y=1∨y=2∨y=3:=by omega
 rcases h4 with rfl|rfl|rfl|rfl
 · have m2:Y.cell? ⟨w.heap.size+1,2,none⟩=some (.int .i64 0):=block_cell HQM.out rfl
   go_upto_region 21 with(fail)
   rename_i K hK
   exact HE ⟨(x:Int),2*(C.length:Int)+1,2*(C.length:Int)+1,2*(C.length:Int)+2,false⟩ K hK _ _ _ _ _ _ _ _ _ _ _ _ _ _ _ _ _ _ _ _ _ _ _ _ _ _ _ _ _ _ _ _ _ _ _ _ _ _ _ _ _ _ _ _ _ _ _ _ _ _ _ _ _ _ _ _ _ _ _ _ _ _ _ _ _ _ _ _ _ _ _ _ _ _ _ _ _ _ _ _ _ _ _ _ _ _ _ _ _ _ _ _ _ _ _ _ _ _ _ _ _ _ _ _ _ _ _ _ _ _ _ _ _ _ _
 · have m2:Y.cell? ⟨w.heap.size+1,2,none⟩=some (.int .i64 1):=block_cell HQM.out rfl
   go_upto_region 21 with(fail)
   rename_i K hK
   exact HE ⟨(x:Int),2*(C.length:Int)+2,2*(C.length:Int)+1,2*(C.length:Int)+1,true⟩ K hK _ _ _ _ _ _ _ _ _ _ _ _ _ _ _ _ _ _ _ _ _ _ _ _ _ _ _ _ _ _ _ _ _ _ _ _ _ _ _ _ _ _ _ _ _ _ _ _ _ _ _ _ _ _ _ _ _ _ _ _ _ _ _ _ _ _ _ _ _ _ _ _ _ _ _ _ _ _ _ _ _ _ _ _ _ _ _ _ _ _ _ _ _ _ _ _ _ _ _ _ _ _ _ _ _ _ _ _ _ _ _ _ _ _ _
 · have m2:Y.cell? ⟨w.heap.size+1,2,none⟩=some (.int .i64 2):=block_cell HQM.out rfl
   go_upto_region 21 with(fail)
   rename_i K hK
   exact HE ⟨2*(C.length:Int)+1,(x:Int),2*(C.length:Int)+2,2*(C.length:Int)+1,false⟩ K hK _ _ _ _ _ _ _ _ _ _ _ _ _ _ _ _ _ _ _ _ _ _ _ _ _ _ _ _ _ _ _ _ _ _ _ _ _ _ _ _ _ _ _ _ _ _ _ _ _ _ _ _ _ _ _ _ _ _ _ _ _ _ _ _ _ _ _ _ _ _ _ _ _ _ _ _ _ _ _ _ _ _ _ _ _ _ _ _ _ _ _ _ _ _ _ _ _ _ _ _ _ _ _ _ _ _ _ _ _ _ _ _ _ _ _
 · have m2:Y.cell? ⟨w.heap.size+1,2,none⟩=some (.int .i64 3):=block_cell HQM.out rfl
   go_upto_region 21 with(fail)
   rename_i K hK
   exact HE ⟨2*(C.length:Int)+1,2*(C.length:Int)+1,2*(C.length:Int)+2,(x:Int),true⟩ K hK _ _ _ _ _ _ _ _ _ _ _ _ _ _ _ _ _ _ _ _ _ _ _ _ _ _ _ _ _ _ _ _ _ _ _ _ _ _ _ _ _ _ _ _ _ _ _ _ _ _ _ _ _ _ _ _ _ _ _ _ _ _ _ _ _ _ _ _ _ _ _ _ _ _ _ _ _ _ _ _ _ _ _ _ _ _ _ _ _ _ _ _ _ _ _ _ _ _ _ _ _ _ _ _ _ _ _ _ _ _ _ _ _ _ _
theorem curlOf_yes0 (a:Option Addr) (cap:Nat) (C:List Cr) (loops:Int) (k ua va:Int) (y:Nat) (ub vb ov:Bool) (w:World) (hm:mayD C loops=true) (hlo:0<loops) (hy:y<4) (hn:C.length<16) (hD:CrsW w w.heap.size (.slice a C.length cap) C):
    Calls Try.prog 33 #[.agg #[.slice a C.length cap,.int .i64 loops],.agg #[.int .i64 k,.int .i64 0,.int .i64 (y:Nat),.int .i64 ua,.bool ub,.int .i64 va,.bool vb,.bool ov]] w (CurlAt w C.length (loops-1) (C++[crossX (2*(C.length:Int)+1,2*(C.length:Int)+2) (2*(C.length:Int)+2,2*(C.length:Int)+1) (decide (2<=y)) (decide (y%2=1))])):=by
 have hl:C.length<=16:=by omega
 have hlu:0<=loops/\loops<=1000:=by obtain⟨-,l0,l16,-⟩:=sizeB_iff (may_size hm);omega
 obtain⟨V,hV⟩:∃ V,((w.alloc (.cells #[.slice a C.length cap,.int .i64 loops] 24)).alloc (.cells #[.int .i64 k,.int .i64 0,.int .i64 (y:Nat),.int .i64 ua,.bool ub,.int .i64 va,.bool vb,.bool ov] 28)).alloc (.cells #[.slice none 0 0,.int .i64 0] 24)=V:=⟨_,rfl⟩
 have HB:=hidB (show Below w.heap.size w V by rw[<-hV];exact below3 _ _ _ _)
 have k0:V.heap[w.heap.size]?=some (.cells #[.slice a C.length cap,.int .i64 loops] 24 (0,0)):=by rw[<-hV];exact alloc_old (alloc_old (alloc_at rfl))
 have k1:V.heap[w.heap.size+1]?=some (.cells #[.int .i64 k,.int .i64 0,.int .i64 (y:Nat),.int .i64 ua,.bool ub,.int .i64 va,.bool vb,.bool ov] 28 (0,0)):=by rw[<-hV];exact alloc_old (alloc_at (by simp))
 have k2:V.heap[w.heap.size+1+1]?=some (.cells #[.slice none 0 0,.int .i64 0] 24 (0,0)):=by rw[<-hV];exact alloc_at (by simp)
 have hs:w.heap.size+3=V.heap.size:=by rw[<-hV];simp
 have HV:=hid_of hV
 clear hV
 have HCW:Hid (∀ W,Below w.heap.size w W->CrsW W W.heap.size (.slice a C.length cap) C):=fun W hW=>hD.up hW
 have HK0:=hid_of k0
 have HK1:=hid_of k1
 have HK2:=hid_of k2
 have b0:=block_cell (i:=0) k0 rfl
 have b1:=block_cell (i:=1) k0 rfl
 have m1:=block_cell (i:=1) k1 rfl
 have m2:=block_cell (i:=2) k1 rfl
 clear k0 k1 k2 hD
 have t3:decide (2*(C.length:Int)<0)=false:=decide_eq_false (by omega)
 have t4:(loops==0)=false:=beq_eq_false_iff_ne.2 (by omega)
 have t6:decide ((y:Int)<0)=false:=decide_eq_false (by omega)
 have t7:decide (3<(y:Int))=false:=decide_eq_false (by omega)
 have t5:((C.length:Int)==16)=false:=beq_eq_false_iff_ne.2 (by omega)
 have HM:=hid_of hm
 clear hm
 go_enter Try.func33,Try.ntmps33
 go_upto_region 1 with(fail)
 rw[HV.out]
 go_wp2_with (go_at_call 10;refine(diagramOf_ownW _ C loops _ (by omega) (HCW.out _ HB.out)).mono ?_;rintro e9 w2 ⟨v2,rfl,hr2,hb2⟩;refine Hid.out ?_)
 refine Lib.hid ?_
 obtain⟨a2,c2,rfl⟩:=own_capS hr2
 have HB2:=hid_of hb2
 have HO2:=hid_of hr2
 have hs2:=hb2.size
 clear hr2 hb2 b0 b1 m1 m2
 obtain⟨X,hX⟩:∃ X,w2.alloc (.cells #[.slice a2 C.length c2,.int .i64 loops] 24)=X:=⟨_,rfl⟩
 have HX:=hid_of hX
 have HBX:=hidB (show Below w2.heap.size w2 X by rw[<-hX];exact(Below.refl _ _).alloc (Nat.le_refl _) _)
 have HKX:Hid (X.heap[w2.heap.size]?=some (.cells #[.slice a2 C.length c2,.int .i64 loops] 24 (0,0))):=(by rw[<-hX];exact alloc_at rfl:X.heap[w2.heap.size]?=_)
 have hsX:X.heap.size=w2.heap.size+1:=by rw[<-hX];simp
 have HVX:=hidB (HB2.out.trans (HBX.out.mono HB2.out.size))
 have HOX:=hidB (own_any HO2.out (grown_below HBX.out none))
 clear hX
 have m1:=block_cell (i:=1) ((HVX.out.block _ (by omega)).trans HK1.out) rfl
 have d1:=block_cell (i:=1) HKX.out rfl
 have f1:=block_frozen (i:=1) HKX.out
 have HWX:=hidB (HB.out.trans (HVX.out.mono (by omega)))
 obtain⟨Y,hY⟩:∃ Y,X.setCell ⟨w2.heap.size,1,none⟩ (.int .i64 (loops - 1))=Y:=⟨_,rfl⟩
 have HY:=hid_of hY
 have HGY:=hidB (show X.grownBy Y (some w2.heap.size) by rw[<-hY];exact set_grown _ _ _ _)
 have HQO:Hid (Y.heap[w2.heap.size]?=some (.cells #[.slice a2 C.length c2,.int .i64 (loops-1)] 24 (0,0))):=(by rw[<-hY];exact set_block HKX.out:Y.heap[w2.heap.size]?=_)
 clear hY
 have HQR:=hid_of (((HGY.out.block (w.heap.size+1+1) (by omega) (fun e=>by have:=Option.some.inj e;omega)).trans (HVX.out.block _ (by omega))).trans HK2.out)
 have HQM:=hid_of (((HGY.out.block (w.heap.size+1) (by omega) (fun e=>by have:=Option.some.inj e;omega)).trans (HVX.out.block _ (by omega))).trans HK1.out)
 have HBY:Hid (Below w.heap.size w Y):=HWX.out.grown HGY.out HWX.out.size (fun q hq=>by have:=Option.some.inj hq;omega)
 have HOY:Hid (Y.ownsRow V.heap.size 71 5 (.slice a2 C.length c2) C.length (crossCells C)):=HOX.out.kept HGY.out (by
  cases hv:(Value.slice a2 C.length c2).ownBlock with
  |none=>exact Or.inl rfl
  |some k=>exact Or.inr (fun e=>by have:=(HO2.out.lt k hv).2;have:=Option.some.inj e;omega))
 have hsY:=HGY.out.size
 go_upto_region 7 with(fail)
 rw[HX.out]
 go_upto_region 12 with(fail)
 rw[HY.out]
 clear m1 d1 f1
 have lm:w.heap.size+1<Y.heap.size:=by omega
 have HE:=fun c=>curlEnd a2 C.length c2 (C) (loops-1) c V.heap.size w2.heap.size (w.heap.size+1+1) w Y hn HOY.out (by omega) (by omega) HQO.out HQR.out (by omega) (by omega) (by omega) HBY.out
 have h4:y=0∨y=1∨y=2∨y=3:=by omega
 rcases h4 with rfl|rfl|rfl|rfl
 · have m2:Y.cell? ⟨w.heap.size+1,2,none⟩=some (.int .i64 0):=block_cell HQM.out rfl
   go_upto_region 21 with(fail)
   rename_i K hK
   exact HE ⟨2*(C.length:Int)+1,2*(C.length:Int)+2,2*(C.length:Int)+2,2*(C.length:Int)+1,false⟩ K hK _ _ _ _ _ _ _ _ _ _ _ _ _ _ _ _ _ _ _ _ _ _ _ _ _ _ _ _ _ _ _ _ _ _ _ _ _ _ _ _ _ _ _ _ _ _ _ _ _ _ _ _ _ _ _ _ _ _ _ _ _ _ _ _ _ _ _ _ _ _ _ _ _ _ _ _ _ _ _ _ _ _ _ _ _ _ _ _ _ _ _ _ _ _ _ _ _ _ _ _ _ _ _ _ _ _ _ _ _ _ _ _ _ _ _
 · have m2:Y.cell? ⟨w.heap.size+1,2,none⟩=some (.int .i64 1):=block_cell HQM.out rfl
   go_upto_region 21 with(fail)
   rename_i K hK
   exact HE ⟨2*(C.length:Int)+1,2*(C.length:Int)+1,2*(C.length:Int)+2,2*(C.length:Int)+2,true⟩ K hK _ _ _ _ _ _ _ _ _ _ _ _ _ _ _ _ _ _ _ _ _ _ _ _ _ _ _ _ _ _ _ _ _ _ _ _ _ _ _ _ _ _ _ _ _ _ _ _ _ _ _ _ _ _ _ _ _ _ _ _ _ _ _ _ _ _ _ _ _ _ _ _ _ _ _ _ _ _ _ _ _ _ _ _ _ _ _ _ _ _ _ _ _ _ _ _ _ _ _ _ _ _ _ _ _ _ _ _ _ _ _ _ _ _ _
 · have m2:Y.cell? ⟨w.heap.size+1,2,none⟩=some (.int .i64 2):=block_cell HQM.out rfl
   go_upto_region 21 with(fail)
   rename_i K hK
   exact HE ⟨2*(C.length:Int)+2,2*(C.length:Int)+1,2*(C.length:Int)+1,2*(C.length:Int)+2,false⟩ K hK _ _ _ _ _ _ _ _ _ _ _ _ _ _ _ _ _ _ _ _ _ _ _ _ _ _ _ _ _ _ _ _ _ _ _ _ _ _ _ _ _ _ _ _ _ _ _ _ _ _ _ _ _ _ _ _ _ _ _ _ _ _ _ _ _ _ _ _ _ _ _ _ _ _ _ _ _ _ _ _ _ _ _ _ _ _ _ _ _ _ _ _ _ _ _ _ _ _ _ _ _ _ _ _ _ _ _ _ _ _ _ _ _ _ _
 · have m2:Y.cell? ⟨w.heap.size+1,2,none⟩=some (.int .i64 3):=block_cell HQM.out rfl
   go_upto_region 21 with(fail)
   rename_i K hK
   exact HE ⟨2*(C.length:Int)+2,2*(C.length:Int)+2,2*(C.length:Int)+1,2*(C.length:Int)+1,true⟩ K hK _ _ _ _ _ _ _ _ _ _ _ _ _ _ _ _ _ _ _ _ _ _ _ _ _ _ _ _ _ _ _ _ _ _ _ _ _ _ _ _ _ _ _ _ _ _ _ _ _ _ _ _ _ _ _ _ _ _ _ _ _ _ _ _ _ _ _ _ _ _ _ _ _ _ _ _ _ _ _ _ _ _ _ _ _ _ _ _ _ _ _ _ _ _ _ _ _ _ _ _ _ _ _ _ _ _ _ _ _ _ _ _ _ _ _
end Go.Proofs.Ytagaajlbkfkaiaa
