/- The walk of ref.slideOf, where it may be done, from its copy on. Made by genme11.py. -/
import Derived.Test.YtagaajlbkfkaiaaTkhP
import Derived.Test.YtagaajlbkfkaiaaME10
import Derived.Test.YtagaajlbkfkaiaaMVs
namespace Go.Proofs.Ytagaajlbkfkaiaa
open Go.RowKit
set_option maxHeartbeats 16000000
set_option maxRecDepth 100000
def slLs (C:List Cr) (l:List Nat):Nat->List Cr
 |0=>C
 |k+1=>slL C (slLs C l k) (dA (l.getD k 0))
theorem slLs_len (C:List Cr) (l:List Nat):∀ k,(slLs C l k).length=C.length
 |0=>rfl
 |k+1=>by
  show(slL C (slLs C l k) (dA (l.getD k 0))).length=C.length
  rw[slL_len,slLs_len C l k]
theorem tmod_two {s t:Nat} (hs:s<4) (ht:(s+2)%4=t):((s:Int)+2).tmod 4=(t:Int):=by
 subst ht
 match s,hs with
 |0,_=>rfl
 |1,_=>rfl
 |2,_=>rfl
 |3,_=>rfl
theorem res_slide {W:World} {g:Nat} {a b:Value} {x:Int} {tm:Array Value} (h:W.heap[g]?=some (.cells #[a,b] 24 (0,0))) (h2:tm[4]?=some (.pointer (some ⟨g,0,none⟩))) (h3:tm[5]?=some (.int .i64 x)):(results Try.f39 tm).run Try.prog W=.ok (.tuple #[.agg #[a,b],.int .i64 x]) W:=by
 have e0:W.cell? ⟨g,0,none⟩=some a:=block_cell h rfl
 have e1:W.cell? ⟨g,1,none⟩=some b:=block_cell h rfl
 simp[results,Try.results39,go_sem,h2,h3,e0,e1]
structure SrAt (Z W:World) (p1 p2 q1 q2:Nat) (g h:Nat):Prop where
 b0:W.heap[g]?=some (.cells #[.int .i64 (p1:Nat),.int .i64 (p2:Nat)] 96 (0,0))
 b1:W.heap[h]?=some (.cells #[.int .i64 (q1:Nat),.int .i64 (q2:Nat)] 96 (0,0))
 ne:g≠h
 l0:Z.heap.size<=g
 l1:Z.heap.size<=h
 bel:Below Z.heap.size Z W
theorem SrAt.on {Z W W':World} {p1 p2 q1 q2 g h:Nat} (a:SrAt Z W p1 p2 q1 q2 g h) (hb:Below W.heap.size W W'):SrAt Z W' p1 p2 q1 q2 g h:=
 have hl {k:Nat} {o:Obj} (e:W.heap[k]?=some o):W'.heap[k]?=some o:=(hb.block _ (Array.getElem?_eq_some_iff.1 e).1).trans e
 ⟨hl a.b0,hl a.b1,a.ne,a.l0,a.l1,a.bel.trans (hb.mono a.bel.size)⟩
theorem SrAt.set0 {Z W:World} {p1 p2 q1 q2 g h:Nat} (a:SrAt Z W p1 p2 q1 q2 g h) (x y:Nat):SrAt Z ((W.setCell ⟨g,0,none⟩ (.int .i64 (x:Nat))).setCell ⟨g,1,none⟩ (.int .i64 (y:Nat))) x y q1 q2 g h:=
 have hg:=st2_grown W g 0 (.int .i64 (x:Nat)) (.int .i64 (y:Nat))
 ⟨st2b a.b0,(hg.block h (Array.getElem?_eq_some_iff.1 a.b1).1 (fun e=>a.ne (Option.some.inj e).symm)).trans a.b1,a.ne,a.l0,a.l1,a.bel.grown hg a.bel.size (fun q hq=>by have:=Option.some.inj hq;have:=a.l0;omega)⟩
theorem SrAt.set1 {Z W:World} {p1 p2 q1 q2 g h:Nat} (a:SrAt Z W p1 p2 q1 q2 g h) (x y:Nat):SrAt Z ((W.setCell ⟨h,0,none⟩ (.int .i64 (x:Nat))).setCell ⟨h,1,none⟩ (.int .i64 (y:Nat))) p1 p2 x y g h:=
 have hg:=st2_grown W h 0 (.int .i64 (x:Nat)) (.int .i64 (y:Nat))
 ⟨(hg.block g (Array.getElem?_eq_some_iff.1 a.b0).1 (fun e=>a.ne (Option.some.inj e))).trans a.b0,st2b a.b1,a.ne,a.l0,a.l1,a.bel.grown hg a.bel.size (fun q hq=>by have:=Option.some.inj hq;have:=a.l1;omega)⟩
theorem SrAt.of {Z W:World} {g h:Nat} (a:W.heap[g]?=some (.cells #[.int .i64 0,.int .i64 0] 96 (0,0))/\W.heap[h]?=some (.cells #[.int .i64 0,.int .i64 0] 96 (0,0))/\g≠h/\Z.heap.size<=g/\Z.heap.size<=h/\Below Z.heap.size Z W):SrAt Z W 0 0 0 0 g h:=⟨a.1,a.2.1,a.2.2.1,a.2.2.2.1,a.2.2.2.2.1,a.2.2.2.2.2⟩
theorem slideOf16 (b off cap:Nat) (C:List Cr) (loops:Int) (g c:Nat) (l:List Nat) (w V:World) (P:Ending->World->Prop) (hm:mayD C loops=true) (hbw:b<V.heap.size) (hCr:CrossAt V b off C) (hr:RingAt V g C l) (h3:l.length=3) (hb0:V.heap[w.heap.size]?=some (.cells #[.slice (some ⟨b,off,none⟩) C.length cap,.int .i64 loops] 24 (0,0))) (hb2:V.heap[w.heap.size+1]?=some (.cells #[.slice none 0 0,.int .i64 0] 24 (0,0))) (hbel:Below w.heap.size w V)
    (hP:∀ a' c' w',w'.ownsRow w.heap.size 71 5 (.slice a' C.length c') C.length (crossCells (slLs C l 3))->Below w.heap.size w w'->P (.returned (.tuple #[.agg #[.slice a' C.length c',.int .i64 loops],.int .i64 0])) w') (z1 z3 z6 z8 z9 z10 z11 z12 z13 z14 z15 z16 z17 z18 z19 z20 z21 z22 z23 z24 z25 z26 z27 z28 z29 z30 z31 z32 z33 z34 z35 z36 z37 z38 z39 z40 z41 z42 z43 z44 z45 z46 z47 z48 z49 z50 z51 z52 z53 z54 z55 z56 z57 z58 z59 z60 z61 z62 z63 z64 z65 z66 z67 z68 z69 z70 z71 z72 z73 z74 z75 z76 z77 z78 z79 z80 z81 z82 z83 z84 z85 z86 z87 z88 z89 z90 z91 z92 z93 z94 z95 z96 z97 z98 z99 z100 z101 z102 z103 z104 z105 z106 z107 z108 z109 z110 z111 z112 z113 z114 z115 z116 z117 z118 z119 z120 z121 z122 z123 z124 z125 z126 z127 z128 z129 z130 z131 z132 z133 z134 z135 z136 z137 z138 z139 z140 z141 z142 z143 z144 z145 z146 z147 z148 z149 z150 z151 z152 z153 z154 z155 z156 z157 z158 z159 z160:Value):
    Code.wp Try.prog (codeAt 16 (Try.f39.body.getD .skip)) (bodyPost Try.prog Try.f39 P) { tmps := #[.agg #[.slice (some ⟨b, off, none⟩) C.length cap, .int .i64 loops], z1, .pointer (some ⟨w.heap.size, 0, none⟩), z3, .pointer (some ⟨w.heap.size + 1, 0, none⟩), .int .i64 0, z6, .slice (some ⟨g, 0, none⟩) 3 c, z8, z9, z10, z11, z12, z13, z14, z15, z16, z17, z18, z19, z20, z21, z22, z23, z24, z25, z26, z27, z28, z29, z30, z31, z32, z33, z34, z35, z36, z37, z38, z39, z40, z41, z42, z43, z44, z45, z46, z47, z48, z49, z50, z51, z52, z53, z54, z55, z56, z57, z58, z59, z60, z61, z62, z63, z64, z65, z66, z67, z68, z69, z70, z71, z72, z73, z74, z75, z76, z77, z78, z79, z80, z81, z82, z83, z84, z85, z86, z87, z88, z89, z90, z91, z92, z93, z94, z95, z96, z97, z98, z99, z100, z101, z102, z103, z104, z105, z106, z107, z108, z109, z110, z111, z112, z113, z114, z115, z116, z117, z118, z119, z120, z121, z122, z123, z124, z125, z126, z127, z128, z129, z130, z131, z132, z133, z134, z135, z136, z137, z138, z139, z140, z141, z142, z143, z144, z145, z146, z147, z148, z149, z150, z151, z152, z153, z154, z155, z156, z157, z158, z159, z160], defers := [] } V := by
 have HM:=hid_of hm
 have HC:=hid_of hCr
 have HRI:=hid_of hr
 have HB0:=hid_of hb0
 have HB2:=hid_of hb2
 have HBW:=hid_of hbel
 have HPP:=hid_of hP
 have hl16:=may_len hm
 have lw:w.heap.size<V.heap.size:=(Array.getElem?_eq_some_iff.1 hb0).1
 have lz:w.heap.size+1<V.heap.size:=(Array.getElem?_eq_some_iff.1 hb2).1
 have hg0:=hr.1
 have hCp:0<C.length:=by
  have h:=(hr.2.2 0 (by omega)).1
  omega
 have HL3:=hid_of h3
 have HCW : Hid (CrsW V V.heap.size (.slice (some ⟨b, off, none⟩) C.length cap) C) := Or.inr (Or.inr ⟨b, off, cap, rfl, hbw, hCr⟩)
 have b0:=block_cell (i:=0) hb0 rfl
 have b1:=block_cell (i:=1) hb0 rfl
 clear hm hCr hr hb0 hb2 hbel hP h3
 let Q9:Exit->Act->World->Prop:=bodyPost Try.prog Try.f39 P
 change Code.wp Try.prog (codeAt 16 (Try.f39.body.getD .skip)) Q9 { tmps:=#[.agg #[.slice (some ⟨b,off,none⟩) C.length cap,.int .i64 loops],z1,.pointer (some ⟨w.heap.size,0,none⟩),z3,.pointer (some ⟨w.heap.size+1,0,none⟩),.int .i64 0,z6,.slice (some ⟨g,0,none⟩) 3 c,z8,z9,z10,z11,z12,z13,z14,z15,z16,z17,z18,z19,z20,z21,z22,z23,z24,z25,z26,z27,z28,z29,z30,z31,z32,z33,z34,z35,z36,z37,z38,z39,z40,z41,z42,z43,z44,z45,z46,z47,z48,z49,z50,z51,z52,z53,z54,z55,z56,z57,z58,z59,z60,z61,z62,z63,z64,z65,z66,z67,z68,z69,z70,z71,z72,z73,z74,z75,z76,z77,z78,z79,z80,z81,z82,z83,z84,z85,z86,z87,z88,z89,z90,z91,z92,z93,z94,z95,z96,z97,z98,z99,z100,z101,z102,z103,z104,z105,z106,z107,z108,z109,z110,z111,z112,z113,z114,z115,z116,z117,z118,z119,z120,z121,z122,z123,z124,z125,z126,z127,z128,z129,z130,z131,z132,z133,z134,z135,z136,z137,z138,z139,z140,z141,z142,z143,z144,z145,z146,z147,z148,z149,z150,z151,z152,z153,z154,z155,z156,z157,z158,z159,z160],defers:=[] } V
 simp only[codeAt,Try.f39,Option.getD_some,reduceIte,Nat.reduceEqDiff]
 go_wp2_with (go_at_call 10;refine(diagramOf_ownW _ C loops _ (by omega) HCW.out).mono ?_;rintro e9 w3 ⟨v3,rfl,hr3,hb3⟩;refine Hid.out ?_)
 refine Lib.hid ?_
 obtain⟨go,co,ev⟩:=own_block'' hr3 hCp
 subst ev
 have hgo:=hr3.lt go rfl
 have HB3:=hid_of hb3
 have HO3:=hid_of hr3
 have hs3:=hb3.size
 clear hr3 hb3 b0 b1
 obtain⟨X,hX⟩:∃ X,w3.alloc (.cells #[.slice (some ⟨go,0,none⟩) C.length co,.int .i64 loops] 24)=X:=⟨_,rfl⟩
 have HX:=hid_of hX
 have HBX:=hidB (show Below w3.heap.size w3 X by rw[<-hX];exact(Below.refl _ _).alloc (Nat.le_refl _) _)
 have HKX:Hid (X.heap[w3.heap.size]?=some (.cells #[.slice (some ⟨go,0,none⟩) C.length co,.int .i64 loops] 24 (0,0))):=(by rw[<-hX];exact alloc_at rfl:X.heap[w3.heap.size]?=_)
 have hsX:w3.heap.size+1<=X.heap.size:=by rw[<-hX];simp
 clear hX
 have HVX:=hidB (HB3.out.trans (HBX.out.mono hs3))
 have HWX:=hidB (HBW.out.trans (HVX.out.mono HBW.out.size))
 have HOX:=hidB (own_any HO3.out (grown_below HBX.out none))
 have HGX : Hid (X.grownBy X (some go)) := grown_below (Below.refl _ _) _
 have HVW:Hid (∀ W,X.grownBy W (some go)->Below V.heap.size V W):=fun W hW=>HVX.out.grown hW HVX.out.size (fun q hq=>by have:=Option.some.inj hq;omega)
 have HWW:Hid (∀ W,X.grownBy W (some go)->Below w.heap.size w W):=fun W hW=>HBW.out.trans ((HVW.out W hW).mono HBW.out.size)
 go_upto_region 17 with(fail)
 rw[HX.out]
 go_wp2
 go_loopw [12] (fun v12 wr=>∃ k:Nat,k<=3/\v12=.int .i64 (k:Nat)/\Hid (wr.ownsRow V.heap.size 71 5 (.slice (some ⟨go,0,none⟩) C.length co) C.length (crossCells (slLs C l k)))/\Hid (X.grownBy wr (some go))) (fun v12 _=>3-(intOf v12).toNat)
 case atStart=>exact⟨0,by omega,rfl,HOX.out,HGX.out⟩
 case round=>
  rename World=>Z
  obtain⟨k,hk3,rfl,ho,hgz⟩:=hrel
  have HOZ:=hid_of ho.out
  have HGZ:=hid_of hgz.out
  have hsZ:=hgz.out.size
  clear ho hgz
  by_cases hkl:k<3
  · obtain⟨d,hd⟩:∃ d,l.getD k 0=d:=⟨_,rfl⟩
    have hring:=HRI.out.2.2 k (by rw[HL3.out];exact hkl)
    rw[hd]at hring
    obtain⟨⟨hd1,hd2⟩,hc0,hc1⟩:=hring
    obtain⟨x,hx⟩:∃ x,dA d=x:=⟨_,rfl⟩
    have hxr:=dA_le hd1 hd2
    rw[hx]at hxr hc0
    obtain⟨hx1,hx2⟩:=hxr
    have hp:=en_may HM.out x false hx1 hx2
    have hq:=en_may HM.out x true hx1 hx2
    have hEP:=fun(W:World) (h1:b<W.heap.size) (h2:CrossAt W b off C)=>endOf_is b off cap C loops x false W HM.out hx1 hx2 h1 h2
    have hEQ:=fun(W:World) (h1:b<W.heap.size) (h2:CrossAt W b off C)=>endOf_is b off cap C loops x true W HM.out hx1 hx2 h1 h2
    obtain⟨pc,hpc⟩:∃ n,enC C x false=n:=⟨_,rfl⟩
    obtain⟨ps,hps⟩:∃ n,enS C x false=n:=⟨_,rfl⟩
    obtain⟨qc,hqc⟩:∃ n,enC C x true=n:=⟨_,rfl⟩
    obtain⟨qs,hqs⟩:∃ n,enS C x true=n:=⟨_,rfl⟩
    rw[hpc,hps]at hp hEP
    rw[hqc,hqs]at hq hEQ
    obtain⟨-,hpcl,hps4,-,-⟩:=hp
    obtain⟨-,hqcl,hqs4,-,-⟩:=hq
    obtain⟨p2,hp2⟩:∃ n,(ps+2)%4=n:=⟨_,rfl⟩
    obtain⟨q2,hq2⟩:∃ n,(qs+2)%4=n:=⟨_,rfl⟩
    have hp24:p2<4:=by omega
    have hq24:q2<4:=by omega
    have HEP:=hid_of hEP
    have HEQ:=hid_of hEQ
    have HAI:=hid_of (fun(W:World) (h1:b<W.heap.size) (h2:CrossAt W b off C)=>arcAt_any b off cap loops C pc p2 W hpcl hp24 h1 h2)
    have HAO:=hid_of (fun(W:World) (h1:b<W.heap.size) (h2:CrossAt W b off C)=>arcAt_any b off cap loops C qc q2 W hqcl hq24 h1 h2)
    obtain⟨D,hD⟩:∃ D,slLs C l k=D:=⟨_,rfl⟩
    have hDl:D.length=C.length:=by rw[<-hD];exact slLs_len C l k
    rw[hD]at HOZ
    obtain⟨ai,hAI⟩:∃ y,(C.getD pc Cr.none).arc p2=y:=⟨_,rfl⟩
    obtain⟨ao,hAO⟩:∃ y,(C.getD qc Cr.none).arc q2=y:=⟨_,rfl⟩
    have HFX:Hid (slLs C l (k+1)=setL (setL (setL (setL D qc qs ai) qc q2 (x:Int)) pc p2 (x:Int)) pc ps ao):=(by
     show slL C (slLs C l k) (dA (l.getD k 0))=_
     rw[hd,hx,hD]
     unfold slL
     rw[hpc,hps,hqc,hqs,hp2,hq2,hAI,hAO]:slLs C l (k+1)=_)
    rw[hAI]at HAI
    rw[hAO]at HAO
    have tm1:=tmod_two hps4 hp2
    have tm2:=tmod_two hqs4 hq2
    have w1:IntKind.i64.wrap ((ps:Int)+2)=(ps:Int)+2:=IntWalk.i64_in _ (by omega)
    have w2:IntKind.i64.wrap ((qs:Int)+2)=(qs:Int)+2:=IntWalk.i64_in _ (by omega)
    have HDL:=hid_of hDl
    have HST:Hid (∀ (E:List Cr) (i s:Nat) (v:Int) (W:World),E.length=C.length->s<4->i<C.length->W.ownsRow V.heap.size 71 5 (.slice (some ⟨go,0,none⟩) C.length co) C.length (crossCells E)->Calls Try.prog 64 #[.agg #[.slice (some ⟨go,0,none⟩) C.length co,.int .i64 loops],.agg #[.int .i64 (i:Nat),.int .i64 (s:Nat)],.int .i64 v] W fun e w'=>e=.returned (.tuple #[])/\w'.ownsRow V.heap.size 71 5 (.slice (some ⟨go,0,none⟩) C.length co) C.length (crossCells (setL E i s v))/\W.grownBy w' (some go)):=fun E i s v W hE hs hi ho=>by
     have h:=set_any V.heap.size go co E loops i s v W hs (by omega) (by omega) (by rw[hE];exact ho)
     rw[hE]at h
     exact h
    clear hEP hEQ hd hx hpc hps hqc hqs hp2 hq2 hAI hAO hD hDl
    have HVZ:=hid_of (HVW.out Z HGZ.out)
    have e0:Z.cell? ⟨g,k*2,none⟩=some (.int .i64 (x:Nat)):=bcell HVZ.out hg0 hc0
    clear hc0 hc1
    have hi0:(0:Int)<=(k:Int):=by omega
    have hi1:(k:Int)<3:=by omega
    have lgZ:g<Z.heap.size:=by omega
    have HCZ:Hid (∀ W,Below V.heap.size V W->b<W.heap.size/\CrossAt W b off C):=fun W hW=>⟨Nat.lt_of_lt_of_le hbw hW.size,HC.out.on hW hbw⟩
    go_upto_region 21 with(fail)
    clear e0
    have hsV:=HVZ.out.size
    have HS21:Hid (∀ X,Below Z.heap.size Z X->(fun X:World=>X.cell? ⟨w.heap.size,0,none⟩=some (.slice (some ⟨b,off,none⟩) C.length cap)/\X.cell? ⟨w.heap.size,1,none⟩=some (.int .i64 loops)) X):=fun X hX=>by
     have k0:=((HVZ.out.trans (hX.mono hsV)).block _ lw).trans HB0.out
     exact⟨block_cell k0 rfl,block_cell k0 rfl⟩
    have HDZ : Hid (Below Z.heap.size Z Z.drew) := (Below.refl _ _).drew
    have HCB:Hid (∀ W,Below Z.heap.size Z W->b<W.heap.size/\CrossAt W b off C):=fun W hW=>HCZ.out W (HVZ.out.trans (hW.mono hsV))
    apply cut_one
    case h=>
     intro key
     refine rhd HS21 HDZ.out (fun hHeld=>?_)
     refine tk 0 (h:=?_)
     refine tk 1 (h:=?_)
     refine tk 3 (h:=?_)
     refine tk 4 (h:=?_)
     try simp only[Act.put]
     have HN:=hidN (Nd.st (z:=(.cells #[.int .i64 0,.int .i64 0] 96)) HDZ.out)
     iterate 4
      all_goals
       first
       |(have _q:Nd _ _ _ 0 none none:=HN.out;refine rm3 2 6 7 (fun K hK=>?_) (fun K hK=>?_) (fun K hK=>?_))
       |(have _q:Nd _ _ _ 0 none (some _):=HN.out;refine rm2 2 6 (fun K hK=>?_) (fun K hK=>?_))
       |(have _q:Nd _ _ _ 0 (some _) none:=HN.out;refine rm2 2 7 (fun K hK=>?_) (fun K hK=>?_))
       |(have _q:Nd _ _ _ 0 (some _) (some _):=HN.out;refine rm1 2 (fun K hK=>?_))
       |(have _q:Nd _ _ _ 1 none none:=HN.out;refine rm3 5 6 7 (fun K hK=>?_) (fun K hK=>?_) (fun K hK=>?_))
       |(have _q:Nd _ _ _ 1 none (some _):=HN.out;refine rm2 5 6 (fun K hK=>?_) (fun K hK=>?_))
       |(have _q:Nd _ _ _ 1 (some _) none:=HN.out;refine rm2 5 7 (fun K hK=>?_) (fun K hK=>?_))
       |(have _q:Nd _ _ _ 1 (some _) (some _):=HN.out;refine rm1 5 (fun K hK=>?_))
       |(have _q:Nd _ _ _ 2 none none:=HN.out;refine rm2 6 7 (fun K hK=>?_) (fun K hK=>?_))
       |(have _q:Nd _ _ _ 2 none (some _):=HN.out;refine rm1 6 (fun K hK=>?_))
       |(have _q:Nd _ _ _ 2 (some _) none:=HN.out;refine rm1 7 (fun K hK=>?_))
      all_goals
       first
       |(refine mk_ 2 ?_;go_simp;go_wp2_with (go_at_call 63;refine(HEP.out _ (HCB.out _ HN.out.2.1).1 (HCB.out _ HN.out.2.1).2).mono ?_;rintro e9 wA ⟨rfl,hbA⟩);have HN:=hidN (HN.out.on hbA);clear hbA;refine hK.out _ _ (HS21.out _ HN.out.2.1) (fun hHeld=>?_))
       |(refine mk_ 5 ?_;go_simp;go_wp2_with (go_at_call 63;refine(HEQ.out _ (HCB.out _ HN.out.2.1).1 (HCB.out _ HN.out.2.1).2).mono ?_;rintro e9 wA ⟨rfl,hbA⟩);have HN:=hidN (HN.out.on hbA);clear hbA;refine hK.out _ _ (HS21.out _ HN.out.2.1) (fun hHeld=>?_))
       |(refine mk_ 6 ?_;have HN:=hidN HN.out.al0;go_simp;refine hK.out _ _ (HS21.out _ HN.out.2.1) (fun hHeld=>?_))
       |(refine mk_ 7 ?_;have HN:=hidN HN.out.al1;go_simp;refine hK.out _ _ (HS21.out _ HN.out.2.1) (fun hHeld=>?_))
       clear hK K
       try simp only[Act.put]
     all_goals refine wpAnyH_like (l':=#[true,true,true,true,true,true,true,true,false,false]) (by kernel_rfl) ?_
     · have HFN:Hid (SrAt Z ((wA.alloc (.cells #[.int .i64 0,.int .i64 0] 96)).alloc (.cells #[.int .i64 0,.int .i64 0] 96)) 0 0 0 0 (wA.heap.size) (wA.heap.size+1)):=SrAt.of (Nd.fin HN.out (by first|rfl|simp) (by simp) (by simp))
       clear hHeld
       revert HFN
       generalize (wA.alloc (.cells #[.int .i64 0,.int .i64 0] 96)).alloc (.cells #[.int .i64 0,.int .i64 0] 96)=Wz
       generalize wA.heap.size+1=gB
       generalize wA.heap.size=gA
       revert Wz gB gA
       exact key.out
     all_goals(refine key.out _ _ _ ?_;exact SrAt.of (Nd.fin HN.out (by first|rfl|simp) (by simp) (by simp)))
    intro W4 g11 g10 HC4
    have hHeld:=HS21.out _ HC4.out.bel
    have r0:=block_cell (i:=0) HC4.out.b0 rfl
    have f0:=block_frozen (i:=0) HC4.out.b0
    have r1:=block_cell (i:=1) HC4.out.b0 rfl
    have f1:=block_frozen (i:=1) HC4.out.b0
    have lg:g10<W4.heap.size:=(Array.getElem?_eq_some_iff.1 HC4.out.b0).1
    obtain⟨Wa,hWa⟩:∃ Wa,(W4.setCell ⟨g10,0,none⟩ (.int .i64 (pc:Nat))).setCell ⟨g10,1,none⟩ (.int .i64 (ps:Nat))=Wa:=⟨_,rfl⟩
    have HWa:=hid_of hWa
    have HC5:=hid_of (HC4.out.set0 pc ps)
    rw[hWa]at HC5
    clear hWa
    refine rd1 8 (fun K hK=>?_)
    go_simp
    rw[HWa.out]
    refine hK.out _ _ (HS21.out _ HC5.out.bel) (fun hHeld=>?_)
    clear hK K
    clear r0 r1 f0 f1 lg
    try simp only[Act.put]
    have r0:=block_cell (i:=0) HC5.out.b1 rfl
    have f0:=block_frozen (i:=0) HC5.out.b1
    have r1:=block_cell (i:=1) HC5.out.b1 rfl
    have f1:=block_frozen (i:=1) HC5.out.b1
    have lg:g11<Wa.heap.size:=(Array.getElem?_eq_some_iff.1 HC5.out.b1).1
    obtain⟨Wb,hWb⟩:∃ Wb,(Wa.setCell ⟨g11,0,none⟩ (.int .i64 (qc:Nat))).setCell ⟨g11,1,none⟩ (.int .i64 (qs:Nat))=Wb:=⟨_,rfl⟩
    have HWb:=hid_of hWb
    have HC6:=hid_of (HC5.out.set1 qc qs)
    rw[hWb]at HC6
    clear hWb
    refine rd1 9 (fun K hK=>?_)
    go_simp
    rw[HWb.out]
    refine hK.out _ _ (HS21.out _ HC6.out.bel) (fun hHeld=>?_)
    clear hK K
    clear r0 r1 f0 f1 lg
    try simp only[Act.put]
    refine wpAnyH_done (by kernel_rfl) ?_ _
    clear hHeld HC4 HC5 HS21 HDZ HWa HWb HEP HEQ HCB
    have HS22:Hid (∀ X,Below Wb.heap.size Wb X->(fun X:World=>X.cell? ⟨g10,0,none⟩=some (.int .i64 (pc:Nat))/\X.cell? ⟨g10,1,none⟩=some (.int .i64 (ps:Nat))/\X.cell? ⟨g11,0,none⟩=some (.int .i64 (qc:Nat))/\X.cell? ⟨g11,1,none⟩=some (.int .i64 (qs:Nat))) X):=fun X hX=>by
     have p:=HC6.out.on hX
     exact⟨block_cell p.b0 rfl,block_cell p.b0 rfl,block_cell p.b1 rfl,block_cell p.b1 rfl⟩
    have HDB : Hid (Below Wb.heap.size Wb Wb.drew) := (Below.refl _ _).drew
    go_upto_region 22 with(fail)
    apply cut_one
    case h=>
     intro key
     refine rhd HS22 HDB.out (fun hHeld=>?_)
     refine tk 0 (h:=?_)
     refine tk 1 (h:=?_)
     refine tk 2 (h:=?_)
     refine tk 3 (h:=?_)
     refine tk 4 (h:=?_)
     refine tk 5 (h:=?_)
     refine tk 6 (h:=?_)
     refine tk 7 (h:=?_)
     refine tk 8 (h:=?_)
     refine tk 9 (h:=?_)
     refine tk 10 (h:=?_)
     refine tk 11 (h:=?_)
     refine tk 12 (h:=?_)
     refine tk 13 (h:=?_)
     try simp only[Act.put]
     have HN:=hidN (Nd.st (z:=(.cells #[.int .i64 0,.int .i64 0] 96)) HDB.out)
     iterate 2
      all_goals
       first
       |(have _q:Nd _ _ _ 0 none none:=HN.out;refine rm2 14 15 (fun K hK=>?_) (fun K hK=>?_))
       |(have _q:Nd _ _ _ 0 none (some _):=HN.out;refine rm1 14 (fun K hK=>?_))
       |(have _q:Nd _ _ _ 0 (some _) none:=HN.out;refine rm1 15 (fun K hK=>?_))
      all_goals
       first
       |(refine mk_ 14 ?_;have HN:=hidN HN.out.al0;go_simp;refine hK.out _ _ (HS22.out _ HN.out.2.1) (fun hHeld=>?_))
       |(refine mk_ 15 ?_;have HN:=hidN HN.out.al1;go_simp;refine hK.out _ _ (HS22.out _ HN.out.2.1) (fun hHeld=>?_))
       clear hK K
       try simp only[Act.put]
     all_goals refine wpAnyH_like (l':=#[true,true,true,true,true,true,true,true,true,true,true,true,true,true,true,true,false,false]) (by kernel_rfl) ?_
     · have HFN:Hid (SrAt Wb (((Wb.alloc (.cells #[.int .i64 0,.int .i64 0] 96)).alloc (.cells #[.int .i64 0,.int .i64 0] 96)).drew) 0 0 0 0 (Wb.heap.size) (Wb.heap.size+1)):=SrAt.of (Nd.fin HN.out (by first|rfl|simp) (by simp) (by simp))
       clear hHeld
       revert HFN
       generalize ((Wb.alloc (.cells #[.int .i64 0,.int .i64 0] 96)).alloc (.cells #[.int .i64 0,.int .i64 0] 96)).drew=Wz
       generalize Wb.heap.size+1=gB
       generalize Wb.heap.size=gA
       revert Wz gB gA
       exact key.out
     all_goals(refine key.out _ _ _ ?_;exact SrAt.of (Nd.fin HN.out (by first|rfl|simp) (by simp) (by simp)))
    intro W5 g13 g12 HC7
    have hHeld:=HS22.out _ HC7.out.bel
    have r0:=block_cell (i:=0) HC7.out.b0 rfl
    have f0:=block_frozen (i:=0) HC7.out.b0
    have r1:=block_cell (i:=1) HC7.out.b0 rfl
    have f1:=block_frozen (i:=1) HC7.out.b0
    have lg:g12<W5.heap.size:=(Array.getElem?_eq_some_iff.1 HC7.out.b0).1
    obtain⟨Wc,hWc⟩:∃ Wc,(W5.setCell ⟨g12,0,none⟩ (.int .i64 (pc:Nat))).setCell ⟨g12,1,none⟩ (.int .i64 (p2:Nat))=Wc:=⟨_,rfl⟩
    have HWc:=hid_of hWc
    have HC8:=hid_of (HC7.out.set0 pc p2)
    rw[hWc]at HC8
    clear hWc
    refine rd1 16 (fun K hK=>?_)
    go_simp
    rw[HWc.out]
    refine hK.out _ _ (HS22.out _ HC8.out.bel) (fun hHeld=>?_)
    clear hK K
    clear r0 r1 f0 f1 lg
    try simp only[Act.put]
    have r0:=block_cell (i:=0) HC8.out.b1 rfl
    have f0:=block_frozen (i:=0) HC8.out.b1
    have r1:=block_cell (i:=1) HC8.out.b1 rfl
    have f1:=block_frozen (i:=1) HC8.out.b1
    have lg:g13<Wc.heap.size:=(Array.getElem?_eq_some_iff.1 HC8.out.b1).1
    obtain⟨Y,hY⟩:∃ Y,(Wc.setCell ⟨g13,0,none⟩ (.int .i64 (qc:Nat))).setCell ⟨g13,1,none⟩ (.int .i64 (q2:Nat))=Y:=⟨_,rfl⟩
    have HY:=hid_of hY
    have HC9:=hid_of (HC8.out.set1 qc q2)
    rw[hY]at HC9
    clear hY
    refine rd1 17 (fun K hK=>?_)
    go_simp
    rw[HY.out]
    refine hK.out _ _ (HS22.out _ HC9.out.bel) (fun hHeld=>?_)
    clear hK K
    clear r0 r1 f0 f1 lg
    try simp only[Act.put]
    refine wpAnyH_done (by kernel_rfl) ?_ _
    clear hHeld HC7 HC8 HS22 HDB HWc HY tm1 tm2 w1 w2
    have HZY:=hidB (HC6.out.bel.trans (HC9.out.bel.mono HC6.out.bel.size))
    have HXY:=hidB (HGZ.out.trans (grown_below HZY.out _))
    have HOY:=hidB (own_any HOZ.out (grown_below HZY.out none))
    have HS23:Hid (∀ W,Y.grownBy W (some go)->(fun X:World=>X.cell? ⟨w.heap.size,0,none⟩=some (.slice (some ⟨b,off,none⟩) C.length cap)/\X.cell? ⟨w.heap.size,1,none⟩=some (.int .i64 loops)/\X.cell? ⟨w3.heap.size,0,none⟩=some (.slice (some ⟨go,0,none⟩) C.length co)/\X.cell? ⟨w3.heap.size,1,none⟩=some (.int .i64 loops)/\X.cell? ⟨g10,0,none⟩=some (.int .i64 (pc:Nat))/\X.cell? ⟨g10,1,none⟩=some (.int .i64 (ps:Nat))/\X.cell? ⟨g11,0,none⟩=some (.int .i64 (qc:Nat))/\X.cell? ⟨g11,1,none⟩=some (.int .i64 (qs:Nat))/\X.cell? ⟨g12,0,none⟩=some (.int .i64 (pc:Nat))/\X.cell? ⟨g12,1,none⟩=some (.int .i64 (p2:Nat))/\X.cell? ⟨g13,0,none⟩=some (.int .i64 (qc:Nat))/\X.cell? ⟨g13,1,none⟩=some (.int .i64 (q2:Nat))) W):=fun W hW=>by
     have hXW:=HXY.out.trans hW
     have hVW:=HVW.out W hXW
     have n0:=HC6.out.l0
     have n1:=HC6.out.l1
     have n2:=HC9.out.l0
     have n3:=HC9.out.l1
     have n4:=HC6.out.bel.size
     have n5:=HZY.out.size
     have k0:=(hVW.block w.heap.size lw).trans HB0.out
     have k9:=(hXW.block w3.heap.size (by omega) (fun e=>by have:=Option.some.inj e;omega)).trans HKX.out
     have k1:=(hW.block g10 (Array.getElem?_eq_some_iff.1 (HC6.out.on HC9.out.bel).b0).1 (fun e=>by have:=Option.some.inj e;omega)).trans (HC6.out.on HC9.out.bel).b0
     have k2:=(hW.block g11 (Array.getElem?_eq_some_iff.1 (HC6.out.on HC9.out.bel).b1).1 (fun e=>by have:=Option.some.inj e;omega)).trans (HC6.out.on HC9.out.bel).b1
     have k3:=(hW.block g12 (Array.getElem?_eq_some_iff.1 HC9.out.b0).1 (fun e=>by have:=Option.some.inj e;omega)).trans HC9.out.b0
     have k4:=(hW.block g13 (Array.getElem?_eq_some_iff.1 HC9.out.b1).1 (fun e=>by have:=Option.some.inj e;omega)).trans HC9.out.b1
     exact⟨block_cell k0 rfl,block_cell k0 rfl,block_cell k9 rfl,block_cell k9 rfl,block_cell k1 rfl,block_cell k1 rfl,block_cell k2 rfl,block_cell k2 rfl,block_cell k3 rfl,block_cell k3 rfl,block_cell k4 rfl,block_cell k4 rfl⟩
    have HCY:Hid (∀ W,Y.grownBy W (some go)->b<W.heap.size/\CrossAt W b off C):=fun W hW=>HCZ.out W (HVW.out W (HXY.out.trans hW))
    have HDY:Hid (Below Y.heap.size Y Y.drew):=(Below.refl _ _).drew
    have HGD:Hid (Y.grownBy Y.drew (some go)):=grown_below HDY.out _
    have HOD:=hidB (own_any HOY.out (grown_below HDY.out none))
    go_upto_region 23 with(fail)
    refine rhd HS23 HGD.out (fun hHeld=>?_)
    refine tk 0 (h:=?_)
    refine tk 1 (h:=?_)
    refine tk 2 (h:=?_)
    refine tk 3 (h:=?_)
    try simp only[Act.put]
    refine rd1 4 (fun K hK=>?_)
    go_simp
    go_wp2_with (go_at_call 60;refine(HAI.out _ (HCY.out _ HGD.out).1 (HCY.out _ HGD.out).2).mono ?_;rintro e9 wA ⟨rfl,hbA⟩)
    have HGA:=hidB (HGD.out.trans (grown_below hbA _))
    have HOA:=hid_of (own_any HOD.out (grown_below hbA none))
    clear hbA
    refine hK.out _ _ (HS23.out _ HGA.out) (fun hHeld=>?_)
    clear hK K
    try simp only[Act.put]
    refine rd1 5 (fun K hK=>?_)
    go_simp
    go_wp2_with (go_at_call 64;refine(HST.out D qc qs ai _ HDL.out hqs4 hqcl HOA.out).mono ?_;rintro e9 wB ⟨rfl,hoB,hgB⟩)
    have HGB:=hidB (HGA.out.trans hgB)
    have HOB:=hid_of hoB
    clear hoB hgB
    refine hK.out _ _ (HS23.out _ HGB.out) (fun hHeld=>?_)
    clear hK K
    try simp only[Act.put]
    refine wpAnyH_done (by kernel_rfl) ?_ _
    clear hHeld
    have HBL:Hid (∀ W,Y.grownBy W (some go)->w3.heap.size<W.heap.size/\g10<W.heap.size/\g12<W.heap.size/\g13<W.heap.size):=fun W hW=>by
     have h1:=hW.size
     have h2:=HZY.out.size
     have h3:=(Array.getElem?_eq_some_iff.1 (HC6.out.on HC9.out.bel).b0).1
     have h4:=(Array.getElem?_eq_some_iff.1 HC9.out.b0).1
     have h5:=(Array.getElem?_eq_some_iff.1 HC9.out.b1).1
     omega
    obtain⟨x0,x1,o0,o1,p0,p1,q0,q1,i0,i1,j0,j1⟩:=HS23.out wB HGB.out
    have lo:w3.heap.size<wB.heap.size:=(HBL.out wB HGB.out).1
    have lp:g10<wB.heap.size:=(HBL.out wB HGB.out).2.1
    have lq:g12<wB.heap.size:=(HBL.out wB HGB.out).2.2.1
    have lr:g13<wB.heap.size:=(HBL.out wB HGB.out).2.2.2
    go_upto_region 25 with (go_at_call 64; refine (HST.out _ qc q2 (x : Int) _ (by rw [setL_len]; exact HDL.out) hq24 hqcl HOB.out).mono ?_; rintro e9 wC ⟨rfl, hoC, hgC⟩
                            have HGC:=hidB (HGB.out.trans hgC)
                            have HOC:=hid_of hoC
                            clear hoC hgC x0 x1 o0 o1 p0 p1 q0 q1 i0 i1 j0 j1 lo lp lq lr)
    obtain⟨x0,x1,o0,o1,p0,p1,q0,q1,i0,i1,j0,j1⟩:=HS23.out wC HGC.out
    have lo:w3.heap.size<wC.heap.size:=(HBL.out wC HGC.out).1
    have lp:g10<wC.heap.size:=(HBL.out wC HGC.out).2.1
    have lq:g12<wC.heap.size:=(HBL.out wC HGC.out).2.2.1
    have lr:g13<wC.heap.size:=(HBL.out wC HGC.out).2.2.2
    go_upto_region 26 with (go_at_call 64; refine (HST.out _ pc p2 (x : Int) _ (by rw [setL_len, setL_len]; exact HDL.out) hp24 hpcl HOC.out).mono ?_; rintro e9 wD ⟨rfl, hoD, hgD⟩
                            have HGE:=hidB (HGC.out.trans hgD)
                            have HOE:=hid_of hoD
                            clear hoD hgD x0 x1 o0 o1 p0 p1 q0 q1 i0 i1 j0 j1 lo lp lq lr)
    have HDD:Hid (Below wD.heap.size wD wD.drew):=(Below.refl _ _).drew
    have HGF:=hidB (HGE.out.trans (grown_below HDD.out _))
    have HOF:=hid_of (own_any HOE.out (grown_below HDD.out none))
    refine rhd HS23 HGF.out (fun hHeld=>?_)
    refine tk 0 (h:=?_)
    refine tk 1 (h:=?_)
    refine tk 2 (h:=?_)
    refine tk 3 (h:=?_)
    try simp only[Act.put]
    refine rd1 4 (fun K hK=>?_)
    go_simp
    go_wp2_with (go_at_call 60;refine(HAO.out _ (HCY.out _ HGF.out).1 (HCY.out _ HGF.out).2).mono ?_;rintro e9 wE ⟨rfl,hbE⟩)
    have HGG:=hidB (HGF.out.trans (grown_below hbE _))
    have HOG:=hid_of (own_any HOF.out (grown_below hbE none))
    clear hbE
    refine hK.out _ _ (HS23.out _ HGG.out) (fun hHeld=>?_)
    clear hK K
    try simp only[Act.put]
    refine rd1 5 (fun K hK=>?_)
    go_simp
    go_wp2_with (go_at_call 64;refine(HST.out _ pc ps ao _ (by rw[setL_len,setL_len,setL_len];exact HDL.out) hps4 hpcl HOG.out).mono ?_;rintro e9 wF ⟨rfl,hoF,hgF⟩)
    have HGH:=hidB (HGG.out.trans hgF)
    have HOH:=hid_of hoF
    clear hoF hgF
    refine hK.out _ _ (HS23.out _ HGH.out) (fun hHeld=>?_)
    clear hK K
    try simp only[Act.put]
    refine wpAnyH_done (by kernel_rfl) ?_ _
    clear hHeld
    have HXF:=hidB (HXY.out.trans HGH.out)
    have HOI:=hidB (show wF.ownsRow V.heap.size 71 5 (.slice (some ⟨go,0,none⟩) C.length co) C.length (crossCells (slLs C l (k+1))) by rw[HFX.out];exact HOH.out)
    clear HS23 HCY HAI HAO HST HOA HOB HOC HOE HOF HOG HOH HFX
    go_wp2
    go_roundw
    case rel=>exact⟨k+1,by omega,by go_num,HOI.out,HXF.out⟩
    case measure=>simp only[intOf];omega
  · obtain rfl:k=3:=by omega
    have HVZ:=hid_of (HVW.out Z HGZ.out)
    have HWZ:=hid_of (HWW.out Z HGZ.out)
    have q2:=(HVZ.out.block _ lz).trans HB2.out
    have q9:=(HGZ.out.block w3.heap.size (by omega) (fun e=>by have:=Option.some.inj e;omega)).trans HKX.out
    have g0:=block_cell (i:=0) q9 rfl
    have g1:=block_cell (i:=1) q9 rfl
    have r0:=block_cell (i:=0) q2 rfl
    have r1:=block_cell (i:=1) q2 rfl
    have f2:=block_frozen (i:=0) q2
    have f3:=block_frozen (i:=1) q2
    have l3:w3.heap.size<Z.heap.size:=by omega
    have l4:w.heap.size+1<Z.heap.size:=by omega
    have HQ2:=hid_of q2
    clear q2 q9
    go_wp2
    have hgB:=st2_grown Z (w.heap.size+1) 0 (.slice (some ⟨go,0,none⟩) C.length co) (.int .i64 loops)
    refine bodyPost_ret (res_slide (set_block (set_block HQ2.out)) rfl rfl) rfl (HPP.out _ _ _ ?_ ?_)
    · refine own_low (HOZ.out.kept hgB ?_) HBW.out.size
      exact Or.inr (fun e=>by have h:go=w.heap.size+1:=Option.some.inj e;omega)
    · exact HWZ.out.grown hgB HWZ.out.size (fun q hq=>by have:=Option.some.inj hq;omega)
end Go.Proofs.Ytagaajlbkfkaiaa
