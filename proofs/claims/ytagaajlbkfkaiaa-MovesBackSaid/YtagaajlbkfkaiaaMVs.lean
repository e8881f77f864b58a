/- Moves: the walk of bench.slide from its map on. Made by genmvs.py. -/
import Derived.Test.YtagaajlbkfkaiaaTkhP
import Derived.Test.YtagaajlbkfkaiaaMW1P
import Derived.Test.YtagaajlbkfkaiaaMV9b
import Derived.Test.YtagaajlbkfkaiaaMVe
import Derived.Test.YtagaajlbkfkaiaaME1P
namespace Go.Proofs.Ytagaajlbkfkaiaa
open Go.RowKit Go.Maps
set_option maxHeartbeats 16000000
set_option maxRecDepth 100000
def slFs (C:List Cr) (l:List Nat):Nat->Nat->Option Int
 |0=>fun _=>none
 |i+1=>slF C (slFs C l i) (dA (l.getD i 0))
theorem spV_at (i k:Nat) (h:k<4):spV (4*i+4+k)=.agg #[.int .i64 (i:Nat),.int .i64 (k:Nat)]:=by
 unfold spV
 rw[show(4*i+4+k) / 4=i+1 by omega,show(4*i+4+k)%4=k by omega]
 rw[show(((i+1:Nat):Int)-1)=(i:Int) by omega]
structure SsAt (Z W:World) (p1 p2 q1 q2:Nat) (g h:Nat):Prop where
 b0:W.heap[g]?=some (.cells #[.int .i64 (p1:Nat),.int .i64 (p2:Nat)] 120 (0,0))
 b1:W.heap[h]?=some (.cells #[.int .i64 (q1:Nat),.int .i64 (q2:Nat)] 120 (0,0))
 ne:g≠h
 l0:Z.heap.size<=g
 l1:Z.heap.size<=h
 bel:Below Z.heap.size Z W
theorem SsAt.on {Z W W':World} {p1 p2 q1 q2 g h:Nat} (a:SsAt Z W p1 p2 q1 q2 g h) (hb:Below W.heap.size W W'):SsAt Z W' p1 p2 q1 q2 g h:=
 have hl {k:Nat} {o:Obj} (e:W.heap[k]?=some o):W'.heap[k]?=some o:=(hb.block _ (Array.getElem?_eq_some_iff.1 e).1).trans e
 ⟨hl a.b0,hl a.b1,a.ne,a.l0,a.l1,a.bel.trans (hb.mono a.bel.size)⟩
theorem SsAt.set0 {Z W:World} {p1 p2 q1 q2 g h:Nat} (a:SsAt Z W p1 p2 q1 q2 g h) (x y:Nat):SsAt Z ((W.setCell ⟨g,0,none⟩ (.int .i64 (x:Nat))).setCell ⟨g,1,none⟩ (.int .i64 (y:Nat))) x y q1 q2 g h:=
 have hg:=QZ5 W g 0 (.int .i64 (x:Nat)) (.int .i64 (y:Nat))
 ⟨st2b a.b0,(hg.block h (Array.getElem?_eq_some_iff.1 a.b1).1 (fun e=>a.ne (Option.some.inj e).symm)).trans a.b1,a.ne,a.l0,a.l1,a.bel.grown hg a.bel.size (fun q hq=>by have:=Option.some.inj hq;have:=a.l0;omega)⟩
theorem SsAt.set1 {Z W:World} {p1 p2 q1 q2 g h:Nat} (a:SsAt Z W p1 p2 q1 q2 g h) (x y:Nat):SsAt Z ((W.setCell ⟨h,0,none⟩ (.int .i64 (x:Nat))).setCell ⟨h,1,none⟩ (.int .i64 (y:Nat))) p1 p2 x y g h:=
 have hg:=QZ5 W h 0 (.int .i64 (x:Nat)) (.int .i64 (y:Nat))
 ⟨(hg.block g (Array.getElem?_eq_some_iff.1 a.b0).1 (fun e=>a.ne (Option.some.inj e))).trans a.b0,st2b a.b1,a.ne,a.l0,a.l1,a.bel.grown hg a.bel.size (fun q hq=>by have:=Option.some.inj hq;have:=a.l1;omega)⟩
theorem SsAt.of {Z W:World} {g h:Nat} (a:W.heap[g]?=some (.cells #[.int .i64 0,.int .i64 0] 120 (0,0))/\W.heap[h]?=some (.cells #[.int .i64 0,.int .i64 0] 120 (0,0))/\g≠h/\Z.heap.size<=g/\Z.heap.size<=h/\Below Z.heap.size Z W):SsAt Z W 0 0 0 0 g h:=⟨a.1,a.2.1,a.2.2.1,a.2.2.2.1,a.2.2.2.2.1,a.2.2.2.2.2⟩
theorem arc_small {C:List Cr} {loops:Int} (hm:mayD C loops=true) (k s:Nat) (hk:k<C.length) (hs:s<4) : -1000<=(C.getD k Cr.none).arc s/\(C.getD k Cr.none).arc s<=1000:=by
 obtain⟨h1,h2,-⟩:=en_one hm k s hk hs
 have:=QK4 hm
 omega
theorem slide5 (b off cap:Nat) (C:List Cr) (loops:Int) (gF cF gT cT:Nat) (mv:Value) (g c:Nat) (l:List Nat) (w V:World) (P:Ending->World->Prop) (hm:mayD C loops=true) (hd:Dr V (some ⟨b,off,none⟩) cap C gF gT) (hbw:b<V.heap.size) (hCr:CrossAt V b off C) (hr:RingAt V g C l) (h3:l.length=3) (hb0:V.heap[w.heap.size]?=some (.cells #[.slice (some ⟨b,off,none⟩) C.length cap,.int .i64 loops,.slice (some ⟨gF,0,none⟩) (2*C.length+1) cF,.slice (some ⟨gT,0,none⟩) (2*C.length+1) cT] 63 (0,0))) (hb2:V.heap[w.heap.size+1+1]?=some (.cells #[.slice none 0 0,.int .i64 0] 24 (0,0))) (hbel:Below w.heap.size w V)
    (hP:∀ a' c' w',w'.ownsRow w.heap.size 71 5 (.slice a' C.length c') C.length (QQ4 (relN (slFs C l 3) C C.length))->Below w.heap.size w w'->P (.returned (.agg #[.slice a' C.length c',.int .i64 loops])) w') (z5 z7 z8 z9 z10 z11 z12 z13 z14 z15 z16 z17 z18 z19 z20 z21 z22 z23 z24 z25 z26 z27 z28 z29 z30 z31 z32 z33 z34 z35 z36 z37 z38 z39 z40 z41 z42 z43 z44 z45 z46 z47 z48 z49 z50 z51 z52 z53 z54 z55 z56 z57 z58 z59 z60 z61 z62 z63 z64 z65 z66 z67 z68 z69 z70 z71 z72 z73 z74 z75 z76 z77 z78 z79 z80 z81 z82 z83 z84 z85 z86 z87 z88 z89 z90 z91 z92 z93 z94 z95 z96 z97 z98 z99:Value):
    Code.wp Try.prog (codeAt 5 (Try.f92.body.getD .skip)) (bodyPost Try.prog Try.f92 P) { tmps := #[.agg #[.slice (some ⟨b, off, none⟩) C.length cap, .int .i64 loops, .slice (some ⟨gF, 0, none⟩) (2 * C.length + 1) cF, .slice (some ⟨gT, 0, none⟩) (2 * C.length + 1) cT], mv, .pointer (some ⟨w.heap.size, 0, none⟩), .pointer (some ⟨w.heap.size + 1, 0, none⟩), .pointer (some ⟨w.heap.size + 1 + 1, 0, none⟩), z5, .slice (some ⟨g, 0, none⟩) 3 c, z7, z8, z9, z10, z11, z12, z13, z14, z15, z16, z17, z18, z19, z20, z21, z22, z23, z24, z25, z26, z27, z28, z29, z30, z31, z32, z33, z34, z35, z36, z37, z38, z39, z40, z41, z42, z43, z44, z45, z46, z47, z48, z49, z50, z51, z52, z53, z54, z55, z56, z57, z58, z59, z60, z61, z62, z63, z64, z65, z66, z67, z68, z69, z70, z71, z72, z73, z74, z75, z76, z77, z78, z79, z80, z81, z82, z83, z84, z85, z86, z87, z88, z89, z90, z91, z92, z93, z94, z95, z96, z97, z98, z99], defers := [] } V := by
 have HD:=QQ1 hd
 have HM:=QQ1 hm
 have HC:=QQ1 hCr
 have HRI:=QQ1 hr
 have HB0:=QQ1 hb0
 have HB2:=QQ1 hb2
 have HBW:=QQ1 hbel
 have HPP:=QQ1 hP
 have hl16:=QK4 hm
 have lw:w.heap.size<V.heap.size:=(Array.getElem?_eq_some_iff.1 hb0).1
 have lz:w.heap.size+1+1<V.heap.size:=(Array.getElem?_eq_some_iff.1 hb2).1
 have lF:=hd.ltF
 have lT:=hd.ltT
 have hg0:=hr.1
 have HRA:=QQ1 (fun(w:World) (gF cF gT cT:Nat) (b' m:Nat) (F:Nat->Option Int)=>relaid_any (some ⟨b,off,none⟩) cap C loops gF cF gT cT b' m F w hm)
 unfold drV at HRA
 have HLV:Hid (∀ (i k:Nat) (W:World),i<C.length->k<4->b<W.heap.size->CrossAt W b off C->Calls Try.prog 117 #[.agg #[.slice (some ⟨b,off,none⟩) C.length cap,.int .i64 loops,.slice (some ⟨gF,0,none⟩) (2*C.length+1) cF,.slice (some ⟨gT,0,none⟩) (2*C.length+1) cT],.agg #[.int .i64 i,.int .i64 k]] W fun e w'=>e=.returned (.agg #[.int .i64 ((C.getD i Cr.none).arc k),.bool ((C.getD i Cr.none).comes k)])/\Below W.heap.size W w'):=fun i k W h1 h2 h3 h4=>QU1 b off cap C loops _ _ i k W h1 h2 h3 h4
 have hmk:∀ W:World,(Instr.makeMap 151 none).run Try.prog W=.ok (.map (some W.heap.size)) (W.alloc (.map #[] 0)):=fun _=>rfl
 have HL3:=QQ1 h3
 clear hm hd hCr hr hb0 hb2 hbel hP h3
 let Q9:Exit->Act->World->Prop:=bodyPost Try.prog Try.f92 P
 change Code.wp Try.prog (codeAt 5 (Try.f92.body.getD .skip)) Q9 { tmps:=#[.agg #[.slice (some ⟨b,off,none⟩) C.length cap,.int .i64 loops,.slice (some ⟨gF,0,none⟩) (2*C.length+1) cF,.slice (some ⟨gT,0,none⟩) (2*C.length+1) cT],mv,.pointer (some ⟨w.heap.size,0,none⟩),.pointer (some ⟨w.heap.size+1,0,none⟩),.pointer (some ⟨w.heap.size+1+1,0,none⟩),z5,.slice (some ⟨g,0,none⟩) 3 c,z7,z8,z9,z10,z11,z12,z13,z14,z15,z16,z17,z18,z19,z20,z21,z22,z23,z24,z25,z26,z27,z28,z29,z30,z31,z32,z33,z34,z35,z36,z37,z38,z39,z40,z41,z42,z43,z44,z45,z46,z47,z48,z49,z50,z51,z52,z53,z54,z55,z56,z57,z58,z59,z60,z61,z62,z63,z64,z65,z66,z67,z68,z69,z70,z71,z72,z73,z74,z75,z76,z77,z78,z79,z80,z81,z82,z83,z84,z85,z86,z87,z88,z89,z90,z91,z92,z93,z94,z95,z96,z97,z98,z99],defers:=[] } V
 simp only[codeAt,Try.f92,Option.getD_some,reduceIte,Nat.reduceEqDiff]
 have HM0:=hidB (MapS.made V)
 have HBM : Hid (Below V.heap.size V (V.alloc (.map #[] 0))) := (Below.refl _ _).alloc (Nat.le_refl _) _
 go_wp2
 go_loopw [45] (fun v45 wr=>∃ i m:Nat,i<=3/\m<=4*i/\v45=.int .i64 (i:Nat)/\Hid (MapS wr V.heap.size m (slFs C l i))/\Hid (Below V.heap.size V wr)) (fun v45 _=>3-(intOf v45).toNat)
 case atStart=>exact⟨0,0,by omega,by omega,rfl,HM0.out,HBM.out⟩
 case round=>
  rename World=>Z
  obtain⟨i,m,hi3,hmm,rfl,hmp,hbz⟩:=hrel
  have HMP:=QQ1 hmp.out
  have HVZ:=QQ1 hbz.out
  have hsZ:=hbz.out.size
  clear hmp hbz
  by_cases hil:i<3
  · obtain⟨d,hd⟩:∃ d,l.getD i 0=d:=⟨_,rfl⟩
    have hring:=HRI.out.2.2 i (by rw[HL3.out];exact hil)
    rw[hd]at hring
    obtain⟨⟨hd1,hd2⟩,hc0,hc1⟩:=hring
    obtain⟨bk,hbk⟩:∃ bk,dB d=bk:=⟨_,rfl⟩
    obtain⟨x,hx⟩:∃ x,dA d=x:=⟨_,rfl⟩
    have hxr:=dA_le hd1 hd2
    rw[hx]at hxr hc0
    rw[hbk]at hc1
    obtain⟨hx1,hx2⟩:=hxr
    have hp:=QJ9 HM.out x false hx1 hx2
    have hq:=QJ9 HM.out x true hx1 hx2
    have hend:=(HD.out.on HVZ.out).endAt HM.out x hx1 hx2
    obtain⟨pc,hpc⟩:∃ n,enC C x false=n:=⟨_,rfl⟩
    obtain⟨ps,hps⟩:∃ n,enS C x false=n:=⟨_,rfl⟩
    obtain⟨qc,hqc⟩:∃ n,enC C x true=n:=⟨_,rfl⟩
    obtain⟨qs,hqs⟩:∃ n,enS C x true=n:=⟨_,rfl⟩
    rw[hpc,hps]at hp
    rw[hqc,hqs]at hq
    rw[hqc,hqs,hpc,hps]at hend
    obtain⟨-,hpcl,hps4,-,-⟩:=hp
    obtain⟨-,hqcl,hqs4,-,-⟩:=hq
    obtain⟨t0,t1,t2,t3⟩:=hend
    obtain⟨p2,hp2⟩:∃ n,(ps+2)%4=n:=⟨_,rfl⟩
    obtain⟨q2,hq2⟩:∃ n,(qs+2)%4=n:=⟨_,rfl⟩
    have hp24:p2<4:=by omega
    have hq24:q2<4:=by omega
    have hai:=arc_small HM.out pc p2 hpcl hp24
    have hao:=arc_small HM.out qc q2 hqcl hq24
    have hLI:=HLV.out pc p2
    have hLO:=HLV.out qc q2
    have HFX:Hid (slFs C l (i+1)=putF (putF (putF (putF (slFs C l i) (4*pc+4+p2) (x:Int)) (4*pc+4+ps) ((C.getD qc Cr.none).arc q2)) (4*qc+4+qs) ((C.getD pc Cr.none).arc p2)) (4*qc+4+q2) (x:Int)):=(by
     show slF C (slFs C l i) (dA (l.getD i 0))=_
     rw[hd,hx]
     unfold slF
     rw[hpc,hps,hqc,hqs,hp2,hq2]:slFs C l (i+1)=_)
    obtain⟨ai,hAI⟩:∃ y,(C.getD pc Cr.none).arc p2=y:=⟨_,rfl⟩
    obtain⟨ao,hAO⟩:∃ y,(C.getD qc Cr.none).arc q2=y:=⟨_,rfl⟩
    obtain⟨bi,hBI⟩:∃ y,(C.getD pc Cr.none).comes p2=y:=⟨_,rfl⟩
    obtain⟨bo,hBO⟩:∃ y,(C.getD qc Cr.none).comes q2=y:=⟨_,rfl⟩
    rw[hAI]at hai hLI HFX
    rw[hAO]at hao hLO HFX
    rw[hBI]at hLI
    rw[hBO]at hLO
    have HLI:=QQ1 hLI
    have HLO:=QQ1 hLO
    have HAP:Hid (∀ W:World,Calls Try.prog 116 #[.agg #[.int .i64 (pc:Nat),.int .i64 (ps:Nat)]] W fun e w'=>e=.returned (.agg #[.int .i64 (pc:Nat),.int .i64 (p2:Nat)])/\Below W.heap.size W w'):=fun W=>by rw[<-hp2];exact across_any (pc:Int) ps W hps4
    have HAQ:Hid (∀ W:World,Calls Try.prog 116 #[.agg #[.int .i64 (qc:Nat),.int .i64 (qs:Nat)]] W fun e w'=>e=.returned (.agg #[.int .i64 (qc:Nat),.int .i64 (q2:Nat)])/\Below W.heap.size W w'):=fun W=>by rw[<-hq2];exact across_any (qc:Int) qs W hqs4
    clear hLI hLO hd hx hbk hpc hps hqc hqs hp2 hq2 hAI hAO hBI hBO
    have e0:Z.cell? ⟨g,i*2,none⟩=some (.int .i64 (x:Nat)):=bcell HVZ.out hg0 hc0
    have e1:Z.cell? ⟨g,i*2+1,none⟩=some (.bool bk):=bcell HVZ.out hg0 hc1
    clear hc0 hc1
    have hi0:(0:Int)<=(i:Int):=by omega
    have hi1:(i:Int)<3:=by omega
    have lgZ:g<Z.heap.size:=by omega
    obtain⟨Z1,hZ1⟩:∃ Z1,Z.alloc (.cells #[.int .i64 (x:Nat),.bool bk] 26)=Z1:=⟨_,rfl⟩
    have HZ1:=QQ1 hZ1
    have HBZ1:=hidB (show Below Z.heap.size Z Z1 by rw[<-hZ1];exact(Below.refl _ _).alloc (Nat.le_refl _) _)
    have HKZ1:Hid (Z1.heap[Z.heap.size]?=some (.cells #[.int .i64 (x:Nat),.bool bk] 26 (0,0))):=(by rw[<-hZ1];exact alloc_at rfl:Z1.heap[Z.heap.size]?=_)
    have lZ1:Z.heap.size<Z1.heap.size:=by rw[<-hZ1];simp
    clear hZ1
    go_upto_region 9 with(fail)
    rw[HZ1.out]
    clear e0 e1
    have HV1:=hidB (HVZ.out.trans (HBZ1.out.mono hsZ))
    have HS9:Hid (∀ X,Below Z1.heap.size Z1 X->(fun X:World=>X.cell? ⟨w.heap.size,2,none⟩=some (.slice (some ⟨gF,0,none⟩) (2*C.length+1) cF)/\X.cell? ⟨w.heap.size,3,none⟩=some (.slice (some ⟨gT,0,none⟩) (2*C.length+1) cT)/\X.cell? ⟨Z.heap.size,0,none⟩=some (.int .i64 (x:Nat))/\X.cell? ⟨gF,x*2,none⟩=some (.int .i64 (pc:Nat))/\X.cell? ⟨gF,x*2+1,none⟩=some (.int .i64 (ps:Nat))/\X.cell? ⟨gT,x*2,none⟩=some (.int .i64 (qc:Nat))/\X.cell? ⟨gT,x*2+1,none⟩=some (.int .i64 (qs:Nat))) X):=fun X hX=>by
     have k0:=((HV1.out.trans (hX.mono HV1.out.size)).block _ lw).trans HB0.out
     have k1:=(hX.block _ lZ1).trans HKZ1.out
     have hh:=HBZ1.out.trans (hX.mono HBZ1.out.size)
     exact⟨QQ0 k0 rfl,QQ0 k0 rfl,QQ0 k1 rfl,bcell hh (by omega) t2,bcell hh (by omega) t3,bcell hh (by omega) t0,bcell hh (by omega) t1⟩
    have HDZ : Hid (Below Z1.heap.size Z1 Z1.drew) := (Below.refl _ _).drew
    have hxi:((x:Nat):Int)<2*(C.length:Int)+1:=by omega
    have hx0:(0:Int)<=((x:Nat):Int):=by omega
    apply cut_one
    case h=>
     intro key
     refine rhd HS9 HDZ.out (fun hHeld=>?_)
     refine tk 0 (h:=?_)
     refine tk 1 (h:=?_)
     refine tk 2 (h:=?_)
     refine tk 3 (h:=?_)
     refine tk 4 (h:=?_)
     refine tk 5 (h:=?_)
     refine tk 6 (h:=?_)
     refine tk 7 (h:=?_)
     refine tk 8 (h:=?_)
     refine tk 9 (h:=?_)
     refine tk 10 (h:=?_)
     refine tk 11 (h:=?_)
     refine tk 12 (h:=?_)
     refine tk 13 (h:=?_)
     try simp only[Act.put]
     have HN:=hidN (Nd.st (z:=(.cells #[.int .i64 0,.int .i64 0] 120)) HDZ.out)
     iterate 2
      all_goals
       first
       |(have _q:Nd _ _ _ 0 none none:=HN.out;refine rm2 14 15 (fun K hK=>?_) (fun K hK=>?_))
       |(have _q:Nd _ _ _ 0 none (some _):=HN.out;refine rm1 14 (fun K hK=>?_))
       |(have _q:Nd _ _ _ 0 (some _) none:=HN.out;refine rm1 15 (fun K hK=>?_))
      all_goals
       first
       |(refine mk_ 14 ?_;have HN:=hidN HN.out.al0;go_simp;refine hK.out _ _ (HS9.out _ HN.out.2.1) (fun hHeld=>?_))
       |(refine mk_ 15 ?_;have HN:=hidN HN.out.al1;go_simp;refine hK.out _ _ (HS9.out _ HN.out.2.1) (fun hHeld=>?_))
       clear hK K
       try simp only[Act.put]
     all_goals refine wpAnyH_like (l':=#[true,true,true,true,true,true,true,true,true,true,true,true,true,true,true,true,false,false]) (by kernel_rfl) ?_
     · have HFN:Hid (SsAt Z1 (((Z1.alloc (.cells #[.int .i64 0,.int .i64 0] 120)).alloc (.cells #[.int .i64 0,.int .i64 0] 120)).drew) 0 0 0 0 (Z1.heap.size) (Z1.heap.size+1)):=SsAt.of (Nd.fin HN.out (by first|rfl|simp) (by simp) (by simp))
       clear hHeld
       revert HFN
       generalize ((Z1.alloc (.cells #[.int .i64 0,.int .i64 0] 120)).alloc (.cells #[.int .i64 0,.int .i64 0] 120)).drew=Wz
       generalize Z1.heap.size+1=gB
       generalize Z1.heap.size=gA
       revert Wz gB gA
       exact key.out
     all_goals(refine key.out _ _ _ ?_;exact SsAt.of (Nd.fin HN.out (by first|rfl|simp) (by simp) (by simp)))
    intro W4 g11 g10 HC4
    have hHeld:=HS9.out _ HC4.out.bel
    have r0:=QQ0 (i:=0) HC4.out.b0 rfl
    have f0:=QQ2 (i:=0) HC4.out.b0
    have r1:=QQ0 (i:=1) HC4.out.b0 rfl
    have f1:=QQ2 (i:=1) HC4.out.b0
    have lg:g10<W4.heap.size:=(Array.getElem?_eq_some_iff.1 HC4.out.b0).1
    obtain⟨Wa,hWa⟩:∃ Wa,(W4.setCell ⟨g10,0,none⟩ (.int .i64 (pc:Nat))).setCell ⟨g10,1,none⟩ (.int .i64 (ps:Nat))=Wa:=⟨_,rfl⟩
    have HWa:=QQ1 hWa
    have HC5:=QQ1 (HC4.out.set0 pc ps)
    rw[hWa]at HC5
    clear hWa
    refine rd1 16 (fun K hK=>?_)
    go_simp
    rw[HWa.out]
    refine hK.out _ _ (HS9.out _ HC5.out.bel) (fun hHeld=>?_)
    clear hK K
    clear r0 r1 f0 f1 lg
    try simp only[Act.put]
    have r0:=QQ0 (i:=0) HC5.out.b1 rfl
    have f0:=QQ2 (i:=0) HC5.out.b1
    have r1:=QQ0 (i:=1) HC5.out.b1 rfl
    have f1:=QQ2 (i:=1) HC5.out.b1
    have lg:g11<Wa.heap.size:=(Array.getElem?_eq_some_iff.1 HC5.out.b1).1
    obtain⟨Wb,hWb⟩:∃ Wb,(Wa.setCell ⟨g11,0,none⟩ (.int .i64 (qc:Nat))).setCell ⟨g11,1,none⟩ (.int .i64 (qs:Nat))=Wb:=⟨_,rfl⟩
    have HWb:=QQ1 hWb
    have HC6:=QQ1 (HC5.out.set1 qc qs)
    rw[hWb]at HC6
    clear hWb
    refine rd1 17 (fun K hK=>?_)
    go_simp
    rw[HWb.out]
    refine hK.out _ _ (HS9.out _ HC6.out.bel) (fun hHeld=>?_)
    clear hK K
    clear r0 r1 f0 f1 lg
    try simp only[Act.put]
    refine wpAnyH_done (by kernel_rfl) ?_ _
    clear hHeld HC4 HC5 HS9 HDZ t0 t1 t2 t3 HWa HWb
    have HS10:Hid (∀ X,Below Wb.heap.size Wb X->(fun X:World=>X.cell? ⟨g10,0,none⟩=some (.int .i64 (pc:Nat))/\X.cell? ⟨g10,1,none⟩=some (.int .i64 (ps:Nat))/\X.cell? ⟨g11,0,none⟩=some (.int .i64 (qc:Nat))/\X.cell? ⟨g11,1,none⟩=some (.int .i64 (qs:Nat))) X):=fun X hX=>by
     have p:=HC6.out.on hX
     exact⟨QQ0 p.b0 rfl,QQ0 p.b0 rfl,QQ0 p.b1 rfl,QQ0 p.b1 rfl⟩
    have HDB : Hid (Below Wb.heap.size Wb Wb.drew) := (Below.refl _ _).drew
    go_upto_region 10 with(fail)
    apply cut_one
    case h=>
     intro key
     refine rhd HS10 HDB.out (fun hHeld=>?_)
     refine tk 0 (h:=?_)
     refine tk 2 (h:=?_)
     try simp only[Act.put]
     have HN:=hidN (Nd.st (z:=(.cells #[.int .i64 0,.int .i64 0] 120)) HDB.out)
     iterate 4
      all_goals
       first
       |(have _q:Nd _ _ _ 0 none none:=HN.out;refine rm3 1 4 5 (fun K hK=>?_) (fun K hK=>?_) (fun K hK=>?_))
       |(have _q:Nd _ _ _ 0 none (some _):=HN.out;refine rm2 1 4 (fun K hK=>?_) (fun K hK=>?_))
       |(have _q:Nd _ _ _ 0 (some _) none:=HN.out;refine rm2 1 5 (fun K hK=>?_) (fun K hK=>?_))
       |(have _q:Nd _ _ _ 0 (some _) (some _):=HN.out;refine rm1 1 (fun K hK=>?_))
       |(have _q:Nd _ _ _ 1 none none:=HN.out;refine rm3 3 4 5 (fun K hK=>?_) (fun K hK=>?_) (fun K hK=>?_))
       |(have _q:Nd _ _ _ 1 none (some _):=HN.out;refine rm2 3 4 (fun K hK=>?_) (fun K hK=>?_))
       |(have _q:Nd _ _ _ 1 (some _) none:=HN.out;refine rm2 3 5 (fun K hK=>?_) (fun K hK=>?_))
       |(have _q:Nd _ _ _ 1 (some _) (some _):=HN.out;refine rm1 3 (fun K hK=>?_))
       |(have _q:Nd _ _ _ 2 none none:=HN.out;refine rm2 4 5 (fun K hK=>?_) (fun K hK=>?_))
       |(have _q:Nd _ _ _ 2 none (some _):=HN.out;refine rm1 4 (fun K hK=>?_))
       |(have _q:Nd _ _ _ 2 (some _) none:=HN.out;refine rm1 5 (fun K hK=>?_))
      all_goals
       first
       |(refine mk_ 1 ?_;go_simp;go_wp2_with (go_at_call 116;refine(HAP.out _).mono ?_;rintro e9 wA ⟨rfl,hbA⟩);have HN:=hidN (HN.out.on hbA);clear hbA;refine hK.out _ _ (HS10.out _ HN.out.2.1) (fun hHeld=>?_))
       |(refine mk_ 3 ?_;go_simp;go_wp2_with (go_at_call 116;refine(HAQ.out _).mono ?_;rintro e9 wA ⟨rfl,hbA⟩);have HN:=hidN (HN.out.on hbA);clear hbA;refine hK.out _ _ (HS10.out _ HN.out.2.1) (fun hHeld=>?_))
       |(refine mk_ 4 ?_;have HN:=hidN HN.out.al0;go_simp;refine hK.out _ _ (HS10.out _ HN.out.2.1) (fun hHeld=>?_))
       |(refine mk_ 5 ?_;have HN:=hidN HN.out.al1;go_simp;refine hK.out _ _ (HS10.out _ HN.out.2.1) (fun hHeld=>?_))
       clear hK K
       try simp only[Act.put]
     all_goals refine wpAnyH_like (l':=#[true,true,true,true,true,true,false,false]) (by kernel_rfl) ?_
     · have HFN:Hid (SsAt Wb ((wA.alloc (.cells #[.int .i64 0,.int .i64 0] 120)).alloc (.cells #[.int .i64 0,.int .i64 0] 120)) 0 0 0 0 (wA.heap.size) (wA.heap.size+1)):=SsAt.of (Nd.fin HN.out (by first|rfl|simp) (by simp) (by simp))
       clear hHeld
       revert HFN
       generalize (wA.alloc (.cells #[.int .i64 0,.int .i64 0] 120)).alloc (.cells #[.int .i64 0,.int .i64 0] 120)=Wz
       generalize wA.heap.size+1=gB
       generalize wA.heap.size=gA
       revert Wz gB gA
       exact key.out
     all_goals(refine key.out _ _ _ ?_;exact SsAt.of (Nd.fin HN.out (by first|rfl|simp) (by simp) (by simp)))
    intro W5 g13 g12 HC7
    have hHeld:=HS10.out _ HC7.out.bel
    have r0:=QQ0 (i:=0) HC7.out.b0 rfl
    have f0:=QQ2 (i:=0) HC7.out.b0
    have r1:=QQ0 (i:=1) HC7.out.b0 rfl
    have f1:=QQ2 (i:=1) HC7.out.b0
    have lg:g12<W5.heap.size:=(Array.getElem?_eq_some_iff.1 HC7.out.b0).1
    obtain⟨Wc,hWc⟩:∃ Wc,(W5.setCell ⟨g12,0,none⟩ (.int .i64 (pc:Nat))).setCell ⟨g12,1,none⟩ (.int .i64 (p2:Nat))=Wc:=⟨_,rfl⟩
    have HWc:=QQ1 hWc
    have HC8:=QQ1 (HC7.out.set0 pc p2)
    rw[hWc]at HC8
    clear hWc
    refine rd1 6 (fun K hK=>?_)
    go_simp
    rw[HWc.out]
    refine hK.out _ _ (HS10.out _ HC8.out.bel) (fun hHeld=>?_)
    clear hK K
    clear r0 r1 f0 f1 lg
    try simp only[Act.put]
    have r0:=QQ0 (i:=0) HC8.out.b1 rfl
    have f0:=QQ2 (i:=0) HC8.out.b1
    have r1:=QQ0 (i:=1) HC8.out.b1 rfl
    have f1:=QQ2 (i:=1) HC8.out.b1
    have lg:g13<Wc.heap.size:=(Array.getElem?_eq_some_iff.1 HC8.out.b1).1
    obtain⟨Y,hY⟩:∃ Y,(Wc.setCell ⟨g13,0,none⟩ (.int .i64 (qc:Nat))).setCell ⟨g13,1,none⟩ (.int .i64 (q2:Nat))=Y:=⟨_,rfl⟩
    have HY:=QQ1 hY
    have HC9:=QQ1 (HC8.out.set1 qc q2)
    rw[hY]at HC9
    clear hY
    refine rd1 7 (fun K hK=>?_)
    go_simp
    rw[HY.out]
    refine hK.out _ _ (HS10.out _ HC9.out.bel) (fun hHeld=>?_)
    clear hK K
    clear r0 r1 f0 f1 lg
    try simp only[Act.put]
    refine wpAnyH_done (by kernel_rfl) ?_ _
    clear hHeld HC7 HC8 HS10 HDB HWc HY HAP HAQ
    have HVY:=hidB (HV1.out.trans ((HC6.out.bel.trans (HC9.out.bel.mono HC6.out.bel.size)).mono HV1.out.size))
    have HZY:=hidB (HBZ1.out.trans ((HC6.out.bel.trans (HC9.out.bel.mono HC6.out.bel.size)).mono HBZ1.out.size))
    have HZ1Y:=hidB (HC6.out.bel.trans (HC9.out.bel.mono HC6.out.bel.size))
    have HMY:=hidB (HMP.out.kept (QQ5 HZY.out none) (by simp))
    have lM:V.heap.size<Z.heap.size:=HMP.out.lt
    have HS11:Hid (∀ X,Y.grownBy X (some V.heap.size)->(fun X:World=>X.cell? ⟨w.heap.size,0,none⟩=some (.slice (some ⟨b,off,none⟩) C.length cap)/\X.cell? ⟨w.heap.size,1,none⟩=some (.int .i64 loops)/\X.cell? ⟨w.heap.size,2,none⟩=some (.slice (some ⟨gF,0,none⟩) (2*C.length+1) cF)/\X.cell? ⟨w.heap.size,3,none⟩=some (.slice (some ⟨gT,0,none⟩) (2*C.length+1) cT)/\X.cell? ⟨g10,0,none⟩=some (.int .i64 (pc:Nat))/\X.cell? ⟨g10,1,none⟩=some (.int .i64 (ps:Nat))/\X.cell? ⟨g11,0,none⟩=some (.int .i64 (qc:Nat))/\X.cell? ⟨g11,1,none⟩=some (.int .i64 (qs:Nat))/\X.cell? ⟨g12,0,none⟩=some (.int .i64 (pc:Nat))/\X.cell? ⟨g12,1,none⟩=some (.int .i64 (p2:Nat))/\X.cell? ⟨g13,0,none⟩=some (.int .i64 (qc:Nat))/\X.cell? ⟨g13,1,none⟩=some (.int .i64 (q2:Nat))/\X.cell? ⟨Z.heap.size,0,none⟩=some (.int .i64 (x:Nat))) X):=fun X hX=>by
     have hsY:=HVY.out.size
     have hsY1:=HZ1Y.out.size
     have q0:=(Array.getElem?_eq_some_iff.1 (HC6.out.on HC9.out.bel).b0).1
     have q1:=(Array.getElem?_eq_some_iff.1 (HC6.out.on HC9.out.bel).b1).1
     have q2':=(Array.getElem?_eq_some_iff.1 HC9.out.b0).1
     have q3:=(Array.getElem?_eq_some_iff.1 HC9.out.b1).1
     have n0:=HC6.out.l0
     have n1:=HC6.out.l1
     have n2:=HC9.out.l0
     have n3:=HC9.out.l1
     have n4:=HC6.out.bel.size
     have k0:=(hX.block w.heap.size (by omega) (fun e=>by have:=Option.some.inj e;omega)).trans ((HVY.out.block _ lw).trans HB0.out)
     have k1:=(hX.block g10 q0 (fun e=>by have:=Option.some.inj e;omega)).trans (HC6.out.on HC9.out.bel).b0
     have k2:=(hX.block g11 q1 (fun e=>by have:=Option.some.inj e;omega)).trans (HC6.out.on HC9.out.bel).b1
     have k3:=(hX.block g12 q2' (fun e=>by have:=Option.some.inj e;omega)).trans HC9.out.b0
     have k4:=(hX.block g13 q3 (fun e=>by have:=Option.some.inj e;omega)).trans HC9.out.b1
     have k5:=(hX.block Z.heap.size (by omega) (fun e=>by have:=Option.some.inj e;omega)).trans ((HZ1Y.out.block _ lZ1).trans HKZ1.out)
     exact⟨QQ0 k0 rfl,QQ0 k0 rfl,QQ0 k0 rfl,QQ0 k0 rfl,QQ0 k1 rfl,QQ0 k1 rfl,QQ0 k2 rfl,QQ0 k2 rfl,QQ0 k3 rfl,QQ0 k3 rfl,QQ0 k4 rfl,QQ0 k4 rfl,QQ0 k5 rfl⟩
    have HCY:Hid (∀ X,Y.grownBy X (some V.heap.size)->b<X.heap.size/\CrossAt X b off C):=fun X hX=>by
     have hsY:=HVY.out.size
     have hVX:Below V.heap.size V X:=HVY.out.grown hX hsY (fun q hq=>by have:=Option.some.inj hq;omega)
     exact⟨Nat.lt_of_lt_of_le hbw hVX.size,HC.out.on hVX hbw⟩
    have HDY : Hid (Below Y.heap.size Y Y.drew) := (Below.refl _ _).drew
    have HGD:Hid (Y.grownBy Y.drew (some V.heap.size)):=QQ5 HDY.out _
    have fdO:∀ W:World,(Instr.field 26 (.agg #[.int .i64 ao,.bool bo]) 0).run Try.prog W=.ok (.int .i64 ao) W:=fun W=>field_dart ao bo W
    have fdI:∀ W:World,(Instr.field 26 (.agg #[.int .i64 ai,.bool bi]) 0).run Try.prog W=.ok (.int .i64 ai) W:=fun W=>field_dart ai bi W
    clear HMP HBZ1 HV1
    go_upto_region 11 with(fail)
    refine rhd HS11 HGD.out (fun hHeld=>?_)
    refine tk 0 (h:=?_)
    refine tk 1 (h:=?_)
    refine tk 2 (h:=?_)
    refine tk 3 (h:=?_)
    refine tk 4 (h:=?_)
    refine tk 5 (h:=?_)
    refine tk 6 (h:=?_)
    refine tk 7 (h:=?_)
    refine tk 8 (h:=?_)
    try simp only[Act.put]
    refine rd1 9 (fun K hK=>?_)
    go_simp
    go_wp2_with (go_at_call 117;refine(HLO.out _ hqcl hq24 (HCY.out _ HGD.out).1 (HCY.out _ HGD.out).2).mono ?_;rintro e9 wL ⟨rfl,hbL⟩)
    have HGL:=hidB (HGD.out.trans (QQ5 hbL _))
    have HML:=hidB (HMY.out.kept (QQ5 (HDY.out.trans (hbL.mono HDY.out.size)) none) (by simp))
    clear hbL
    refine hK.out _ _ (HS11.out _ HGL.out) (fun hHeld=>?_)
    clear hK K
    refine tk 10 (h:=?_)
    try simp only[Act.put]
    obtain⟨wP,hr1,hmp1,hg1⟩:=HML.out.put (4*pc+4+p2) (x:Int) (by omega) (by omega) (by omega)
    rw[spV_at pc p2 hp24]at hr1
    have HMP1:=QQ1 hmp1
    have HGP1:=hidB (HGL.out.trans hg1)
    clear hmp1 hg1
    refine rd1 11 (fun K hK=>?_)
    go_simp
    refine hK.out _ _ (HS11.out _ HGP1.out) (fun hHeld=>?_)
    clear hK K hr1
    try simp only[Act.put]
    obtain⟨wQ,hr2,hmp2,hg2⟩:=HMP1.out.put (4*pc+4+ps) ao (by omega) (by omega) hao
    rw[spV_at pc ps hps4]at hr2
    have HMP2:=QQ1 hmp2
    have HGP2:=hidB (HGP1.out.trans hg2)
    clear hmp2 hg2
    refine rd1 12 (fun K hK=>?_)
    go_simp
    refine hK.out _ _ (HS11.out _ HGP2.out) (fun hHeld=>?_)
    clear hK K hr2
    try simp only[Act.put]
    refine wpAnyH_done (by kernel_rfl) ?_ _
    clear hHeld
    have HDQ:Hid (Below wQ.heap.size wQ wQ.drew):=(Below.refl _ _).drew
    have HGQ:=hidB (HGP2.out.trans (QQ5 HDQ.out _))
    go_upto_region 12 with(fail)
    refine rhd HS11 HGQ.out (fun hHeld=>?_)
    refine tk 0 (h:=?_)
    refine tk 1 (h:=?_)
    refine tk 2 (h:=?_)
    refine tk 3 (h:=?_)
    refine tk 4 (h:=?_)
    refine tk 5 (h:=?_)
    refine tk 6 (h:=?_)
    refine tk 9 (h:=?_)
    refine tk 10 (h:=?_)
    try simp only[Act.put]
    refine rd1 7 (fun K hK=>?_)
    go_simp
    go_wp2_with (go_at_call 117;refine(HLI.out _ hpcl hp24 (HCY.out _ HGQ.out).1 (HCY.out _ HGQ.out).2).mono ?_;rintro e9 wR ⟨rfl,hbR⟩)
    have HGR:=hidB (HGQ.out.trans (QQ5 hbR _))
    have HMR:=hidB (HMP2.out.kept (QQ5 (HDQ.out.trans (hbR.mono HDQ.out.size)) none) (by simp))
    clear hbR
    refine hK.out _ _ (HS11.out _ HGR.out) (fun hHeld=>?_)
    clear hK K
    refine tk 8 (h:=?_)
    try simp only[Act.put]
    obtain⟨v0,st,wE,hrE,hgE,hst⟩:=HMR.out.entry (4*qc+4+qs) (by omega) (by omega)
    obtain⟨wF,hrF,hmF,hgF⟩:=hst ai hai
    rw[spV_at qc qs hqs4]at hrE
    have HMF:=QQ1 hmF
    have HGE:=hidB (HGR.out.trans hgE)
    have HGF:=hidB (HGR.out.trans hgF)
    have exE:∀ W:World,(Instr.extract (.tuple #[v0,.int .i64 (st:Nat)]) 1).run Try.prog W=.ok (.int .i64 (st:Nat)) W:=fun W=>rfl
    clear hst hmF hgE hgF
    refine rd1 11 (fun K hK=>?_)
    go_simp
    refine hK.out _ _ (HS11.out _ HGE.out) (fun hHeld=>?_)
    clear hK K hrE
    try simp only[Act.put]
    try simp only[List.getElem_toArray,List.getElem_cons_succ,List.getElem_cons_zero]
    refine tk 12 (h:=?_)
    try simp only[Act.put]
    try simp only[List.getElem_toArray,List.getElem_cons_succ,List.getElem_cons_zero]
    refine rd1 13 (fun K hK=>?_)
    go_simp
    refine hK.out _ _ (HS11.out _ HGF.out) (fun hHeld=>?_)
    clear hK K hrF
    try simp only[Act.put]
    obtain⟨wG,hr3,hmp3,hg3⟩:=HMF.out.put (4*qc+4+q2) (x:Int) (by omega) (by omega) (by omega)
    rw[spV_at qc q2 hq24]at hr3
    have HMP3:=QQ1 hmp3
    have HGP3:=hidB (HGF.out.trans hg3)
    clear hmp3 hg3
    refine rd1 14 (fun K hK=>?_)
    go_simp
    refine hK.out _ _ (HS11.out _ HGP3.out) (fun hHeld=>?_)
    clear hK K hr3
    try simp only[Act.put]
    refine wpAnyH_done (by kernel_rfl) ?_ _
    clear hHeld
    have HVG:Hid (Below V.heap.size V wG):=HVY.out.grown HGP3.out HVY.out.size (fun q hq=>by have:=Option.some.inj hq;omega)
    have HMG:=hidB (show MapS wG V.heap.size (m+1+1+1+1) (slFs C l (i+1)) by rw[HFX.out];exact HMP3.out)
    clear HS11 HCY HLI HLO HMP1 HMP2 HMP3 HMF HMR HML HMY fdO fdI exE HFX
    go_wp2
    go_roundw
    case rel=>exact⟨i+1,m+1+1+1+1,by omega,by omega,by go_num,HMG.out,HVG.out⟩
    case measure=>simp only[intOf];omega
  · obtain rfl:i=3:=by omega
    have HS14:Hid (∀ X,Below Z.heap.size Z X->(fun X:World=>X.cell? ⟨w.heap.size,0,none⟩=some (.slice (some ⟨b,off,none⟩) C.length cap)/\X.cell? ⟨w.heap.size,1,none⟩=some (.int .i64 loops)/\X.cell? ⟨w.heap.size,2,none⟩=some (.slice (some ⟨gF,0,none⟩) (2*C.length+1) cF)/\X.cell? ⟨w.heap.size,3,none⟩=some (.slice (some ⟨gT,0,none⟩) (2*C.length+1) cT)) X):=fun X hX=>by
     have k0:=((HVZ.out.trans (hX.mono hsZ)).block _ lw).trans HB0.out
     exact⟨QQ0 k0 rfl,QQ0 k0 rfl,QQ0 k0 rfl,QQ0 k0 rfl⟩
    have HRL:=QQ1 (fun(W:World) (hW:Below Z.heap.size Z W)=>HRA.out W gF cF gT cT _ _ _ (HD.out.on (HVZ.out.trans (hW.mono hsZ))) (HMP.out.kept (QQ5 hW none) (by simp)))
    have HDZ:Hid (Below Z.heap.size Z Z.drew):=(Below.refl _ _).drew
    have HRV:=QQ1 ((HVZ.out.block _ lz).trans HB2.out)
    have lzZ:w.heap.size+1+1<Z.heap.size:=by omega
    have HWZ:=hidB (HBW.out.trans (HVZ.out.mono HBW.out.size))
    go_upto_region 14 with(fail)
    refine rhd HS14 HDZ.out (fun hHeld=>?_)
    refine tk 0 (h:=?_)
    refine tk 1 (h:=?_)
    refine tk 3 (h:=?_)
    refine tk 4 (h:=?_)
    refine tk 5 (h:=?_)
    refine tk 6 (h:=?_)
    try simp only[Act.put]
    refine rd1 2 (fun K hK=>?_)
    go_simp
    go_wp2_with (go_at_call 106;refine(HRL.out _ HDZ.out).mono ?_;rintro e9 w8 ⟨a8,c8,rfl,ho8,hb8⟩)
    have H8:=hidB (HDZ.out.trans (hb8.mono HDZ.out.size))
    have HO8:=QQ1 (QX4 (B':=Z.heap.size) ho8 (by simp))
    clear ho8 hb8
    refine hK.out _ _ (HS14.out _ H8.out) (fun hHeld=>?_)
    clear hK K
    refine tk 7 (h:=?_)
    try simp only[Act.put]
    have q2:=(H8.out.block _ lzZ).trans HRV.out
    have hs8:=H8.out.size
    have r0:=QQ0 (i:=0) q2 rfl
    have r1:=QQ0 (i:=1) q2 rfl
    have z0':=QQ2 (i:=0) q2
    have z1':=QQ2 (i:=1) q2
    have l2:w.heap.size+1+1<w8.heap.size:=by omega
    obtain⟨Y,hY⟩:∃ Y,Y=(w8.setCell ⟨w.heap.size+1+1,0,none⟩ (.slice a8 C.length c8)).setCell ⟨w.heap.size+1+1,1,none⟩ (.int .i64 loops):=⟨_,rfl⟩
    have HY:=QQ1 hY
    have hgY:w8.grownBy Y (some (w.heap.size+1+1)):=by rw[hY];exact QQ8 (QQ7 _ _ _ _) (QQ7 _ _ _ _)
    have hY2:Y.heap[w.heap.size+1+1]?=some (.cells #[.slice a8 C.length c8,.int .i64 loops] 24 (0,0)):=by rw[hY,QQ6 (QQ6 q2)];rfl
    have HYB:Hid (Below w.heap.size w Y):=(HWZ.out.trans (H8.out.mono HWZ.out.size)).grown hgY (Nat.le_trans HWZ.out.size hs8) (fun q hq=>by have:=Option.some.inj hq;omega)
    have HSY:Hid ((fun X:World=>X.cell? ⟨w.heap.size,0,none⟩=some (.slice (some ⟨b,off,none⟩) C.length cap)/\X.cell? ⟨w.heap.size,1,none⟩=some (.int .i64 loops)/\X.cell? ⟨w.heap.size,2,none⟩=some (.slice (some ⟨gF,0,none⟩) (2*C.length+1) cF)/\X.cell? ⟨w.heap.size,3,none⟩=some (.slice (some ⟨gT,0,none⟩) (2*C.length+1) cT)) Y):=(by
     have hs0:w.heap.size<w8.heap.size:=by omega
     have k0:=(hgY.block w.heap.size hs0 (fun e=>by have:=Option.some.inj e;omega)).trans (((HVZ.out.trans (H8.out.mono hsZ)).block _ lw).trans HB0.out)
     exact⟨QQ0 k0 rfl,QQ0 k0 rfl,QQ0 k0 rfl,QQ0 k0 rfl⟩)
    have HOY:=QQ1 (HO8.out.kept hgY (by
     cases hv:(Value.slice a8 C.length c8).ownBlock with
     |none=>exact Or.inl rfl
     |some k=>exact Or.inr (fun e=>by have h1:=(HO8.out.lt k hv).1;have h2:=Option.some.inj e;omega)))
    clear hY hgY q2
    refine rd1 8 (fun K hK=>?_)
    go_simp
    rw[<-HY.out]
    refine hK.out _ _ HSY.out (fun hHeld=>?_)
    clear hK K
    try simp only[Act.put]
    refine wpAnyH_done (by kernel_rfl) ?_ _
    clear hHeld
    go_wp2
    have x0:=QQ0 (i:=0) (v:=.slice a8 C.length c8) hY2 rfl
    have x1:=QQ0 (i:=1) (v:=.int .i64 loops) hY2 rfl
    exact bodyPost_ret (v:=.agg #[.slice a8 C.length c8,.int .i64 loops]) (by simp[results,Try.results92,go_sem,x0,x1]) rfl (HPP.out a8 c8 Y (QX4 HOY.out HWZ.out.size) HYB.out)
end Go.Proofs.Ytagaajlbkfkaiaa
