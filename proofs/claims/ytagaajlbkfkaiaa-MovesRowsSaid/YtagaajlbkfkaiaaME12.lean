/- The walk of ref.slideOf from its counting on. Made by genme12.py. -/
import Derived.Test.YtagaajlbkfkaiaaTkhP
import Derived.Test.YtagaajlbkfkaiaaME11
import Derived.Deep.QuietTactic
import Derived.BigQuiet
namespace Go.Proofs.Ytagaajlbkfkaiaa
open Go.RowKit
set_option maxHeartbeats 16000000
set_option maxRecDepth 100000
def hcN (C:List Cr) (l:List Nat) (q:Nat):Nat->Nat
 |0=>0
 |k+1=>hcN C l q k+if hgt C (dA (l.getD k 0))=q then 1 else 0
theorem hcN_le (C:List Cr) (l:List Nat) (q:Nat):∀ k,hcN C l q k<=k
 |0=>Nat.le_refl _
 |k+1=>by
  show hcN C l q k+(if hgt C (dA (l.getD k 0))=q then 1 else 0)<=k+1
  have h:=hcN_le C l q k
  split<;>omega
def enN (C:List Cr) (l:List Nat) (k:Nat):List Nat:=(List.range k).map fun j=>dC C (l.getD j 0)
theorem enN_next (C:List Cr) (l:List Nat) (k:Nat):nats (enN C l (k+1))=nats (enN C l k)++[.int .i64 (dC C (l.getD k 0):Nat)]:=by
 unfold nats enN
 rw[List.range_succ]
 simp
def slR (C:List Cr) (l:List Nat):Bool:=((((decide (hcN C l 0 3=1)&&decide (hcN C l 1 3=1))&&decide (hcN C l 2 3=1))&&!decide (dC C (l.getD 0 0)=dC C (l.getD 1 0)))&&!decide (dC C (l.getD 0 0)=dC C (l.getD 2 0)))&&!decide (dC C (l.getD 1 0)=dC C (l.getD 2 0))
theorem arr_put (f0 f1 f2 h:Nat) (hh:h<3):(#[.int .i64 (f0:Nat),.int .i64 (f1:Nat),.int .i64 (f2:Nat)]:Array Value).setIfInBounds h (.int .i64 (((if h=0 then f0 else if h=1 then f1 else f2):Nat)+1:Int))=#[.int .i64 ((f0+if h=0 then 1 else 0:Nat):Int),.int .i64 ((f1+if h=1 then 1 else 0:Nat):Int),.int .i64 ((f2+if h=2 then 1 else 0:Nat):Int)]:=by
 match h,hh with
 |0,_=>rfl
 |1,_=>rfl
 |2,_=>rfl
theorem arr_get (f0 f1 f2 h:Nat) (hh:h<3):(#[.int .i64 (f0:Nat),.int .i64 (f1:Nat),.int .i64 (f2:Nat)]:Array Value)[h]?=some (.int .i64 (((if h=0 then f0 else if h=1 then f1 else f2):Nat):Int)):=by
 match h,hh with
 |0,_=>rfl
 |1,_=>rfl
 |2,_=>rfl
theorem slideOf7 (b off cap:Nat) (C:List Cr) (loops:Int) (g c:Nat) (l:List Nat) (w V:World) (P:Ending->World->Prop) (hm:mayD C loops=true) (hbw:b<V.heap.size) (hCr:CrossAt V b off C) (hr:RingAt V g C l) (h3:l.length=3) (hb0:V.heap[w.heap.size]?=some (.cells #[.slice (some ⟨b,off,none⟩) C.length cap,.int .i64 loops] 24 (0,0))) (hb2:V.heap[w.heap.size+1]?=some (.cells #[.slice none 0 0,.int .i64 0] 24 (0,0))) (hbel:Below w.heap.size w V)
    (hN:slR C l=false->∀ w',Below w.heap.size w w'->P (.returned (.tuple #[.agg #[.slice none 0 0,.int .i64 0],.int .i64 8])) w')
    (hP:slR C l=true->∀ a' c' w',w'.ownsRow w.heap.size 71 5 (.slice a' C.length c') C.length (crossCells (slLs C l 3))->Below w.heap.size w w'->P (.returned (.tuple #[.agg #[.slice a' C.length c',.int .i64 loops],.int .i64 0])) w') (z1 z3 z6 z8 z9 z10 z11 z12 z13 z14 z15 z16 z17 z18 z19 z20 z21 z22 z23 z24 z25 z26 z27 z28 z29 z30 z31 z32 z33 z34 z35 z36 z37 z38 z39 z40 z41 z42 z43 z44 z45 z46 z47 z48 z49 z50 z51 z52 z53 z54 z55 z56 z57 z58 z59 z60 z61 z62 z63 z64 z65 z66 z67 z68 z69 z70 z71 z72 z73 z74 z75 z76 z77 z78 z79 z80 z81 z82 z83 z84 z85 z86 z87 z88 z89 z90 z91 z92 z93 z94 z95 z96 z97 z98 z99 z100 z101 z102 z103 z104 z105 z106 z107 z108 z109 z110 z111 z112 z113 z114 z115 z116 z117 z118 z119 z120 z121 z122 z123 z124 z125 z126 z127 z128 z129 z130 z131 z132 z133 z134 z135 z136 z137 z138 z139 z140 z141 z142 z143 z144 z145 z146 z147 z148 z149 z150 z151 z152 z153 z154 z155 z156 z157 z158 z159 z160:Value):
    Code.wp Try.prog (codeAt 7 (Try.f39.body.getD .skip)) (bodyPost Try.prog Try.f39 P) { tmps:=#[.agg #[.slice (some ⟨b,off,none⟩) C.length cap,.int .i64 loops],z1,.pointer (some ⟨w.heap.size,0,none⟩),z3,.pointer (some ⟨w.heap.size+1,0,none⟩),.int .i64 0,z6,.slice (some ⟨g,0,none⟩) 3 c,z8,z9,z10,z11,z12,z13,z14,z15,z16,z17,z18,z19,z20,z21,z22,z23,z24,z25,z26,z27,z28,z29,z30,z31,z32,z33,z34,z35,z36,z37,z38,z39,z40,z41,z42,z43,z44,z45,z46,z47,z48,z49,z50,z51,z52,z53,z54,z55,z56,z57,z58,z59,z60,z61,z62,z63,z64,z65,z66,z67,z68,z69,z70,z71,z72,z73,z74,z75,z76,z77,z78,z79,z80,z81,z82,z83,z84,z85,z86,z87,z88,z89,z90,z91,z92,z93,z94,z95,z96,z97,z98,z99,z100,z101,z102,z103,z104,z105,z106,z107,z108,z109,z110,z111,z112,z113,z114,z115,z116,z117,z118,z119,z120,z121,z122,z123,z124,z125,z126,z127,z128,z129,z130,z131,z132,z133,z134,z135,z136,z137,z138,z139,z140,z141,z142,z143,z144,z145,z146,z147,z148,z149,z150,z151,z152,z153,z154,z155,z156,z157,z158,z159,z160],defers:=[] } V:=by
 have HM:=hid_of hm
 have HC:=hid_of hCr
 have HRI:=hid_of hr
 have HB0:=hid_of hb0
 have HB2:=hid_of hb2
 have HBW:=hid_of hbel
 have HPN:=hid_of hN
 have HPP:=hid_of hP
 have hl16:=may_len hm
 have lw:w.heap.size<V.heap.size:=(Array.getElem?_eq_some_iff.1 hb0).1
 have lz:w.heap.size+1<V.heap.size:=(Array.getElem?_eq_some_iff.1 hb2).1
 have hg0:=hr.1
 have HL3:=hid_of h3
 obtain⟨iI,hiI,hiz0,hiz1,hiz2⟩:=info_parts infoInt
 have HCV:Hid (∀ W,Below V.heap.size V W->b<W.heap.size/\CrossAt W b off C):=fun W hW=>⟨Nat.lt_of_lt_of_le hbw hW.size,HC.out.on hW hbw⟩
 clear hm hCr hr hb0 hb2 hbel hP hN h3
 let Q9:Exit->Act->World->Prop:=bodyPost Try.prog Try.f39 P
 change Code.wp Try.prog (codeAt 7 (Try.f39.body.getD .skip)) Q9 { tmps:=#[.agg #[.slice (some ⟨b,off,none⟩) C.length cap,.int .i64 loops],z1,.pointer (some ⟨w.heap.size,0,none⟩),z3,.pointer (some ⟨w.heap.size+1,0,none⟩),.int .i64 0,z6,.slice (some ⟨g,0,none⟩) 3 c,z8,z9,z10,z11,z12,z13,z14,z15,z16,z17,z18,z19,z20,z21,z22,z23,z24,z25,z26,z27,z28,z29,z30,z31,z32,z33,z34,z35,z36,z37,z38,z39,z40,z41,z42,z43,z44,z45,z46,z47,z48,z49,z50,z51,z52,z53,z54,z55,z56,z57,z58,z59,z60,z61,z62,z63,z64,z65,z66,z67,z68,z69,z70,z71,z72,z73,z74,z75,z76,z77,z78,z79,z80,z81,z82,z83,z84,z85,z86,z87,z88,z89,z90,z91,z92,z93,z94,z95,z96,z97,z98,z99,z100,z101,z102,z103,z104,z105,z106,z107,z108,z109,z110,z111,z112,z113,z114,z115,z116,z117,z118,z119,z120,z121,z122,z123,z124,z125,z126,z127,z128,z129,z130,z131,z132,z133,z134,z135,z136,z137,z138,z139,z140,z141,z142,z143,z144,z145,z146,z147,z148,z149,z150,z151,z152,z153,z154,z155,z156,z157,z158,z159,z160],defers:=[] } V
 simp only[codeAt,Try.f39,Option.getD_some,reduceIte,Nat.reduceEqDiff]
 obtain⟨V1,hV1⟩:∃ V1,V.alloc (.cells #[.int .i64 0,.int .i64 0,.int .i64 0] 111)=V1:=⟨_,rfl⟩
 have HV1:=hid_of hV1
 have HBV1:Hid (Below V.heap.size V V1):=(by rw[<-hV1];exact(Below.refl _ _).alloc (Nat.le_refl _) _:Below V.heap.size V V1)
 have HA0:Hid (V1.heap[V.heap.size]?=some (.cells #[.int .i64 (hcN C l 0 0:Nat),.int .i64 (hcN C l 1 0:Nat),.int .i64 (hcN C l 2 0:Nat)] 111 (0,0))):=(by rw[<-hV1];exact alloc_at rfl:V1.heap[V.heap.size]?=_)
 have hs1:V.heap.size+1<=V1.heap.size:=by rw[<-hV1];simp
 clear hV1
 go_upto_region 8 with(fail)
 rw[HV1.out]
 go_wp2
 go_loopw [9,10] (fun v9 v10 wr=>∃ (k:Nat) (a9:Option Addr) (c9:Nat),k<=3/\v10=.int .i64 (k:Nat)/\v9=.slice a9 k c9/\Hid (wr.ownsRow (V.heap.size+1) 3 1 (.slice a9 k c9) k (nats (enN C l k)))/\Hid (wr.heap[V.heap.size]?=some (.cells #[.int .i64 (hcN C l 0 k:Nat),.int .i64 (hcN C l 1 k:Nat),.int .i64 (hcN C l 2 k:Nat)] 111 (0,0)))/\Hid (Below V.heap.size V wr)) (fun _ v10 _=>3-(intOf v10).toNat)
 case atStart=>exact⟨0,none,0,by omega,rfl,rfl,World.ownsRow_nil _ _ _ _,HA0.out,HBV1.out⟩
 case round=>
  rename World=>Z
  obtain⟨k,a9,c9,hk3,rfl,rfl,ho,harr,hbz⟩:=hrel
  have HOZ:=hid_of ho.out
  have HAZ:=hid_of harr.out
  have HVZ:=hid_of hbz.out
  have hsV:=hbz.out.size
  have lA:V.heap.size<Z.heap.size:=(Array.getElem?_eq_some_iff.1 harr.out).1
  clear ho harr hbz
  by_cases hkl:k<3
  · obtain⟨d,hd⟩:∃ d,l.getD k 0=d:=⟨_,rfl⟩
    have hring:=HRI.out.2.2 k (by rw[HL3.out];exact hkl)
    rw[hd]at hring
    obtain⟨⟨hd1,hd2⟩,hc0,hc1⟩:=hring
    have hxr:=dA_le hd1 hd2
    have HEN:=fun(W:World) (hW:Below V.heap.size V W)=>endOf_is b off cap C loops (dA d) (!dB d) W HM.out hxr.1 hxr.2 (HCV.out W hW).1 (HCV.out W hW).2
    simp only[Bool.not_not]at HEN
    have hHG:=fun(W:World) (hW:Below V.heap.size V W)=>heightOf_any b off cap C loops (dA d) W HM.out hxr.1 hxr.2 (HCV.out W hW).1 (HCV.out W hW).2
    have HNX:Hid (nats (enN C l (k+1))=nats (enN C l k)++[.int .i64 (dC C d:Nat)]):=(by rw[enN_next,hd]:nats (enN C l (k+1))=_)
    have hf:∀ q,hcN C l q (k+1)=hcN C l q k+if hgt C (dA d)=q then 1 else 0:=fun q=>by
     show hcN C l q k+(if hgt C (dA (l.getD k 0))=q then 1 else 0)=_
     rw[hd]
    have hb0':=hcN_le C l 0 k
    have hb1':=hcN_le C l 1 k
    have hb2':=hcN_le C l 2 k
    have HF:=hid_of hf
    have hh3:=hgt_le C (dA d)
    unfold dC at HNX
    obtain⟨bk,hbk⟩:∃ bk,dB d=bk:=⟨_,rfl⟩
    obtain⟨x,hx⟩:∃ x,dA d=x:=⟨_,rfl⟩
    rw[hx]at hc0 HEN hHG HF hh3 HNX
    rw[hbk]at hc1 HEN HNX
    obtain⟨ec,hec⟩:∃ n,enC C x (!bk)=n:=⟨_,rfl⟩
    obtain⟨es,hes⟩:∃ n,enS C x (!bk)=n:=⟨_,rfl⟩
    obtain⟨h,hh⟩:∃ n,hgt C x=n:=⟨_,rfl⟩
    rw[hec,hes]at HEN
    rw[hec]at HNX
    rw[hh]at hHG HF hh3
    have HE:=hid_of HEN
    have HH:=hid_of hHG
    obtain⟨f0,hf0⟩:∃ n,hcN C l 0 k=n:=⟨_,rfl⟩
    obtain⟨f1,hf1⟩:∃ n,hcN C l 1 k=n:=⟨_,rfl⟩
    obtain⟨f2,hf2⟩:∃ n,hcN C l 2 k=n:=⟨_,rfl⟩
    have HF0:=hid_of (HF.out 0)
    have HF1:=hid_of (HF.out 1)
    have HF2:=hid_of (HF.out 2)
    rw[hf0]at HF0 HAZ hb0'
    rw[hf1]at HF1 HAZ hb1'
    rw[hf2]at HF2 HAZ hb2'
    obtain⟨fh,hfh⟩:∃ n,(if h=0 then f0 else if h=1 then f1 else f2)=n:=⟨_,rfl⟩
    have hfh3:fh<=3:=by
     rw[<-hfh]
     split
     · omega
     · split<;>omega
    have HPUT:=hid_of (arr_put f0 f1 f2 h hh3)
    have HGET:=hid_of (arr_get f0 f1 f2 h hh3)
    rw[hfh]at HPUT HGET
    clear hf HF hd hbk hx hec hes hh hf0 hf1 hf2 hfh HEN hHG hxr
    have e0:Z.cell? ⟨g,k*2,none⟩=some (.int .i64 (x:Nat)):=bcell HVZ.out hg0 hc0
    have e1:Z.cell? ⟨g,k*2+1,none⟩=some (.bool bk):=bcell HVZ.out hg0 hc1
    clear hc0 hc1
    have hi0:(0:Int)<=(k:Int):=by omega
    have hi1:(k:Int)<3:=by omega
    have hj0:(0:Int)<=(h:Int):=by omega
    have hj1:(h:Int)<3:=by omega
    have lgZ:g<Z.heap.size:=by omega
    have wf1:IntKind.i64.wrap ((fh:Int)+1)=(fh:Int)+1:=IntWalk.i64_in _ (by omega)
    have HS12:Hid (∀ X:World,X.heap[w.heap.size]?=Z.heap[w.heap.size]?->X.heap[g]?=Z.heap[g]?->(fun X:World=>X.cell? ⟨w.heap.size,0,none⟩=some (.slice (some ⟨b,off,none⟩) C.length cap)/\X.cell? ⟨w.heap.size,1,none⟩=some (.int .i64 loops)/\X.cell? ⟨g,k*2,none⟩=some (.int .i64 (x:Nat))/\X.cell? ⟨g,k*2+1,none⟩=some (.bool bk)) X):=fun X q0 q1=>by
     have k0:=q0.trans ((HVZ.out.block _ lw).trans HB0.out)
     refine⟨block_cell k0 rfl,block_cell k0 rfl,?_,?_⟩
     · rw[<-e0];unfold World.cell?;simp only[];rw[q1]
     · rw[<-e1];unfold World.cell?;simp only[];rw[q1]
    have HSB:Hid (∀ X,Below Z.heap.size Z X->(fun X:World=>X.cell? ⟨w.heap.size,0,none⟩=some (.slice (some ⟨b,off,none⟩) C.length cap)/\X.cell? ⟨w.heap.size,1,none⟩=some (.int .i64 loops)/\X.cell? ⟨g,k*2,none⟩=some (.int .i64 (x:Nat))/\X.cell? ⟨g,k*2+1,none⟩=some (.bool bk)) X):=fun X hX=>HS12.out X (hX.block _ (by omega)) (hX.block _ lgZ)
    have HDZ : Hid (Below Z.heap.size Z Z.drew) := (Below.refl _ _).drew
    have HVD:Hid (Below V.heap.size V Z.drew):=HVZ.out.trans (HDZ.out.mono hsV)
    clear e0 e1
    go_upto_region 12 with(fail)
    refine wp_region_held_drew (S:=fun X:World=>X.cell? ⟨w.heap.size,0,none⟩=some (.slice (some ⟨b,off,none⟩) C.length cap)/\X.cell? ⟨w.heap.size,1,none⟩=some (.int .i64 loops)/\X.cell? ⟨g,k*2,none⟩=some (.int .i64 (x:Nat))/\X.cell? ⟨g,k*2+1,none⟩=some (.bool bk)) (by kernel_rfl) (HSB.out _ HDZ.out) (fun hHeld=>?_)
    refine tk 0 (h:=?_)
    refine tk 1 (h:=?_)
    refine tk 2 (h:=?_)
    refine tk 3 (h:=?_)
    refine tk 4 (h:=?_)
    refine tk 5 (h:=?_)
    try simp only[Act.put]
    refine rd1 6 (fun K hK=>?_)
    go_simp
    go_wp2_with (go_at_call 70;refine(HH.out _ HVD.out).mono ?_;rintro e9 wA ⟨rfl,hbA⟩)
    have HA:Hid (Below Z.heap.size Z wA):=HDZ.out.trans (hbA.mono HDZ.out.size)
    clear hbA
    refine hK.out _ _ (HSB.out _ HA.out) (fun hHeld=>?_)
    clear hK K
    refine tk 7 (h:=?_)
    try simp only[Act.put]
    have qa:=(HA.out.block _ lA).trans HAZ.out
    have ld:wA.cell? ⟨V.heap.size,h,none⟩=some (.int .i64 (fh:Nat)):=block_cell qa HGET.out
    have lf:wA.frozen? ⟨V.heap.size,h,none⟩=false:=block_frozen qa
    have ll:V.heap.size<wA.heap.size:=Nat.lt_of_lt_of_le lA HA.out.size
    refine rd1 8 (fun K hK=>?_)
    go_simp
    refine hK.out _ _ (HSB.out _ HA.out) (fun hHeld=>?_)
    clear hK K
    refine tk 9 (h:=?_)
    refine tk 10 (h:=?_)
    try simp only[Act.put]
    obtain⟨Z1,hZ1⟩:∃ Z1,wA.setCell ⟨V.heap.size,h,none⟩ (.int .i64 ((fh:Int)+1))=Z1:=⟨_,rfl⟩
    have HZ1:=hid_of hZ1
    have hgZ:wA.grownBy Z1 (some V.heap.size):=by rw[<-hZ1];exact set_grown _ _ _ _
    have HQ1:Hid (Z1.heap[V.heap.size]?=some (.cells #[.int .i64 (hcN C l 0 (k+1):Nat),.int .i64 (hcN C l 1 (k+1):Nat),.int .i64 (hcN C l 2 (k+1):Nat)] 111 (0,0))):=(by rw[HF0.out,HF1.out,HF2.out,<-HPUT.out,<-hZ1];exact set_block qa:Z1.heap[V.heap.size]?=_)
    have hk1:∀ q,q<Z.heap.size->q≠V.heap.size->Z1.heap[q]?=Z.heap[q]?:=fun q h1 h2=>(hgZ.block q (Nat.lt_of_lt_of_le h1 HA.out.size) (fun e=>h2 (Option.some.inj e))).trans (HA.out.block q h1)
    have HV2:Hid (Below V.heap.size V Z1):=(HVZ.out.trans (HA.out.mono hsV)).grown hgZ (Nat.le_trans hsV HA.out.size) (fun q hq=>by have:=Option.some.inj hq;omega)
    have HSZ:=hid_of (HS12.out Z1 (hk1 _ (by omega) (by omega)) (hk1 _ lgZ (by omega)))
    have HOZ1:Hid (Z1.ownsRow (V.heap.size+1) 3 1 (.slice a9 k c9) k (nats (enN C l k))):=((own_any HOZ.out (grown_below HA.out none)).kept hgZ (by
     cases hv:(Value.slice a9 k c9).ownBlock with
     |none=>exact Or.inl rfl
     |some j=>exact Or.inr (fun e=>by have h1:=(HOZ.out.lt j hv).1;have h2:=Option.some.inj e;omega)))
    have hsZ1:Z.heap.size<=Z1.heap.size:=Nat.le_trans HA.out.size hgZ.size
    have HK1:=hid_of hk1
    clear hZ1 hgZ hk1
    refine rd1 11 (fun K hK=>?_)
    go_simp
    rw[HZ1.out]
    refine hK.out _ _ (HSZ.out) (fun hHeld=>?_)
    clear hK K
    try simp only[Act.put]
    refine wpAnyH_done (by kernel_rfl) ?_ _
    clear hHeld
    clear ld lf ll qa HPUT HGET wf1 HDZ HVD HSB
    have HSB:Hid (∀ X,Below Z1.heap.size Z1 X->(fun X:World=>X.cell? ⟨w.heap.size,0,none⟩=some (.slice (some ⟨b,off,none⟩) C.length cap)/\X.cell? ⟨w.heap.size,1,none⟩=some (.int .i64 loops)/\X.cell? ⟨g,k*2,none⟩=some (.int .i64 (x:Nat))/\X.cell? ⟨g,k*2+1,none⟩=some (.bool bk)) X):=fun X hX=>HS12.out X ((hX.block _ (by omega)).trans (HK1.out _ (by omega) (by omega))) ((hX.block _ (by omega)).trans (HK1.out _ lgZ (by omega)))
    have HDZ : Hid (Below Z1.heap.size Z1 Z1.drew) := (Below.refl _ _).drew
    have HVD:Hid (Below V.heap.size V Z1.drew):=HV2.out.trans (HDZ.out.mono (by omega))
    have fdE:∀ W:World,(Instr.field 96 (.agg #[.int .i64 (ec:Nat),.int .i64 (es:Nat)]) 0).run Try.prog W=.ok (.int .i64 (ec:Nat)) W:=fun W=>by kernel_rfl
    go_upto_region 13 with(fail)
    refine wp_region_held_drew (S:=fun X:World=>X.cell? ⟨w.heap.size,0,none⟩=some (.slice (some ⟨b,off,none⟩) C.length cap)/\X.cell? ⟨w.heap.size,1,none⟩=some (.int .i64 loops)/\X.cell? ⟨g,k*2,none⟩=some (.int .i64 (x:Nat))/\X.cell? ⟨g,k*2+1,none⟩=some (.bool bk)) (by kernel_rfl) (HSB.out _ HDZ.out) (fun hHeld=>?_)
    refine tk 0 (h:=?_)
    refine tk 1 (h:=?_)
    refine tk 2 (h:=?_)
    refine tk 3 (h:=?_)
    refine tk 4 (h:=?_)
    refine tk 5 (h:=?_)
    refine tk 6 (h:=?_)
    refine tk 7 (h:=?_)
    refine tk 8 (h:=?_)
    refine tk 9 (h:=?_)
    refine tk 10 (h:=?_)
    refine tk 11 (h:=?_)
    try simp only[Act.put]
    refine rd1 12 (fun K hK=>?_)
    go_simp
    go_wp2_with (go_at_call 63;refine(HE.out _ HVD.out).mono ?_;rintro e9 wB ⟨rfl,hbB⟩)
    have HB:Hid (Below Z1.heap.size Z1 wB):=HDZ.out.trans (hbB.mono HDZ.out.size)
    clear hbB
    refine hK.out _ _ (HSB.out _ HB.out) (fun hHeld=>?_)
    clear hK K
    refine tk 13 (h:=?_)
    try simp only[Act.put]
    try simp only[List.getElem_toArray,List.getElem_cons_succ,List.getElem_cons_zero]
    have HOB:=hid_of (own_any HOZ1.out (grown_below HB.out none))
    have HT : Hid (Below Z1.heap.size Z1 (wB.alloc (.cells #[.int .i64 (ec : Nat)] 3))) := HB.out.alloc HB.out.size _
    have hsB:=HB.out.size
    refine rd1 14 (fun K hK=>?_)
    go_simp
    refine hK.out _ _ (HSB.out _ HT.out) (fun hHeld=>?_)
    clear hK K
    try simp only[Act.put]
    refine rd1 15 (fun K hK=>?_)
    refine step_append_own rfl (.tmp 52) (.tmp 66) 46 rfl (V.heap.size+1) 3 iI (.int .i64 0) 1 8 Try.underlying46 hiI hiz0 hiz1 hiz2 rfl (by decide) _ k _ (by simp[Act.eval]) (HOB.out.alloc _) ⟨wB.heap.size,0,none⟩ 1 1 [.int .i64 (ec:Nat)] (by simp[Act.eval]) rfl (new_cell1 _ _ _) (int_one _) (by unfold maxLen;omega) (by omega) (by simp;omega) ?_
    intro v8 w8 hown8 hg8
    obtain⟨a8,c8,rfl⟩:=own_capS hown8
    have HO8:Hid (w8.ownsRow (V.heap.size+1) 3 1 (.slice a8 (k+1) c8) (k+1) (nats (enN C l (k+1)))):=(by rw[HNX.out];exact hown8:w8.ownsRow (V.heap.size+1) 3 1 (.slice a8 (k+1) c8) (k+1) (nats (enN C l (k+1))))
    have hne:∀ q,q<V.heap.size+1->some q≠(Value.slice a9 k c9).ownBlock:=fun q hq e=>by have:=(HOZ.out.lt q e.symm).1;omega
    have hk8:∀ q,q<V.heap.size+1->w8.heap[q]?=Z1.heap[q]?:=fun q h=>(hg8.block q (by simp;omega) (hne q h)).trans (HT.out.block q (by omega))
    have HQ8:=hid_of ((hk8 _ (by omega)).trans HQ1.out)
    have HV8:Hid (Below V.heap.size V w8):=(HV2.out.trans (HT.out.mono (by omega))).grown hg8 (by simp;omega) (fun q hq=>by have:=(HOZ.out.lt q hq).1;omega)
    have HS8:=hid_of (HS12.out w8 ((hk8 _ (by omega)).trans (HK1.out _ (by omega) (by omega))) ((hk8 _ (by omega)).trans (HK1.out _ lgZ (by omega))))
    refine hK.out _ _ HS8.out (fun hHeld=>?_)
    clear hK K hown8 hg8
    refine tk 16 (h:=?_)
    try simp only[Act.put]
    refine wpAnyH_done (by kernel_rfl) ?_ _
    clear hHeld
    clear HSB HS12 HS8 HT HOB HB HE HH fdE HK1
    go_wp2
    go_roundw
    case rel=>exact⟨k+1,a8,c8,by omega,by go_num,rfl,HO8.out,HQ8.out,HV8.out⟩
    case measure=>simp only[intOf];omega
  · obtain rfl:k=3:=by omega
    obtain⟨ge,cc,ev⟩:=own_block'' HOZ.out (by omega)
    injection ev with ev1 ev2 ev3
    subst ev1
    clear ev2 ev3
    have HWZ:Hid (Below w.heap.size w Z):=HBW.out.trans (HVZ.out.mono HBW.out.size)
    have n0:Z.cell? ⟨ge,0,none⟩=some (.int .i64 (dC C (l.getD 0 0):Nat)):=HOZ.out.cellAt 0 (by omega)
    have n1:Z.cell? ⟨ge,1,none⟩=some (.int .i64 (dC C (l.getD 1 0):Nat)):=HOZ.out.cellAt 1 (by omega)
    have n2:Z.cell? ⟨ge,2,none⟩=some (.int .i64 (dC C (l.getD 2 0):Nat)):=HOZ.out.cellAt 2 (by omega)
    have lge:ge<Z.heap.size:=(HOZ.out.lt ge rfl).2
    have m0:Z.cell? ⟨V.heap.size,0,none⟩=some (.int .i64 (hcN C l 0 3:Nat)):=block_cell HAZ.out rfl
    have m1:Z.cell? ⟨V.heap.size,1,none⟩=some (.int .i64 (hcN C l 1 3:Nat)):=block_cell HAZ.out rfl
    have m2:Z.cell? ⟨V.heap.size,2,none⟩=some (.int .i64 (hcN C l 2 3:Nat)):=block_cell HAZ.out rfl
    have q2:=(HVZ.out.block _ lz).trans HB2.out
    have r0:Z.cell? ⟨w.heap.size+1,0,none⟩=some (.slice none 0 0):=block_cell q2 rfl
    have r1:Z.cell? ⟨w.heap.size+1,1,none⟩=some (.int .i64 0):=block_cell q2 rfl
    have f2:Z.frozen? ⟨w.heap.size+1,0,none⟩=false:=block_frozen q2
    have f3:Z.frozen? ⟨w.heap.size+1,1,none⟩=false:=block_frozen q2
    have l4:w.heap.size+1<Z.heap.size:=by omega
    have HQ2:=hid_of q2
    have HB0Z:=hid_of ((HVZ.out.block _ lw).trans HB0.out)
    have HRZ:=hid_of (HRI.out.on HVZ.out)
    have HSR:Hid (slR C l=(((((decide (hcN C l 0 3=1)&&decide (hcN C l 1 3=1))&&decide (hcN C l 2 3=1))&&!decide (dC C (l.getD 0 0)=dC C (l.getD 1 0)))&&!decide (dC C (l.getD 0 0)=dC C (l.getD 2 0)))&&!decide (dC C (l.getD 1 0)=dC C (l.getD 2 0)))):=(rfl:slR C l=_)
    generalize slR C l=sr at HSR HPN HPP
    generalize hcN C l 0 3=y0 at m0 HSR
    generalize hcN C l 1 3=y1 at m1 HSR
    generalize hcN C l 2 3=y2 at m2 HSR
    generalize dC C (l.getD 0 0)=x0 at n0 HSR
    generalize dC C (l.getD 1 0)=x1 at n1 HSR
    generalize dC C (l.getD 2 0)=x2 at n2 HSR
    clear q2
    by_cases h0:y0=1
    · have e0:((y0:Int) != 1)=false:=by simp;omega
      have H0:=hid_of h0
      clear h0
      by_cases h1:y1=1
      · have e1:((y1:Int) != 1)=false:=by simp;omega
        have H1:=hid_of h1
        clear h1
        by_cases h2:y2=1
        · have e2:((y2:Int) != 1)=false:=by simp;omega
          have H2:=hid_of h2
          clear h2
          by_cases h3:x0=x1
          · have e3:((x0:Int)==(x1:Int))=true:=by simp;omega
            have H3:=hid_of h3
            clear h3
            have HSF : Hid (sr = false) := (by rw [HSR.out]; simp [H3.out] : sr = false)
            go_upto_region 14 with(fail)
            go_quiet (fail)
            go_wp2
            exact bodyPost_ret (res_slide (set_block (set_block HQ2.out)) rfl rfl) rfl (HPN.out HSF.out _ ((below_drewN HWZ.out _).grown (st2_grown _ _ _ _ _) HWZ.out.size (fun q hq=>by have:=Option.some.inj hq;omega)))
          · have e3:((x0:Int)==(x1:Int))=false:=by simp;omega
            have H3:=hid_of h3
            clear h3
            by_cases h4:x0=x2
            · have e4:((x0:Int)==(x2:Int))=true:=by simp;omega
              have H4:=hid_of h4
              clear h4
              have HSF : Hid (sr = false) := (by rw [HSR.out]; simp [H4.out] : sr = false)
              go_upto_region 14 with(fail)
              go_quiet (fail)
              go_wp2
              exact bodyPost_ret (res_slide (set_block (set_block HQ2.out)) rfl rfl) rfl (HPN.out HSF.out _ ((below_drewN HWZ.out _).grown (st2_grown _ _ _ _ _) HWZ.out.size (fun q hq=>by have:=Option.some.inj hq;omega)))
            · have e4:((x0:Int)==(x2:Int))=false:=by simp;omega
              have H4:=hid_of h4
              clear h4
              by_cases h5:x1=x2
              · have e5:((x1:Int)==(x2:Int))=true:=by simp;omega
                have H5:=hid_of h5
                clear h5
                have HSF : Hid (sr = false) := (by rw [HSR.out]; simp [H5.out] : sr = false)
                go_upto_region 14 with(fail)
                go_quiet (fail)
                go_wp2
                exact bodyPost_ret (res_slide (set_block (set_block HQ2.out)) rfl rfl) rfl (HPN.out HSF.out _ ((below_drewN HWZ.out _).grown (st2_grown _ _ _ _ _) HWZ.out.size (fun q hq=>by have:=Option.some.inj hq;omega)))
              · have e5:((x1:Int)==(x2:Int))=false:=by simp;omega
                have H5:=hid_of h5
                clear h5
                have HST : Hid (sr = true) := (by rw [HSR.out]; simp [H0.out, H1.out, H2.out, H3.out, H4.out, H5.out] : sr = true)
                go_upto_region 14 with(fail)
                go_quiet (fail)
                go_upto_if 107 with(fail)
                go_cut [5] from 18 (fun s5 wx=>s5=.int .i64 0/\Below Z.heap.size Z wx)
                case first=>
                 go_wp2
                 go_meet
                 exact⟨rfl,below_drewN (Below.refl _ _) _⟩
                case rest=>
                 rename World=>W9
                 obtain⟨rfl,hcut⟩:=hcut
                 have H9:=hid_of hcut
                 clear hcut
                 have H9V:Hid (Below V.heap.size V W9):=HVZ.out.trans (H9.out.mono hsV)
                 rename (∀ (a:Act) (w:World),Code.wp _ _ _ a w->_)=>hK9
                 refine hK9 _ _ ?_
                 exact slideOf16 b off cap C loops g c l w W9 P HM.out (HCV.out _ H9V.out).1 (HCV.out _ H9V.out).2 (HRI.out.on H9V.out) HL3.out ((H9V.out.block _ lw).trans HB0.out) ((H9V.out.block _ lz).trans HB2.out) (HBW.out.trans (H9V.out.mono HBW.out.size)) (HPP.out HST.out) _ _ _ _ _ _ _ _ _ _ _ _ _ _ _ _ _ _ _ _ _ _ _ _ _ _ _ _ _ _ _ _ _ _ _ _ _ _ _ _ _ _ _ _ _ _ _ _ _ _ _ _ _ _ _ _ _ _ _ _ _ _ _ _ _ _ _ _ _ _ _ _ _ _ _ _ _ _ _ _ _ _ _ _ _ _ _ _ _ _ _ _ _ _ _ _ _ _ _ _ _ _ _ _ _ _ _ _ _ _ _ _ _ _ _ _ _ _ _ _ _ _ _ _ _ _ _ _ _ _ _ _ _ _ _ _ _ _ _ _ _ _ _ _ _ _ _ _ _ _ _ _ _ _ _ _
        · have e2:((y2:Int) != 1)=true:=by simp;omega
          have H2:=hid_of h2
          clear h2
          have HSF : Hid (sr = false) := (by rw [HSR.out]; simp [H2.out] : sr = false)
          go_upto_region 14 with(fail)
          go_quiet (fail)
          go_wp2
          exact bodyPost_ret (res_slide (set_block (set_block HQ2.out)) rfl rfl) rfl (HPN.out HSF.out _ ((below_drewN HWZ.out _).grown (st2_grown _ _ _ _ _) HWZ.out.size (fun q hq=>by have:=Option.some.inj hq;omega)))
      · have e1:((y1:Int) != 1)=true:=by simp;omega
        have H1:=hid_of h1
        clear h1
        have HSF : Hid (sr = false) := (by rw [HSR.out]; simp [H1.out] : sr = false)
        go_upto_region 14 with(fail)
        go_quiet (fail)
        go_wp2
        exact bodyPost_ret (res_slide (set_block (set_block HQ2.out)) rfl rfl) rfl (HPN.out HSF.out _ ((below_drewN HWZ.out _).grown (st2_grown _ _ _ _ _) HWZ.out.size (fun q hq=>by have:=Option.some.inj hq;omega)))
    · have e0:((y0:Int) != 1)=true:=by simp;omega
      have H0:=hid_of h0
      clear h0
      have HSF : Hid (sr = false) := (by rw [HSR.out]; simp [H0.out] : sr = false)
      go_upto_region 14 with(fail)
      go_quiet (fail)
      go_wp2
      exact bodyPost_ret (res_slide (set_block (set_block HQ2.out)) rfl rfl) rfl (HPN.out HSF.out _ ((below_drewN HWZ.out _).grown (st2_grown _ _ _ _ _) HWZ.out.size (fun q hq=>by have:=Option.some.inj hq;omega)))
end Go.Proofs.Ytagaajlbkfkaiaa
