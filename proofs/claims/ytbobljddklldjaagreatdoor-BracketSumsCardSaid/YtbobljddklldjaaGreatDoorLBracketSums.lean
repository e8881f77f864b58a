/- The law BracketSums: its walk. -/
import Derived.Test.YtbobljddklldjaaGreatDoorTkh
import Derived.Test.YtbobljddklldjaaGreatDoorKN1
import Derived.Test.YtbobljddklldjaaGreatDoorBS2P
import Derived.Test.YtbobljddklldjaaGreatDoorCyWP
import Derived.Test.YtbobljddklldjaaGreatDoorBV0P
import Derived.Test.YtbobljddklldjaaGreatDoorBKaP
import Derived.Test.YtbobljddklldjaaGreatDoorAL2P
namespace Go.Proofs.YtbobljddklldjaaGreatDoor
open Go.RowKit Go.Maps
set_option maxHeartbeats 8000000
set_option maxRecDepth 100000
theorem pickedW_any (x : Int) (n : Nat) (w : World) (hx : -9223372036854775808 ≤ x ∧ x ≤ 9223372036854775807) (h0 : 0 < n) (h1 : n ≤ 1000) :
    Calls Tryz.prog 7 #[.int .i64 x,.int .i64 (n:Nat)] w fun e w'=>∃ r:Nat,e=.returned (.int .i64 (r:Nat))/\r<n/\w'=w:=by
 have hz:((n:Int)==0)=false:=beq_eq_false_iff_ne.2 (by omega)
 by_cases hn:x<0
 · have hd:decide (x<0)=true:=decide_eq_true hn
   have e1:IntKind.i64.wrap (x+1)=x+1:=IntWalk.i64_in _ (by omega)
   have e2:IntKind.i64.wrap (-(x+1)) = -(x+1):=IntWalk.i64_in _ (by omega)
   obtain⟨q,hq⟩:∃ q:Nat,-(x+1)=(q:Int):=⟨(-(x+1)).toNat,by omega⟩
   have er:(q:Int).tmod (n:Int)=((q%n:Nat):Int):=rfl
   have hlt:=Nat.mod_lt q h0
   have e3:IntKind.i64.wrap ((q%n:Nat):Int)=((q%n:Nat):Int):=IntWalk.i64_in _ (by omega)
   go_enter Tryz.func7,Tryz.ntmps7
   go_wp2
   go_ret
   exact⟨q%n,by simp,hlt,rfl⟩
 · have hd:decide (x<0)=false:=decide_eq_false hn
   obtain⟨q,hq⟩:∃ q:Nat,x=(q:Int):=⟨x.toNat,by omega⟩
   subst hq
   have er:(q:Int).tmod (n:Int)=((q%n:Nat):Int):=rfl
   have hlt:=Nat.mod_lt q h0
   have e3:IntKind.i64.wrap ((q%n:Nat):Int)=((q%n:Nat):Int):=IntWalk.i64_in _ (by omega)
   go_enter Tryz.func7,Tryz.ntmps7
   go_wp2
   go_ret
   exact⟨q%n,by simp,hlt,rfl⟩
theorem below_st2W {B z:Nat} {w w':World} {a b:Value} (h:Below B w w') (hB:B<=w'.heap.size) (hz:B<=z):Below B w ((w'.setCell ⟨z,0,none⟩ a).setCell ⟨z,1,none⟩ b):=
 (h.grown (set_grown w' z 0 a) hB (fun k hk=>by have:=Option.some.inj hk;omega)).grown (set_grown _ z 1 b) (by simpa using hB) (fun k hk=>by have:=Option.some.inj hk;omega)
theorem crs_setW {W W2:World} {g:Nat} {c d:Value} {v:Value} {T:List Cr} (hT:W.heap[g]?=some (.cells #[c,d] 24 (0,0))) (hc:Crs W W.heap.size v T) (hg:W.grownBy W2 (some g)):Crs W2 W2.heap.size v T:=by
 obtain⟨a,cap,e,hl,hr⟩:=hc
 refine⟨a,cap,e,hl,fun h0=>?_⟩
 obtain⟨b,off,e1,hb,hx⟩:=hr h0
 have hne:b≠g:=fun q=>by
  have h5:=(hx 0 h0).2.2.2.2
  rw[q]at h5
  have h6:W.cell? ⟨g,off+0*5+4,none⟩=none:=by simp[World.cell?,hT]
  rw[h6]at h5
  cases h5
 have hk:W2.heap[b]?=W.heap[b]?:=hg.block b hb (fun q=>hne (Option.some.inj q))
 have hcell:∀ k,W2.cell? ⟨b,k,none⟩=W.cell? ⟨b,k,none⟩:=fun k=>by simp[World.cell?,hk]
 refine⟨b,off,e1,?_,fun i hi=>?_⟩
 · have hb2:b<W.heap.size:=hb
   have:W2.heap[b]?=some W.heap[b]:=by rw[hk];exact Array.getElem?_eq_getElem hb2
   exact(Array.getElem?_eq_some_iff.1 this).1
 · have h:=hx i hi
   simp only[hcell]
   exact h
theorem grown_transW {a b c:World} {r:Option Nat} (h1:a.grownBy b r) (h2:b.grownBy c r):a.grownBy c r:=
 ⟨h2.os.trans h1.os,h2.tape.trans h1.tape,h2.output.trans h1.output,Nat.le_trans h1.size h2.size,fun k hk hr=>(h2.block k (Nat.lt_of_lt_of_le hk h1.size) hr).trans (h1.block k hk hr)⟩
theorem crs_sliceW {W:World} {B:Nat} {v:Value} {C:List Cr} (h:Crs W B v C):∃ a c,v=.slice a C.length c:=by
 obtain⟨a,c,e,-,-⟩:=h
 exact⟨a,c,e⟩
theorem size_tieB {C D:List Cr} {x y l:Int} (h0:0<C.length) (h:C.length+D.length<=16) (hl0:0<=l) (hl1:l<=16):sizeB (tieC C D x y) l=true:=by
 have hl:=tie_len C D x y
 unfold sizeB
 rw[hl,decide_eq_true (show C.length+D.length<=16 by omega),decide_eq_true hl0,decide_eq_true hl1,decide_eq_false (show ¬ C.length+D.length=0 by omega)]
 rfl
theorem box2W {w V:World} {a x b y:Value} (h:(w.alloc (.cells #[a,x] 24)).alloc (.cells #[b,y] 24)=V):∀ W,Below V.heap.size V W->W.cell? ⟨w.heap.size,0,none⟩=some a/\W.cell? ⟨w.heap.size,1,none⟩=some x/\W.cell? ⟨w.heap.size+1,0,none⟩=some b/\W.cell? ⟨w.heap.size+1,1,none⟩=some y/\w.heap.size+1<W.heap.size:=fun W hW=>by
 have g0:V.heap[w.heap.size]?=some (.cells #[a,x] 24 (0,0)):=by rw[<-h];exact alloc_old (alloc_at rfl)
 have g1:V.heap[w.heap.size+1]?=some (.cells #[b,y] 24 (0,0)):=by rw[<-h];exact alloc_at (by simp)
 have k0:=(hW.block _ (Array.getElem?_eq_some_iff.1 g0).1).trans g0
 have k1:=(hW.block _ (Array.getElem?_eq_some_iff.1 g1).1).trans g1
 exact⟨block_cell k0 rfl,block_cell k0 rfl,block_cell k1 rfl,block_cell k1 rfl,(Array.getElem?_eq_some_iff.1 k1).1⟩
theorem crs_st2W' {W:World} {g n cap:Nat} {c d:Value} {a:Option Addr} {T:List Cr} {u:Value} (hT:W.heap[g]?=some (.cells #[c,d] 24 (0,0))) (hc:Crs W W.heap.size (.slice a n cap) T):Crs ((W.setCell ⟨g,0,none⟩ (.slice a n cap)).setCell ⟨g,1,none⟩ u) ((W.setCell ⟨g,0,none⟩ (.slice a n cap)).setCell ⟨g,1,none⟩ u).heap.size (.slice a n cap) T:=
 crs_setW hT hc (grown_transW (set_grown W g 0 (.slice a n cap)) (set_grown (W.setCell ⟨g,0,none⟩ (.slice a n cap)) g 1 u))
def BxW (U:World) (g:Nat) (a:Option Addr) (n c:Nat) (l:Int):Prop:=∀ W,Below U.heap.size U W->W.cell? ⟨g,0,none⟩=some (.slice a n c)/\W.cell? ⟨g,1,none⟩=some (.int .i64 l)/\g<W.heap.size
theorem bxW {U:World} {g n c:Nat} {a:Option Addr} {l:Int} (h:U.heap[g]?=some (.cells #[.slice a n c,.int .i64 l] 24 (0,0))):BxW U g a n c l:=fun W hW=>by
 have k:=(hW.block _ (Array.getElem?_eq_some_iff.1 h).1).trans h
 exact⟨block_cell k rfl,block_cell k rfl,(Array.getElem?_eq_some_iff.1 k).1⟩
theorem st_boxW {W:World} {g:Nat} {a b x y:Value} {cs:Array Value} (hc:cs=#[a,b]) (h:W.heap[g]?=some (.cells cs 24 (0,0))):((W.setCell ⟨g,0,none⟩ x).setCell ⟨g,1,none⟩ y).heap[g]?=some (.cells #[x,y] 24 (0,0)):=by
 subst hc
 exact set_block (i:=1) (u:=y) (set_block (i:=0) (u:=x) h)
theorem loops_nat {C:List Cr} {l:Int} (h:noN C l=0):∃ n:Nat,l=(n:Int):=by
 obtain⟨-,a,-,-⟩:=sizeB_iff (may_size (noN_zero h).1)
 exact⟨l.toNat,by omega⟩
theorem jones_out (v : Value) (C : List Cr) (l : Int) (w : World) (hn : ¬ noN C l = 0) (h : Crs w w.heap.size v C) :
    Calls Tryz.prog 5 #[.agg #[v,.int .i64 l]] w fun e w'=>∃ r:Int,e=.returned (.tuple #[.slice none 0 0,.int .i64 r])/\(r != 0)=true/\Below w.heap.size w w':=by
 have e:fewM C l=noN C l:=by unfold fewM;rw[if_neg (fun q=>hn q.1)]
 refine(Poly.jones_no faceRingsA v C l (noN C l) w hn e h).mono fun e w' ⟨he,hb⟩=>⟨_,he,?_,hb⟩
 simpa using hn
theorem bracketSums_any (v1 v2 : Value) (C D : List Cr) (l1 l2 x y : Int) (w : World) (hx : -9223372036854775808 ≤ x ∧ x ≤ 9223372036854775807) (hy : -9223372036854775808 ≤ y ∧ y ≤ 9223372036854775807) (h1 : Crs w w.heap.size v1 C) (h2 : Crs w w.heap.size v2 D) (hR : Poly.RingAt w) (hSZ : C.length ≤ 1152921504606846976 ∧ D.length ≤ 1152921504606846976) :
    Calls Tryz.prog 3 #[.agg #[v1,.int .i64 l1],.int .i64 x,.agg #[v2,.int .i64 l2],.int .i64 y] w fun e w'=>e=.returned (.bool true)/\Below w.heap.size w w':=by
 obtain⟨a1,c1,rfl⟩:=crs_sliceW h1
 obtain⟨a2,c2,rfl⟩:=crs_sliceW h2
 obtain⟨n1,hN1⟩:∃ n,C.length=n:=⟨_,rfl⟩
 obtain⟨n2,hN2⟩:∃ n,D.length=n:=⟨_,rfl⟩
 rw[hN1]at h1 hSZ ⊢
 rw[hN2]at h2 hSZ ⊢
 have HN1:=hidS hN1
 have HN2:=hidS hN2
 clear hN1 hN2
 obtain⟨X,hX⟩:∃ X,(w.alloc (.cells #[.slice a1 n1 c1,.int .i64 l1] 24)).alloc (.cells #[.slice a2 n2 c2,.int .i64 l2] 24)=X:=⟨_,rfl⟩
 have hBX:Below w.heap.size w X:=by rw[<-hX];exact below2 _ _ _
 have HF:=hidS (box2W hX)
 have HBX:=hidS hBX
 have HC1:=hidS (fun(W:World) (hW:Below X.heap.size X W)=>(h1.up hBX).up hW)
 have HC2:=hidS (fun(W:World) (hW:Below X.heap.size X W)=>(h2.up hBX).up hW)
 have HRG:=hidS (fun(W:World) (hW:Below X.heap.size X W)=>(hR.any hBX).any hW)
 have HKN:=hidS (fun W hr=>knows_any W hr)
 have HXX:=hidS hX
 have HXR:=hidS hx
 have HYR:=hidS hy
 clear h1 h2 hR hX hBX hx hy
 obtain⟨m,hm⟩:∃ m,IntKind.i64.wrap (l1+l2)=m:=⟨_,rfl⟩
 have HWM:=hidS hm
 go_enter Tryz.func3,Tryz.ntmps3
 go_upto_region 3 with(go_at_call 4;rw[HXX.out];refine(HKN.out _ (HRG.out _ (Below.refl _ _))).mono ?_;rintro e9 w1 ⟨rfl,hb1⟩)
 have H1:Hid (Below X.heap.size X w1):=hb1
 have HE1:Hid (Below w.heap.size w w1):=HBX.out.trans (H1.out.mono HBX.out.size)
 clear hb1
 obtain⟨p0,p1,p2,p3,p4⟩:=HF.out w1 H1.out
 have hadd:IntKind.i64.wrap ((n1:Int)+(n2:Int))=(n1:Int)+(n2:Int):=IntWalk.i64_in _ (by omega)
 by_cases z1:n1=0
 · have z1b:((n1:Int)==0)=true:=by simpa using z1
   subst z1
   go_wp2
   go_ret
   exact⟨by first|rfl|simp,HE1.out⟩
 have z1b:((n1:Int)==0)=false:=beq_eq_false_iff_ne.2 (by omega)
 by_cases z2:n2=0
 · have z2b:((n2:Int)==0)=true:=by simpa using z2
   subst z2
   go_wp2
   go_ret
   exact⟨by first|rfl|simp,HE1.out⟩
 have z2b:((n2:Int)==0)=false:=beq_eq_false_iff_ne.2 (by omega)
 by_cases q3:10<n1+n2
 · have hgt2:decide (10<(n1:Int)+(n2:Int))=true:=decide_eq_true (by omega)
   go_wp2
   go_ret
   exact⟨by first|rfl|simp,HE1.out⟩
 have hgt2:decide (10<(n1:Int)+(n2:Int))=false:=decide_eq_false (by omega)
 by_cases q4:4<m
 · have hgt3:decide (4<m)=true:=decide_eq_true (by omega)
   go_wp2
   go_ret
   exact⟨by first|rfl|simp,HE1.out⟩
 have hgt3:decide (4<m)=false:=decide_eq_false (by omega)
 by_cases q1:¬ noN C l1=0
 · have HJ1:=hidS (fun W h=>jones_out (.slice a1 n1 c1) C l1 W q1 h)
   go_upto_region 6 with(go_at_call 5;refine(HJ1.out _ (HC1.out _ H1.out)).mono ?_;rintro e9 w2 ⟨r1,rfl,hr1,hb2⟩)
   have H2:Hid (Below X.heap.size X w2):=H1.out.trans (hb2.mono H1.out.size)
   clear hb2 p0 p1 p2 p3 p4 HJ1 z1b z2b hgt2 hgt3 hadd hm
   obtain⟨p0,p1,p2,p3,p4⟩:=HF.out w2 H2.out
   have HJ2:Hid (∀ W,Crs W W.heap.size (.slice a2 n2 c2) D->Poly.RingAt W->Calls Tryz.prog 5 #[.agg #[.slice a2 n2 c2,.int .i64 l2]] W fun e w'=>∃ (v:Value) (r:Int),e=.returned (.tuple #[v,.int .i64 r])/\Below W.heap.size W w'):=fun W h hr=>by
    by_cases q2:noN D l2=0
    · obtain⟨lo2,e2⟩:=loops_nat q2
      exact(Poly.jones_yes faceRingsA _ D l2 lo2 W e2 q2 (by have:=HN2.out;omega) h hr).mono fun e w' ⟨v,l,he,_,_,hb⟩=>⟨v,0,he,hb⟩
    · exact(jones_out _ D l2 W q2 h).mono fun e w' ⟨r,he,_,hb⟩=>⟨_,r,he,hb⟩
   go_upto_region 7 with(go_at_call 5;refine(HJ2.out _ (HC2.out _ H2.out) (HRG.out _ H2.out)).mono ?_;rintro e9 w3 ⟨v3,r2,rfl,hb3⟩)
   have HE3:Hid (Below w.heap.size w w3):=(HBX.out.trans (H2.out.mono HBX.out.size)).trans (hb3.mono (HBX.out.trans (H2.out.mono HBX.out.size)).size)
   clear hb3
   go_wp2
   go_ret
   exact⟨by first|rfl|simp,HE3.out⟩
 have q1:=Classical.not_not.1 q1
 obtain⟨lo1,el1⟩:=loops_nat q1
 have HL1:=hidS el1
 have HJ1:=hidS (fun W h hr=>Poly.jones_yes faceRingsA (.slice a1 n1 c1) C l1 lo1 W el1 q1 (by have:=HN1.out;omega) h hr)
 clear el1
 go_upto_region 6 with(go_at_call 5;refine(HJ1.out _ (HC1.out _ H1.out) (HRG.out _ H1.out)).mono ?_;rintro e9 w2 ⟨vp,lp,rfl,hpp,hcp,hb2⟩)
 have H2:Hid (Below X.heap.size X w2):=H1.out.trans (hb2.mono H1.out.size)
 have HPP:=hidS hpp
 have HCP:=hidS hcp
 clear hb2 p0 p1 p2 p3 p4 HJ1 hpp hcp z1b z2b hgt2 hgt3 hadd hm
 obtain⟨p0,p1,p2,p3,p4⟩:=HF.out w2 H2.out
 by_cases q2:¬ noN D l2=0
 · have HJ2:=hidS (fun W h=>jones_out (.slice a2 n2 c2) D l2 W q2 h)
   go_upto_region 7 with(go_at_call 5;refine(HJ2.out _ (HC2.out _ H2.out)).mono ?_;rintro e9 w3 ⟨r2,rfl,hr2,hb3⟩)
   have HE3:Hid (Below w.heap.size w w3):=(HBX.out.trans (H2.out.mono HBX.out.size)).trans (hb3.mono (HBX.out.trans (H2.out.mono HBX.out.size)).size)
   clear hb3
   go_wp2
   go_ret
   exact⟨by first|rfl|simp,HE3.out⟩
 have q2:=Classical.not_not.1 q2
 obtain⟨lo2,el2⟩:=loops_nat q2
 have HL2:=hidS el2
 have HJ2:=hidS (fun W h hr=>Poly.jones_yes faceRingsA (.slice a2 n2 c2) D l2 lo2 W el2 q2 (by have:=HN2.out;omega) h hr)
 clear el2
 go_upto_region 7 with(go_at_call 5;refine(HJ2.out _ (HC2.out _ H2.out) (HRG.out _ H2.out)).mono ?_;rintro e9 w3 ⟨vq,lq,rfl,hpq,hcq,hb3⟩)
 have H3:Hid (Below X.heap.size X w3):=H2.out.trans (hb3.mono H2.out.size)
 have HPP3:Hid (∀ W,Below w3.heap.size w3 W->Poly.PolyC W W.heap.size vp lp):=fun W hW=>(HPP.out.up hb3).up hW
 have HPQ3:Hid (∀ W,Below w3.heap.size w3 W->Poly.PolyC W W.heap.size vq lq):=fun W hW=>hpq.up hW
 have HCQ:=hidS hcq
 clear hb3 p0 p1 p2 p3 p4 HJ2 hpq hcq HPP
 obtain⟨p0,p1,p2,p3,p4⟩:=HF.out w3 H3.out
 obtain⟨m1,f1⟩:=noN_zero q1
 obtain⟨m2,f2⟩:=noN_zero q2
 have HM1:=hidS m1
 have HM2:=hidS m2
 have HF1:=hidS f1
 have HF2:=hidS f2
 have HLO:Hid (m=l1+l2/\0<=l1/\0<=l2/\l1+l2<=4):=by
  obtain⟨-,s1,s2,-⟩:=sizeB_iff (may_size m1)
  obtain⟨-,s3,s4,-⟩:=sizeB_iff (may_size m2)
  have h:=HWM.out
  rw[IntWalk.i64_in _ (by omega)]at h
  exact(⟨h.symm,s1,s3,by omega⟩:m=l1+l2/\0<=l1/\0<=l2/\l1+l2<=4)
 clear m1 m2 f1 f2 q1 q2 HWM
 obtain⟨d1,hd1⟩:∃ d,d=2*n1:=⟨_,rfl⟩
 obtain⟨d2,hd2⟩:∃ d,d=2*n2:=⟨_,rfl⟩
 obtain⟨l3,hl3⟩:∃ l,l=l1+l2:=⟨_,rfl⟩
 have HD1:=hidS hd1
 have HD2:=hidS hd2
 have HL3:=hidS hl3
 have hdb:IntKind.i64.wrap (2*(n1:Int))=(d1:Int):=by rw[IntWalk.i64_in _ (by omega)];omega
 have hdb2:IntKind.i64.wrap (2*(n2:Int))=(d2:Int):=by rw[IntWalk.i64_in _ (by omega)];omega
 have hdr:d1<=20/\d2<=20/\0<d1/\0<d2:=⟨by omega,by omega,by omega,by omega⟩
 clear hd1 hd2 hl3
 have HD:Hid (Below w3.heap.size w3 w3.drew):=below_drewN (Below.refl _ _) 1
 have HKP:Hid (∀ W,Below w3.heap.size w3 W->W.cell? ⟨w.heap.size,0,none⟩=some (.slice a1 n1 c1)/\W.cell? ⟨w.heap.size,1,none⟩=some (.int .i64 l1)/\W.cell? ⟨w.heap.size+1,0,none⟩=some (.slice a2 n2 c2)/\W.cell? ⟨w.heap.size+1,1,none⟩=some (.int .i64 l2)):=fun W hW=>by
  obtain⟨k0,k1,k2,k3,-⟩:=HF.out W (H3.out.trans (hW.mono H3.out.size))
  exact⟨k0,k1,k2,k3⟩
 have HPX:Hid (∀ W,Calls Tryz.prog 7 #[.int .i64 x,.int .i64 (d1:Int)] W fun e w'=>∃ r:Nat,e=.returned (.int .i64 (r:Nat))/\r<d1/\w'=W):=fun W=>pickedW_any x d1 W HXR.out (by omega) (by omega)
 have HPY:Hid (∀ W,Calls Tryz.prog 7 #[.int .i64 y,.int .i64 (d2:Int)] W fun e w'=>∃ r:Nat,e=.returned (.int .i64 (r:Nat))/\r<d2/\w'=W):=fun W=>pickedW_any y d2 W HYR.out (by omega) (by omega)
 have HSU:Hid (∀ (k1 k2:Nat) (W:World),k1<d1->k2<d2->Below w3.heap.size w3 W->Calls Tryz.prog 6 #[.agg #[.slice a1 n1 c1,.int .i64 l1],.int .i64 ((k1+1:Nat):Int),.agg #[.slice a2 n2 c2,.int .i64 l2],.int .i64 ((k2+1:Nat):Int)] W fun e w'=>∃ (a16:Option Addr) (cap16 n16:Nat) (T:List Cr),e=.returned (.tuple #[.agg #[.slice a16 n16 cap16,.int .i64 l3],.int .i64 0])/\Hid (n16=T.length)/\Hid (T=tieC C D ((k1+1:Nat):Int) ((k2+1:Nat):Int))/\Crs w' w'.heap.size (.slice a16 n16 cap16) T/\Below W.heap.size W w'):=fun k1 k2 W h1 h2 hW=>by
  have e1:=HN1.out
  have e2:=HN2.out
  have e3:=HD1.out
  have e4:=HD2.out
  have e5:=HLO.out
  refine(sum_ok _ _ C D l1 l2 _ _ W (HC1.out W (H3.out.trans (hW.mono H3.out.size))) (HC2.out W (H3.out.trans (hW.mono H3.out.size))) HM1.out HM2.out (by unfold hasB;simp;omega) (by unfold hasB;simp;omega) (by omega) (by omega)).mono ?_
  rintro e w' ⟨r,rfl,hc,hb⟩
  obtain⟨a16,cap16,e16⟩:=crs_sliceW hc
  subst e16
  exact⟨a16,cap16,_,_,by rw[HL3.out],rfl,rfl,hc,hb⟩
 have HTL:Hid (∀ (k1 k2:Nat) (T:List Cr),k1<d1->k2<d2->T=tieC C D ((k1+1:Nat):Int) ((k2+1:Nat):Int)->noN T l3=0/\T.length<=12/\l3=((lo1+lo2:Nat):Int)/\(fun z=>Poly.prodL lp (Poly.coefL lq) z)=Poly.jnF T (lo1+lo2)):=fun k1 k2 T h1 h2 e=>by
  subst e
  have e1:=HN1.out
  have e2:=HN2.out
  have e3:=HD1.out
  have e4:=HD2.out
  have e5:=HLO.out
  have e6:=HL1.out
  have e7:=HL2.out
  have e8:=HL3.out
  have hT:=tie_may (l:=l3) HM1.out HM2.out (x:=k1+1) (y:=k2+1) (by omega) (by omega) (by omega) (by omega) (size_tieB (by omega) (by omega) (by omega) (by omega))
  refine⟨?_,by rw[tie_len];omega,by omega,funext fun z=>jn_tie HM1.out HM2.out (by omega) (by omega) (by omega) (by omega) (by omega) lo1 lo2 HCP.out HCQ.out z⟩
  unfold noN
  rw[if_pos hT,if_pos (tie_plane HM1.out HM2.out (by omega) (by omega) (by omega) (by omega) hT HF1.out HF2.out)]
 have HMP:Hid (Poly.mayB lp=true):=by
  have e1:=HN1.out
  have e5:=HLO.out
  have e6:=HL1.out
  have e7:=HL2.out
  exact(jn_may (by rw[<-e6];exact HM1.out) (by omega) (by omega) (by omega) HCP.out:Poly.mayB lp=true)
 have HMQ:Hid (Poly.mayB lq=true):=by
  have e1:=HN2.out
  have e5:=HLO.out
  have e6:=HL1.out
  have e7:=HL2.out
  exact(jn_may (by rw[<-e7];exact HM2.out) (by omega) (by omega) (by omega) HCQ.out:Poly.mayB lq=true)
 clear HXR HYR HXX HKN HM1 HM2 HF1 HF2 HCP HCQ HL1 HL2 HLO HN1 HN2 HD1 HD2 HL3
 go_wp2
 refine wp_region_held_drew (S:=fun w'=>w'.cell? ⟨w.heap.size,0,none⟩=some (.slice a1 n1 c1)/\w'.cell? ⟨w.heap.size,1,none⟩=some (.int .i64 l1)/\w'.cell? ⟨w.heap.size+1,0,none⟩=some (.slice a2 n2 c2)/\w'.cell? ⟨w.heap.size+1,1,none⟩=some (.int .i64 l2)) (by kernel_rfl) (HKP.out _ HD.out) (fun hHeld=>?_)
 refine tk 0 (h:=?_)
 refine tk 1 (h:=?_)
 refine tk 2 (h:=?_)
 refine tk 3 (h:=?_)
 refine tk 4 (h:=?_)
 refine tk 5 (h:=?_)
 refine tk 8 (h:=?_)
 refine tk 9 (h:=?_)
 refine tk 10 (h:=?_)
 try simp only[List.getElem_toArray,List.getElem_cons_succ,List.getElem_cons_zero]
 refine tk 11 (h:=?_)
 try simp only[List.getElem_toArray,List.getElem_cons_succ,List.getElem_cons_zero]
 refine tk 12 (h:=?_)
 try simp only[List.getElem_toArray,List.getElem_cons_succ,List.getElem_cons_zero]
 refine tk 13 (h:=?_)
 try simp only[List.getElem_toArray,List.getElem_cons_succ,List.getElem_cons_zero]
 try simp only[Act.put]
 refine wpAnyH_ready (rs:=[6,20]) (by kernel_rfl) (by simp) ?_
 refine AllReadyH.cons (i:=6) (rs:=[20]) rfl (fun K hK=>?_) (AllReadyH.cons (i:=20) (rs:=[]) rfl (fun K hK=>?_) AllReadyH.nil)
 · go_simp
   go_wp2_with (go_at_call 7;refine(HPX.out _).mono ?_;rintro e9 w14 ⟨k1,rfl,hk1,e99⟩;obtain rfl:=e99.symm;clear e99)
   refine hK.out _ _ (HKP.out _ HD.out) (fun hHeld=>?_)
   clear hK K
   try simp only[Act.put]
   have hd1:IntKind.i64.wrap (1+(k1:Int))=((k1+1:Nat):Int):=(by rw[IntWalk.i64_in _ (by omega)];omega)
   refine tk 7 (h:=?_)
   try simp only[Act.put]
   refine wpAnyH_ready (rs:=[14,20]) (by kernel_rfl) (by simp) ?_
   refine AllReadyH.cons (i:=14) (rs:=[20]) rfl (fun K hK=>?_) (AllReadyH.cons (i:=20) (rs:=[]) rfl (fun K hK=>?_) AllReadyH.nil)
   · go_simp
     go_wp2_with (go_at_call 7;refine(HPY.out _).mono ?_;rintro e9 w15 ⟨k2,rfl,hk2,e99⟩;obtain rfl:=e99.symm;clear e99)
     refine hK.out _ _ (HKP.out _ HD.out) (fun hHeld=>?_)
     clear hK K
     try simp only[Act.put]
     have hd2:IntKind.i64.wrap (1+(k2:Int))=((k2+1:Nat):Int):=(by rw[IntWalk.i64_in _ (by omega)];omega)
     refine tk 15 (h:=?_)
     try simp only[List.getElem_toArray,List.getElem_cons_succ,List.getElem_cons_zero]
     try simp only[Act.put]
     refine wpAnyH_ready (rs:=[16,20]) (by kernel_rfl) (by simp) ?_
     refine AllReadyH.cons (i:=16) (rs:=[20]) rfl (fun K hK=>?_) (AllReadyH.cons (i:=20) (rs:=[]) rfl (fun K hK=>?_) AllReadyH.nil)
     · go_simp
       go_wp2_with (go_at_call 6;refine(HSU.out k1 k2 _ hk1 hk2 HD.out).mono ?_;rintro e9 w16 ⟨a16,cap16,n16,T,rfl,HNT,HTT,hc16,hb16⟩)
       have HB16:Hid (Below w3.heap.size w3 w16):=HD.out.trans (hb16.mono HD.out.size)
       have HC16:Hid (Crs w16 w16.heap.size (.slice a16 n16 cap16) T):=hc16
       clear hc16 hb16
       refine hK.out _ _ (HKP.out _ HB16.out) (fun hHeld=>?_)
       clear hK K
       refine tk 17 (h:=?_)
       try simp only[List.getElem_toArray,List.getElem_cons_succ,List.getElem_cons_zero]
       refine tk 18 (h:=?_)
       try simp only[List.getElem_toArray,List.getElem_cons_succ,List.getElem_cons_zero]
       refine tk 19 (h:=?_)
       try simp only[List.getElem_toArray,List.getElem_cons_succ,List.getElem_cons_zero]
       try simp only[Act.put]
       refine rd1 20 (fun K hK=>?_)
       go_simp
       have HBA:Hid (Below w3.heap.size w3 (w16.alloc (.cells #[.slice none 0 0,.int .i64 0] 24))):=HB16.out.alloc HB16.out.size _
       refine hK.out _ _ (HKP.out _ HBA.out) (fun hHeld=>?_)
       clear hK K
       try simp only[Act.put]
       have HBS:Hid (Below w3.heap.size w3 (w16.alloc (.cells #[.slice a16 n16 cap16,.int .i64 l3] 24))):=HB16.out.alloc HB16.out.size _
       refine rd1 21 (fun K hK=>?_)
       go_simp
       refine hK.out _ _ (HKP.out _ HBS.out) (fun hHeld=>?_)
       clear hK K
       refine tk 22 (h:=?_)
       try simp only[List.getElem_toArray,List.getElem_cons_succ,List.getElem_cons_zero]
       try simp only[Act.put]
       refine wpAnyH_done (by kernel_rfl) ?_ _
       try simp only[Act.put]
       obtain⟨U,hU⟩:∃ U,U=(w16.alloc (.cells #[.slice a16 n16 cap16,.int .i64 l3] 24)):=⟨_,rfl⟩
       have HTU:Hid (U.heap[w16.heap.size]?=some (.cells #[.slice a16 n16 cap16,.int .i64 l3] 24 (0,0))):=(by rw[hU];exact alloc_at rfl:U.heap[w16.heap.size]?=_)
       have HCU:Hid (Crs U U.heap.size (.slice a16 n16 cap16) T):=(by rw[hU];exact HC16.out.up ((Below.refl _ _).alloc (Nat.le_refl _) _):Crs U U.heap.size (.slice a16 n16 cap16) T)
       have HBU:Hid (Below w3.heap.size w3 U):=(by rw[hU];exact HBS.out:Below w3.heap.size w3 U)
       rw[<-hU]
       clear hU HBS HBA HB16 HC16
       clear hHeld
       have HGT:Hid (BxW U w16.heap.size a16 n16 cap16 l3):=bxW HTU.out
       have HCT:Hid (∀ W,Below U.heap.size U W->Crs W W.heap.size (.slice a16 n16 cap16) T):=fun W hW=>(HCU.out.up hW)
       have HFU:Hid (Below w3.heap.size w3 U):=HBU.out
       have HFX:Hid (Below X.heap.size X U):=H3.out.trans (HFU.out.mono H3.out.size)
       have HFN:Hid (Below w.heap.size w U):=HBX.out.trans (HFX.out.mono HBX.out.size)
       obtain⟨u1,u2,u3,u4⟩:=HTL.out k1 k2 T hk1 hk2 HTT.out
       have HJT:=hidS (fun W h hr=>Poly.jones_yes faceRingsA (.slice a16 n16 cap16) T l3 (lo1+lo2) W u3 u1 u2 h hr)
       have HU4:=hidS u4
       clear HTU HKP HD HPX HPY HSU p0 p1 p2 p3 p4 u1 u2 u3 u4 HTT HTL HBU HCU hk1 hk2 hdb hdb2 HNT
       obtain⟨t0,t3,t4⟩:=HGT.out U (Below.refl _ _)
       go_upto_region 11 with(go_at_call 5;refine(HJT.out _ (HCT.out _ (Below.refl _ _)) (HRG.out _ HFX.out)).mono ?_;rintro e9 w17 ⟨vr,lr,rfl,hpr,hcr,hb17⟩)
       have K1:Hid (Below U.heap.size U w17):=hb17
       have HPR:=hidS hpr
       have HCR:=hidS hcr
       clear hb17 t0 t3 t4 hpr hcr HJT
       have K13:Hid (Below w3.heap.size w3 w17):=HFU.out.trans (K1.out.mono HFU.out.size)
       have HML:=hidS (Poly.mul_yes vp vq lp lq w17 HMP.out HMQ.out (HPP3.out w17 K13.out).1 (HPQ3.out w17 K13.out).1)
       go_upto_region 12 with(go_at_call 8;refine HML.out.mono ?_;rintro e9 w18 ⟨vt,lt,rfl,hrow,hct,hlt,hb18⟩)
       have K2:Hid (Below w.heap.size w w18):=(HFN.out.trans (K1.out.mono HFN.out.size)).trans (hb18.mono (HFN.out.trans (K1.out.mono HFN.out.size)).size)
       have HEQ:Hid (lr=lt):=Poly.canon_unique HCR.out (HU4.out▸hct)
       have HSM:=hidS (Poly.same_polyK vr vt lr lt w18 (by rw[HEQ.out];unfold maxLen;omega) (HPR.out.up hb18).1 (Poly.PolyC.ofRow hrow).1)
       rw[decide_eq_true HEQ.out]at HSM
       clear hrow hct hlt hb18 HML
       go_wp2_with (go_at_call 9;refine HSM.out.mono ?_;rintro e9 w19 ⟨rfl,hb19⟩)
       have K4:Hid (Below w.heap.size w w19):=K2.out.trans (hb19.mono K2.out.size)
       clear hb19
       go_ret
       exact⟨by first|rfl|simp,K4.out⟩
     · go_simp
       have HBA:Hid (Below w3.heap.size w3 (w3.drew.alloc (.cells #[.slice none 0 0,.int .i64 0] 24))):=HD.out.alloc (Nat.le_refl _) _
       have HTA:Hid ((w3.drew.alloc (.cells #[.slice none 0 0,.int .i64 0] 24)).heap[w3.drew.heap.size]?=some (.cells #[.slice none 0 0,.int .i64 0] 24 (0,0))):=alloc_at rfl
       refine hK.out _ _ (HKP.out _ HBA.out) (fun hHeld=>?_)
       clear hK K
       try simp only[Act.put]
       refine rd1 16 (fun K hK=>?_)
       go_simp
       go_wp2_with (go_at_call 6;refine(HSU.out k1 k2 _ hk1 hk2 HBA.out).mono ?_;rintro e9 w16 ⟨a16,cap16,n16,T,rfl,HNT,HTT,hc16,hb16⟩)
       have HB16:Hid (Below w3.heap.size w3 w16):=HBA.out.trans (hb16.mono HBA.out.size)
       have HC16:Hid (Crs w16 w16.heap.size (.slice a16 n16 cap16) T):=hc16
       have HB16V:Hid (Below ((w3.drew.alloc (.cells #[.slice none 0 0,.int .i64 0] 24))).heap.size ((w3.drew.alloc (.cells #[.slice none 0 0,.int .i64 0] 24))) w16):=hb16
       clear hc16 hb16
       refine hK.out _ _ (HKP.out _ HB16.out) (fun hHeld=>?_)
       clear hK K
       refine tk 17 (h:=?_)
       try simp only[List.getElem_toArray,List.getElem_cons_succ,List.getElem_cons_zero]
       refine tk 18 (h:=?_)
       try simp only[List.getElem_toArray,List.getElem_cons_succ,List.getElem_cons_zero]
       refine tk 19 (h:=?_)
       try simp only[List.getElem_toArray,List.getElem_cons_succ,List.getElem_cons_zero]
       try simp only[Act.put]
       have HT16:Hid (w16.heap[w3.heap.size]?=some (.cells #[.slice none 0 0,.int .i64 0] 24 (0,0))):=(HB16V.out.block _ (Array.getElem?_eq_some_iff.1 HTA.out).1).trans HTA.out
       have y0:w16.cell? ⟨w3.heap.size,0,none⟩=some (.slice none 0 0):=block_cell HT16.out rfl
       have y1:w16.cell? ⟨w3.heap.size,1,none⟩=some (.int .i64 0):=block_cell HT16.out rfl
       have y2:w3.heap.size<w16.heap.size:=(Array.getElem?_eq_some_iff.1 HT16.out).1
       have y3:w16.frozen? ⟨w3.heap.size,0,none⟩=false:=block_frozen HT16.out
       have y4:w16.frozen? ⟨w3.heap.size,1,none⟩=false:=block_frozen HT16.out
       have HBS:Hid (Below w3.heap.size w3 ((w16.setCell ⟨w3.heap.size,0,none⟩ (.slice a16 n16 cap16)).setCell ⟨w3.heap.size,1,none⟩ (.int .i64 l3))):=below_st2W HB16.out HB16.out.size (Nat.le_refl _)
       refine rd1 21 (fun K hK=>?_)
       go_simp
       refine hK.out _ _ (HKP.out _ HBS.out) (fun hHeld=>?_)
       clear hK K y0 y1 y2 y3 y4
       refine tk 22 (h:=?_)
       try simp only[List.getElem_toArray,List.getElem_cons_succ,List.getElem_cons_zero]
       try simp only[Act.put]
       refine wpAnyH_done (by kernel_rfl) ?_ _
       try simp only[Act.put]
       obtain⟨U,hU⟩:∃ U,U=((w16.setCell ⟨w3.heap.size,0,none⟩ (.slice a16 n16 cap16)).setCell ⟨w3.heap.size,1,none⟩ (.int .i64 l3)):=⟨_,rfl⟩
       have HTU:Hid (U.heap[w3.heap.size]?=some (.cells #[.slice a16 n16 cap16,.int .i64 l3] 24 (0,0))):=(by rw[hU];exact st_boxW rfl HT16.out:U.heap[w3.heap.size]?=_)
       have HCU:Hid (Crs U U.heap.size (.slice a16 n16 cap16) T):=(by rw[hU];exact crs_st2W' HT16.out HC16.out:Crs U U.heap.size (.slice a16 n16 cap16) T)
       have HBU:Hid (Below w3.heap.size w3 U):=(by rw[hU];exact HBS.out:Below w3.heap.size w3 U)
       rw[<-hU]
       clear hU HBS HBA HTA HB16 HB16V HT16 HC16
       clear hHeld
       have HGT:Hid (BxW U w3.heap.size a16 n16 cap16 l3):=bxW HTU.out
       have HCT:Hid (∀ W,Below U.heap.size U W->Crs W W.heap.size (.slice a16 n16 cap16) T):=fun W hW=>(HCU.out.up hW)
       have HFU:Hid (Below w3.heap.size w3 U):=HBU.out
       have HFX:Hid (Below X.heap.size X U):=H3.out.trans (HFU.out.mono H3.out.size)
       have HFN:Hid (Below w.heap.size w U):=HBX.out.trans (HFX.out.mono HBX.out.size)
       obtain⟨u1,u2,u3,u4⟩:=HTL.out k1 k2 T hk1 hk2 HTT.out
       have HJT:=hidS (fun W h hr=>Poly.jones_yes faceRingsA (.slice a16 n16 cap16) T l3 (lo1+lo2) W u3 u1 u2 h hr)
       have HU4:=hidS u4
       clear HTU HKP HD HPX HPY HSU p0 p1 p2 p3 p4 u1 u2 u3 u4 HTT HTL HBU HCU hk1 hk2 hdb hdb2 HNT
       obtain⟨t0,t3,t4⟩:=HGT.out U (Below.refl _ _)
       go_upto_region 11 with(go_at_call 5;refine(HJT.out _ (HCT.out _ (Below.refl _ _)) (HRG.out _ HFX.out)).mono ?_;rintro e9 w17 ⟨vr,lr,rfl,hpr,hcr,hb17⟩)
       have K1:Hid (Below U.heap.size U w17):=hb17
       have HPR:=hidS hpr
       have HCR:=hidS hcr
       clear hb17 t0 t3 t4 hpr hcr HJT
       have K13:Hid (Below w3.heap.size w3 w17):=HFU.out.trans (K1.out.mono HFU.out.size)
       have HML:=hidS (Poly.mul_yes vp vq lp lq w17 HMP.out HMQ.out (HPP3.out w17 K13.out).1 (HPQ3.out w17 K13.out).1)
       go_upto_region 12 with(go_at_call 8;refine HML.out.mono ?_;rintro e9 w18 ⟨vt,lt,rfl,hrow,hct,hlt,hb18⟩)
       have K2:Hid (Below w.heap.size w w18):=(HFN.out.trans (K1.out.mono HFN.out.size)).trans (hb18.mono (HFN.out.trans (K1.out.mono HFN.out.size)).size)
       have HEQ:Hid (lr=lt):=Poly.canon_unique HCR.out (HU4.out▸hct)
       have HSM:=hidS (Poly.same_polyK vr vt lr lt w18 (by rw[HEQ.out];unfold maxLen;omega) (HPR.out.up hb18).1 (Poly.PolyC.ofRow hrow).1)
       rw[decide_eq_true HEQ.out]at HSM
       clear hrow hct hlt hb18 HML
       go_wp2_with (go_at_call 9;refine HSM.out.mono ?_;rintro e9 w19 ⟨rfl,hb19⟩)
       have K4:Hid (Below w.heap.size w w19):=K2.out.trans (hb19.mono K2.out.size)
       clear hb19
       go_ret
       exact⟨by first|rfl|simp,K4.out⟩
   · go_simp
     have HBA:Hid (Below w3.heap.size w3 (w3.drew.alloc (.cells #[.slice none 0 0,.int .i64 0] 24))):=HD.out.alloc (Nat.le_refl _) _
     have HTA:Hid ((w3.drew.alloc (.cells #[.slice none 0 0,.int .i64 0] 24)).heap[w3.drew.heap.size]?=some (.cells #[.slice none 0 0,.int .i64 0] 24 (0,0))):=alloc_at rfl
     refine hK.out _ _ (HKP.out _ HBA.out) (fun hHeld=>?_)
     clear hK K
     try simp only[Act.put]
     refine rd1 14 (fun K hK=>?_)
     go_simp
     go_wp2_with (go_at_call 7;refine(HPY.out _).mono ?_;rintro e9 w15 ⟨k2,rfl,hk2,e99⟩;obtain rfl:=e99.symm;clear e99)
     refine hK.out _ _ (HKP.out _ HBA.out) (fun hHeld=>?_)
     clear hK K
     try simp only[Act.put]
     have hd2:IntKind.i64.wrap (1+(k2:Int))=((k2+1:Nat):Int):=(by rw[IntWalk.i64_in _ (by omega)];omega)
     refine tk 15 (h:=?_)
     try simp only[List.getElem_toArray,List.getElem_cons_succ,List.getElem_cons_zero]
     try simp only[Act.put]
     refine rd1 16 (fun K hK=>?_)
     go_simp
     go_wp2_with (go_at_call 6;refine(HSU.out k1 k2 _ hk1 hk2 HBA.out).mono ?_;rintro e9 w16 ⟨a16,cap16,n16,T,rfl,HNT,HTT,hc16,hb16⟩)
     have HB16:Hid (Below w3.heap.size w3 w16):=HBA.out.trans (hb16.mono HBA.out.size)
     have HC16:Hid (Crs w16 w16.heap.size (.slice a16 n16 cap16) T):=hc16
     have HB16V:Hid (Below ((w3.drew.alloc (.cells #[.slice none 0 0,.int .i64 0] 24))).heap.size ((w3.drew.alloc (.cells #[.slice none 0 0,.int .i64 0] 24))) w16):=hb16
     clear hc16 hb16
     refine hK.out _ _ (HKP.out _ HB16.out) (fun hHeld=>?_)
     clear hK K
     refine tk 17 (h:=?_)
     try simp only[List.getElem_toArray,List.getElem_cons_succ,List.getElem_cons_zero]
     refine tk 18 (h:=?_)
     try simp only[List.getElem_toArray,List.getElem_cons_succ,List.getElem_cons_zero]
     refine tk 19 (h:=?_)
     try simp only[List.getElem_toArray,List.getElem_cons_succ,List.getElem_cons_zero]
     try simp only[Act.put]
     have HT16:Hid (w16.heap[w3.heap.size]?=some (.cells #[.slice none 0 0,.int .i64 0] 24 (0,0))):=(HB16V.out.block _ (Array.getElem?_eq_some_iff.1 HTA.out).1).trans HTA.out
     have y0:w16.cell? ⟨w3.heap.size,0,none⟩=some (.slice none 0 0):=block_cell HT16.out rfl
     have y1:w16.cell? ⟨w3.heap.size,1,none⟩=some (.int .i64 0):=block_cell HT16.out rfl
     have y2:w3.heap.size<w16.heap.size:=(Array.getElem?_eq_some_iff.1 HT16.out).1
     have y3:w16.frozen? ⟨w3.heap.size,0,none⟩=false:=block_frozen HT16.out
     have y4:w16.frozen? ⟨w3.heap.size,1,none⟩=false:=block_frozen HT16.out
     have HBS:Hid (Below w3.heap.size w3 ((w16.setCell ⟨w3.heap.size,0,none⟩ (.slice a16 n16 cap16)).setCell ⟨w3.heap.size,1,none⟩ (.int .i64 l3))):=below_st2W HB16.out HB16.out.size (Nat.le_refl _)
     refine rd1 21 (fun K hK=>?_)
     go_simp
     refine hK.out _ _ (HKP.out _ HBS.out) (fun hHeld=>?_)
     clear hK K y0 y1 y2 y3 y4
     refine tk 22 (h:=?_)
     try simp only[List.getElem_toArray,List.getElem_cons_succ,List.getElem_cons_zero]
     try simp only[Act.put]
     refine wpAnyH_done (by kernel_rfl) ?_ _
     try simp only[Act.put]
     obtain⟨U,hU⟩:∃ U,U=((w16.setCell ⟨w3.heap.size,0,none⟩ (.slice a16 n16 cap16)).setCell ⟨w3.heap.size,1,none⟩ (.int .i64 l3)):=⟨_,rfl⟩
     have HTU:Hid (U.heap[w3.heap.size]?=some (.cells #[.slice a16 n16 cap16,.int .i64 l3] 24 (0,0))):=(by rw[hU];exact st_boxW rfl HT16.out:U.heap[w3.heap.size]?=_)
     have HCU:Hid (Crs U U.heap.size (.slice a16 n16 cap16) T):=(by rw[hU];exact crs_st2W' HT16.out HC16.out:Crs U U.heap.size (.slice a16 n16 cap16) T)
     have HBU:Hid (Below w3.heap.size w3 U):=(by rw[hU];exact HBS.out:Below w3.heap.size w3 U)
     rw[<-hU]
     clear hU HBS HBA HTA HB16 HB16V HT16 HC16
     clear hHeld
     have HGT:Hid (BxW U w3.heap.size a16 n16 cap16 l3):=bxW HTU.out
     have HCT:Hid (∀ W,Below U.heap.size U W->Crs W W.heap.size (.slice a16 n16 cap16) T):=fun W hW=>(HCU.out.up hW)
     have HFU:Hid (Below w3.heap.size w3 U):=HBU.out
     have HFX:Hid (Below X.heap.size X U):=H3.out.trans (HFU.out.mono H3.out.size)
     have HFN:Hid (Below w.heap.size w U):=HBX.out.trans (HFX.out.mono HBX.out.size)
     obtain⟨u1,u2,u3,u4⟩:=HTL.out k1 k2 T hk1 hk2 HTT.out
     have HJT:=hidS (fun W h hr=>Poly.jones_yes faceRingsA (.slice a16 n16 cap16) T l3 (lo1+lo2) W u3 u1 u2 h hr)
     have HU4:=hidS u4
     clear HTU HKP HD HPX HPY HSU p0 p1 p2 p3 p4 u1 u2 u3 u4 HTT HTL HBU HCU hk1 hk2 hdb hdb2 HNT
     obtain⟨t0,t3,t4⟩:=HGT.out U (Below.refl _ _)
     go_upto_region 11 with(go_at_call 5;refine(HJT.out _ (HCT.out _ (Below.refl _ _)) (HRG.out _ HFX.out)).mono ?_;rintro e9 w17 ⟨vr,lr,rfl,hpr,hcr,hb17⟩)
     have K1:Hid (Below U.heap.size U w17):=hb17
     have HPR:=hidS hpr
     have HCR:=hidS hcr
     clear hb17 t0 t3 t4 hpr hcr HJT
     have K13:Hid (Below w3.heap.size w3 w17):=HFU.out.trans (K1.out.mono HFU.out.size)
     have HML:=hidS (Poly.mul_yes vp vq lp lq w17 HMP.out HMQ.out (HPP3.out w17 K13.out).1 (HPQ3.out w17 K13.out).1)
     go_upto_region 12 with(go_at_call 8;refine HML.out.mono ?_;rintro e9 w18 ⟨vt,lt,rfl,hrow,hct,hlt,hb18⟩)
     have K2:Hid (Below w.heap.size w w18):=(HFN.out.trans (K1.out.mono HFN.out.size)).trans (hb18.mono (HFN.out.trans (K1.out.mono HFN.out.size)).size)
     have HEQ:Hid (lr=lt):=Poly.canon_unique HCR.out (HU4.out▸hct)
     have HSM:=hidS (Poly.same_polyK vr vt lr lt w18 (by rw[HEQ.out];unfold maxLen;omega) (HPR.out.up hb18).1 (Poly.PolyC.ofRow hrow).1)
     rw[decide_eq_true HEQ.out]at HSM
     clear hrow hct hlt hb18 HML
     go_wp2_with (go_at_call 9;refine HSM.out.mono ?_;rintro e9 w19 ⟨rfl,hb19⟩)
     have K4:Hid (Below w.heap.size w w19):=K2.out.trans (hb19.mono K2.out.size)
     clear hb19
     go_ret
     exact⟨by first|rfl|simp,K4.out⟩
 · go_simp
   have HBA:Hid (Below w3.heap.size w3 (w3.drew.alloc (.cells #[.slice none 0 0,.int .i64 0] 24))):=HD.out.alloc (Nat.le_refl _) _
   have HTA:Hid ((w3.drew.alloc (.cells #[.slice none 0 0,.int .i64 0] 24)).heap[w3.drew.heap.size]?=some (.cells #[.slice none 0 0,.int .i64 0] 24 (0,0))):=alloc_at rfl
   refine hK.out _ _ (HKP.out _ HBA.out) (fun hHeld=>?_)
   clear hK K
   try simp only[Act.put]
   refine rd1 6 (fun K hK=>?_)
   go_simp
   go_wp2_with (go_at_call 7;refine(HPX.out _).mono ?_;rintro e9 w14 ⟨k1,rfl,hk1,e99⟩;obtain rfl:=e99.symm;clear e99)
   refine hK.out _ _ (HKP.out _ HBA.out) (fun hHeld=>?_)
   clear hK K
   try simp only[Act.put]
   have hd1:IntKind.i64.wrap (1+(k1:Int))=((k1+1:Nat):Int):=(by rw[IntWalk.i64_in _ (by omega)];omega)
   refine tk 7 (h:=?_)
   try simp only[Act.put]
   refine rd1 14 (fun K hK=>?_)
   go_simp
   go_wp2_with (go_at_call 7;refine(HPY.out _).mono ?_;rintro e9 w15 ⟨k2,rfl,hk2,e99⟩;obtain rfl:=e99.symm;clear e99)
   refine hK.out _ _ (HKP.out _ HBA.out) (fun hHeld=>?_)
   clear hK K
   try simp only[Act.put]
   have hd2:IntKind.i64.wrap (1+(k2:Int))=((k2+1:Nat):Int):=(by rw[IntWalk.i64_in _ (by omega)];omega)
   refine tk 15 (h:=?_)
   try simp only[List.getElem_toArray,List.getElem_cons_succ,List.getElem_cons_zero]
   try simp only[Act.put]
   refine rd1 16 (fun K hK=>?_)
   go_simp
   go_wp2_with (go_at_call 6;refine(HSU.out k1 k2 _ hk1 hk2 HBA.out).mono ?_;rintro e9 w16 ⟨a16,cap16,n16,T,rfl,HNT,HTT,hc16,hb16⟩)
   have HB16:Hid (Below w3.heap.size w3 w16):=HBA.out.trans (hb16.mono HBA.out.size)
   have HC16:Hid (Crs w16 w16.heap.size (.slice a16 n16 cap16) T):=hc16
   have HB16V:Hid (Below ((w3.drew.alloc (.cells #[.slice none 0 0,.int .i64 0] 24))).heap.size ((w3.drew.alloc (.cells #[.slice none 0 0,.int .i64 0] 24))) w16):=hb16
   clear hc16 hb16
   refine hK.out _ _ (HKP.out _ HB16.out) (fun hHeld=>?_)
   clear hK K
   refine tk 17 (h:=?_)
   try simp only[List.getElem_toArray,List.getElem_cons_succ,List.getElem_cons_zero]
   refine tk 18 (h:=?_)
   try simp only[List.getElem_toArray,List.getElem_cons_succ,List.getElem_cons_zero]
   refine tk 19 (h:=?_)
   try simp only[List.getElem_toArray,List.getElem_cons_succ,List.getElem_cons_zero]
   try simp only[Act.put]
   have HT16:Hid (w16.heap[w3.heap.size]?=some (.cells #[.slice none 0 0,.int .i64 0] 24 (0,0))):=(HB16V.out.block _ (Array.getElem?_eq_some_iff.1 HTA.out).1).trans HTA.out
   have y0:w16.cell? ⟨w3.heap.size,0,none⟩=some (.slice none 0 0):=block_cell HT16.out rfl
   have y1:w16.cell? ⟨w3.heap.size,1,none⟩=some (.int .i64 0):=block_cell HT16.out rfl
   have y2:w3.heap.size<w16.heap.size:=(Array.getElem?_eq_some_iff.1 HT16.out).1
   have y3:w16.frozen? ⟨w3.heap.size,0,none⟩=false:=block_frozen HT16.out
   have y4:w16.frozen? ⟨w3.heap.size,1,none⟩=false:=block_frozen HT16.out
   have HBS:Hid (Below w3.heap.size w3 ((w16.setCell ⟨w3.heap.size,0,none⟩ (.slice a16 n16 cap16)).setCell ⟨w3.heap.size,1,none⟩ (.int .i64 l3))):=below_st2W HB16.out HB16.out.size (Nat.le_refl _)
   refine rd1 21 (fun K hK=>?_)
   go_simp
   refine hK.out _ _ (HKP.out _ HBS.out) (fun hHeld=>?_)
   clear hK K y0 y1 y2 y3 y4
   refine tk 22 (h:=?_)
   try simp only[List.getElem_toArray,List.getElem_cons_succ,List.getElem_cons_zero]
   try simp only[Act.put]
   refine wpAnyH_done (by kernel_rfl) ?_ _
   try simp only[Act.put]
   obtain⟨U,hU⟩:∃ U,U=((w16.setCell ⟨w3.heap.size,0,none⟩ (.slice a16 n16 cap16)).setCell ⟨w3.heap.size,1,none⟩ (.int .i64 l3)):=⟨_,rfl⟩
   have HTU:Hid (U.heap[w3.heap.size]?=some (.cells #[.slice a16 n16 cap16,.int .i64 l3] 24 (0,0))):=(by rw[hU];exact st_boxW rfl HT16.out:U.heap[w3.heap.size]?=_)
   have HCU:Hid (Crs U U.heap.size (.slice a16 n16 cap16) T):=(by rw[hU];exact crs_st2W' HT16.out HC16.out:Crs U U.heap.size (.slice a16 n16 cap16) T)
   have HBU:Hid (Below w3.heap.size w3 U):=(by rw[hU];exact HBS.out:Below w3.heap.size w3 U)
   rw[<-hU]
   clear hU HBS HBA HTA HB16 HB16V HT16 HC16
   clear hHeld
   have HGT:Hid (BxW U w3.heap.size a16 n16 cap16 l3):=bxW HTU.out
   have HCT:Hid (∀ W,Below U.heap.size U W->Crs W W.heap.size (.slice a16 n16 cap16) T):=fun W hW=>(HCU.out.up hW)
   have HFU:Hid (Below w3.heap.size w3 U):=HBU.out
   have HFX:Hid (Below X.heap.size X U):=H3.out.trans (HFU.out.mono H3.out.size)
   have HFN:Hid (Below w.heap.size w U):=HBX.out.trans (HFX.out.mono HBX.out.size)
   obtain⟨u1,u2,u3,u4⟩:=HTL.out k1 k2 T hk1 hk2 HTT.out
   have HJT:=hidS (fun W h hr=>Poly.jones_yes faceRingsA (.slice a16 n16 cap16) T l3 (lo1+lo2) W u3 u1 u2 h hr)
   have HU4:=hidS u4
   clear HTU HKP HD HPX HPY HSU p0 p1 p2 p3 p4 u1 u2 u3 u4 HTT HTL HBU HCU hk1 hk2 hdb hdb2 HNT
   obtain⟨t0,t3,t4⟩:=HGT.out U (Below.refl _ _)
   go_upto_region 11 with(go_at_call 5;refine(HJT.out _ (HCT.out _ (Below.refl _ _)) (HRG.out _ HFX.out)).mono ?_;rintro e9 w17 ⟨vr,lr,rfl,hpr,hcr,hb17⟩)
   have K1:Hid (Below U.heap.size U w17):=hb17
   have HPR:=hidS hpr
   have HCR:=hidS hcr
   clear hb17 t0 t3 t4 hpr hcr HJT
   have K13:Hid (Below w3.heap.size w3 w17):=HFU.out.trans (K1.out.mono HFU.out.size)
   have HML:=hidS (Poly.mul_yes vp vq lp lq w17 HMP.out HMQ.out (HPP3.out w17 K13.out).1 (HPQ3.out w17 K13.out).1)
   go_upto_region 12 with(go_at_call 8;refine HML.out.mono ?_;rintro e9 w18 ⟨vt,lt,rfl,hrow,hct,hlt,hb18⟩)
   have K2:Hid (Below w.heap.size w w18):=(HFN.out.trans (K1.out.mono HFN.out.size)).trans (hb18.mono (HFN.out.trans (K1.out.mono HFN.out.size)).size)
   have HEQ:Hid (lr=lt):=Poly.canon_unique HCR.out (HU4.out▸hct)
   have HSM:=hidS (Poly.same_polyK vr vt lr lt w18 (by rw[HEQ.out];unfold maxLen;omega) (HPR.out.up hb18).1 (Poly.PolyC.ofRow hrow).1)
   rw[decide_eq_true HEQ.out]at HSM
   clear hrow hct hlt hb18 HML
   go_wp2_with (go_at_call 9;refine HSM.out.mono ?_;rintro e9 w19 ⟨rfl,hb19⟩)
   have K4:Hid (Below w.heap.size w w19):=K2.out.trans (hb19.mono K2.out.size)
   clear hb19
   go_ret
   exact⟨by first|rfl|simp,K4.out⟩
end Go.Proofs.YtbobljddklldjaaGreatDoor
