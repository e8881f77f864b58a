/- Several texts of the proof, one behind the other. -/
import Derived.Test.YtnemnpcbhfedcaaGreatDoorA0t
import Derived.Test.YtnemnpcbhfedcaaGreatDoorSQ3P
import Derived.Test.YtnemnpcbhfedcaaGreatDoorAX1P
import Derived.Test.YtnemnpcbhfedcaaGreatDoorQ2P
import Derived.Test.YtnemnpcbhfedcaaGreatDoorF7P
import Derived.Test.YtnemnpcbhfedcaaGreatDoorBKaP
import Derived.Test.YtnemnpcbhfedcaaGreatDoorTkh
import Derived.Test.YtnemnpcbhfedcaaGreatDoorWS0P
import Derived.Test.YtnemnpcbhfedcaaGreatDoorAL2P
/- What all layers tell of the trefoil; the walk of knotworkkeep.knows. -/
namespace Go.Proofs.YtnemnpcbhfedcaaGreatDoor
open Go.RowKit Go.Maps
set_option maxHeartbeats 4000000
set_option maxRecDepth 100000
def trS (f:Nat):Nat:=if f=1∨f=2∨f=4 then 1 else 0
theorem trS_arc:∀ j,j<13->1<=j->trS (fo trC (tn j))=1-trS (fo trC j):=by decide +kernel
theorem trS_shd:Shd trC trS:=⟨rfl,fun f=>by unfold trS;split<;>omega,fun j h1 h2=>trS_arc j (by have:trC.length=3:=rfl;omega) h1⟩
theorem tr_no:noN trC 0=0:=by unfold noN;rw[if_pos trC_may,if_pos trC_planar]
theorem tr_one:oneB trC 0=true:=by decide +kernel
theorem tr_wr:wrM trC trC.length = -3:=by decide +kernel
theorem tr_cn:cnS trS 0 (facesM trC).length=1+1:=by decide +kernel
theorem tr_sig:sigN trC trS 1 = -2:=by decide +kernel
theorem tr_ov:ovC trC=3:=by decide +kernel
theorem tr_eq:∀ i,i<3->(3:Int) ∣ eqR trC i 0-eqR trC i 1/\(3:Int) ∣ eqR trC i 1-eqR trC i 2:=by decide +kernel
theorem tr_eq0:¬ (3:Int) ∣ eqR trC 0 0:=by decide +kernel
theorem tr_rows {v:Nat->Int} (h:Sp 3 3 (eqAll trC) v):(3:Int) ∣ v 0-v 1/\(3:Int) ∣ v 1-v 2:=by
 refine h (fun v=>(3:Int) ∣ v 0-v 1/\(3:Int) ∣ v 1-v 2) ⟨⟨by decide,by decide⟩,fun u v k hu hv=>⟨?_,?_⟩,fun u v hm hu=>?_⟩ ?_
 · have e:u 0+k*v 0-(u 1+k*v 1)=(u 0-u 1)+k*(v 0-v 1):=by rw[Int.mul_sub];omega
   show(3:Int) ∣ u 0+k*v 0-(u 1+k*v 1)
   rw[e]
   exact Int.dvd_add hu.1 (Int.dvd_mul_of_dvd_right hv.1)
 · have e:u 1+k*v 1-(u 2+k*v 2)=(u 1-u 2)+k*(v 1-v 2):=by rw[Int.mul_sub];omega
   show(3:Int) ∣ u 1+k*v 1-(u 2+k*v 2)
   rw[e]
   exact Int.dvd_add hu.2 (Int.dvd_mul_of_dvd_right hv.2)
 · have a0:=hm 0 (by omega)
   have a1:=hm 1 (by omega)
   have a2:=hm 2 (by omega)
   obtain⟨h1,h2⟩:=hu
   refine⟨?_,?_⟩<;>omega
 · rintro r ⟨i,hi,rfl⟩
   exact tr_eq i hi
theorem tr_fox:foxM trC 0 3=2:=by
 unfold foxM
 rw[tr_ov]
 have p0:pivP 3 3 (eqAll trC) 0:=⟨eqR trC 0,⟨Sp.mem ⟨0,by decide,rfl⟩,fun j hj=>absurd hj (Nat.not_lt_zero _)⟩,tr_eq0⟩
 have p1:¬ pivP 3 3 (eqAll trC) 1:=fun⟨v,⟨h1,h2⟩,h3⟩=>by
  obtain⟨a,b⟩:=tr_rows h1
  have c:=h2 0 (by omega)
  exact h3 (by omega)
 have p2:¬ pivP 3 3 (eqAll trC) 2:=fun⟨v,⟨h1,h2⟩,h3⟩=>by
  obtain⟨a,b⟩:=tr_rows h1
  have c:=h2 0 (by omega)
  exact h3 (by omega)
 rw[rkTo_no p2,rkTo_no p1,rkTo_yes p0]
 rfl
theorem tr_tab:alT trC 2=[[[(0,1)],[(1,-1)]],[[(0,-1),(1,1)],[(0,1)]]]:=by decide +kernel
theorem canon_three {a b c x y z:Int} (h1:a<b) (h2:b<c) (hx:x≠0) (hy:y≠0) (hz:z≠0):Poly.Canon [(a,x),(b,y),(c,z)] (Poly.coefL [(a,x),(b,y),(c,z)]):=by
 refine⟨?_,fun e k=>?_⟩
 · simp;omega
 · simp only[Poly.coefL,List.mem_cons,Prod.mk.injEq,List.not_mem_nil,or_false]
   by_cases c1:a=e
   · rw[if_pos c1,if_neg (by omega),if_neg (by omega)];omega
   · by_cases c2:b=e
     · rw[if_neg c1,if_pos c2,if_neg (by omega)];omega
     · by_cases c3:c=e
       · rw[if_neg c1,if_neg c2,if_pos c3];omega
       · rw[if_neg c1,if_neg c2,if_neg c3];omega
theorem tr_det:Poly.detOf [[[(0,1)],[(1,-1)]],[[(0,-1),(1,1)],[(0,1)]]]=Poly.coefL [(0,1),(1,-1),(2,1)]:=by
 funext y
 have e:Poly.detOf [[[(0,1)],[(1,-1)]],[[(0,-1),(1,1)],[(0,1)]]] y=(1*((1*Poly.oneF (y-0-0)+0)-0)+0)-((-1*((-1*Poly.oneF (y-1-0)+(1*Poly.oneF (y-1-1)+0))-0)+0)-0):=rfl
 rw[e]
 simp only[Poly.coefL,Poly.oneF]
 by_cases h0:y=0
 · subst h0;decide
 · by_cases h1:y=1
   · subst h1;decide
   · by_cases h2:y=2
     · subst h2;decide
     · rw[if_neg (by omega),if_neg (by omega),if_neg (by omega),if_neg (by omega),if_neg (by omega),if_neg (by omega)]
       decide
theorem tr_alex {l:List (Int×Int)} (h:IsAlex trC 0 l):l.length=3:=by
 unfold IsAlex at h
 rw[tr_ov,if_neg (by decide),if_neg (by decide)]at h
 obtain⟨l0,c0,rfl⟩:=h
 rw[show 3-1=2 from rfl,tr_tab,tr_det]at c0
 rw[Poly.canon_unique c0 (canon_three (by decide) (by decide) (by decide) (by decide) (by decide))]
 rfl
theorem tr_jn:Poly.jnE trC 0=[(4,1),(12,1),(16,-1)]:=by decide +kernel
theorem tr_jones {l:List (Int×Int)} (h:Poly.Canon l (Poly.jnF trC 0)):l.length=3:=by
 rw[Poly.jnE_is trC_may (by decide),tr_jn]at h
 rw[Poly.canon_unique h (canon_three (by decide) (by decide) (by decide) (by decide) (by decide))]
 rfl
theorem knows_any (w:World) (hR:Poly.RingAt w):Calls Tryz.prog 4 #[] w fun e w'=>e=.returned (.bool true)/\Below w.heap.size w w':=by
 have HWR:=hidS (fun v W h=>writhe_yes faceRingsA v trC 0 W tr_no h)
 have HFX:=hidS (fun v W h=>fox_yes faceRingsA v trC 0 3 W (by omega) (by decide) tr_no h)
 have HAX:=hidS (fun v W h=>alexander_yes faceRingsA v trC 0 W tr_no (by decide) h)
 have HSG:=hidS (fun v W h=>signature_yes v trC 0 trS 1 W trC_may trC_planar tr_one trS_shd tr_cn (by omega) h)
 have HJN:=hidS (fun v W h hr=>Poly.jones_yes faceRingsA v trC 0 0 W rfl tr_no (by decide) h hr)
 rw[tr_wr]at HWR
 rw[tr_fox]at HFX
 rw[tr_sig]at HSG
 have HRG:=hidS hR
 clear hR
 go_enter Tryz.func4,Tryz.ntmps4
 go_upto_region 2 with(go_at_call 9;refine(trefoil_any _).mono ?_;rintro e9 w1 ⟨a,c,rfl,hc,hb1⟩)
 have hlen:trC.length=3:=rfl
 obtain⟨X,hX⟩:∃ X,X=w1.alloc (.cells #[.slice a trC.length c,.int .i64 0] 24):=⟨_,rfl⟩
 rw[<-hX]
 have hsX:w1.heap.size<X.heap.size:=by rw[hX];simp
 have HT:Hid (X.heap[w1.heap.size]?=some (.cells #[.slice a trC.length c,.int .i64 0] 24 (0,0))):=(by rw[hX];exact alloc_at rfl:X.heap[w1.heap.size]?=some (.cells #[.slice a trC.length c,.int .i64 0] 24 (0,0)))
 have HBW:Hid (Below w.heap.size w X):=(by rw[hX];exact hb1.alloc hb1.size _:Below w.heap.size w X)
 have HC:Hid (∀ w',Below X.heap.size X w'->Crs w' w'.heap.size (.slice a trC.length c) trC):=fun w' hb=>(hc.up (by rw[hX];exact(Below.refl _ _).alloc (Nat.le_refl _) _)).up hb
 have HF:Hid (∀ w',Below X.heap.size X w'->w'.cell? ⟨w1.heap.size,0,none⟩=some (.slice a trC.length c)/\w'.cell? ⟨w1.heap.size,1,none⟩=some (.int .i64 0)/\w1.heap.size<w'.heap.size):=fun w' hb=>by
  have g:=(hb.block _ hsX).trans HT.out
  exact⟨block_cell g rfl,block_cell g rfl,(Array.getElem?_eq_some_iff.1 g).1⟩
 clear hX hc hb1 hlen hsX
 obtain⟨p0,p1,p2⟩:=HF.out X (Below.refl _ _)
 go_upto_region 3 with(go_at_call 8;refine(HWR.out _ _ (HC.out _ (Below.refl _ _))).mono ?_;rintro e9 w2 ⟨rfl,hb2⟩)
 have H2:Hid (Below X.heap.size X w2):=hb2
 clear hb2 p0 p1 p2
 obtain⟨p0,p1,p2⟩:=HF.out w2 H2.out
 go_upto_region 4 with(go_at_call 10;refine(HFX.out _ _ (HC.out _ H2.out)).mono ?_;rintro e9 w3 ⟨rfl,hb3⟩)
 have H3:Hid (Below X.heap.size X w3):=H2.out.trans (hb3.mono H2.out.size)
 clear hb3 p0 p1 p2
 obtain⟨p0,p1,p2⟩:=HF.out w3 H3.out
 go_upto_region 5 with(go_at_call 11;refine(HAX.out _ _ (HC.out _ H3.out)).mono ?_;rintro e9 w4 ⟨v4,l4,rfl,hp4,hi4,hb4⟩;obtain⟨a4,c4,e4,-⟩:=hp4.slice;rw[tr_alex hi4]at e4;subst e4)
 have H4:Hid (Below X.heap.size X w4):=H3.out.trans (hb4.mono H3.out.size)
 clear hb4 p0 p1 p2 hp4 hi4
 obtain⟨p0,p1,p2⟩:=HF.out w4 H4.out
 go_upto_region 6 with(go_at_call 12;refine(HSG.out _ _ (HC.out _ H4.out)).mono ?_;rintro e9 w5 ⟨rfl,hb5⟩)
 have H5:Hid (Below X.heap.size X w5):=H4.out.trans (hb5.mono H4.out.size)
 clear hb5 p0 p1 p2
 obtain⟨p0,p1,p2⟩:=HF.out w5 H5.out
 go_upto_region 7 with(go_at_call 13;refine(HJN.out _ _ (HC.out _ H5.out) ((HRG.out.any HBW.out).any H5.out)).mono ?_;rintro e9 w6 ⟨v6,l6,rfl,hp6,hi6,hb6⟩;obtain⟨a6,c6,e6,-⟩:=hp6.1.slice;rw[tr_jones hi6]at e6;subst e6)
 have H6:Hid (Below X.heap.size X w6):=H5.out.trans (hb6.mono H5.out.size)
 clear hb6 p0 p1 p2 hp6 hi6
 go_wp2
 go_ret
 exact⟨rfl,HBW.out.trans (H6.out.mono HBW.out.size)⟩
end Go.Proofs.YtnemnpcbhfedcaaGreatDoor
/- The law WindSums: its walk. -/
namespace Go.Proofs.YtnemnpcbhfedcaaGreatDoor
open Go.RowKit Go.Maps
set_option maxHeartbeats 8000000
set_option maxRecDepth 100000
theorem pickedW_any (x : Int) (n : Nat) (w : World) (hx : -9223372036854775808 ≤ x ∧ x ≤ 9223372036854775807) (h0 : 0 < n) (h1 : n ≤ 1000) :
    Calls Tryz.prog 7 #[.int .i64 x,.int .i64 (n:Nat)] w fun e w'=>∃ r:Nat,e=.returned (.int .i64 (r:Nat))/\r<n/\w'=w:=by
 have hz:((n:Int)==0)=false:=beq_eq_false_iff_ne.2 (by omega)
 by_cases hn:x<0
 · have hd:decide (x<0)=true:=decide_eq_true hn
   have e1:IntKind.i64.wrap (x+1)=x+1:=IntWalk.i64_in _ (by omega)
   have e2:IntKind.i64.wrap (-(x+1)) = -(x+1):=IntWalk.i64_in _ (by omega)
   obtain⟨q,hq⟩:∃ q:Nat,-(x+1)=(q:Int):=⟨(-(x+1)).toNat,by omega⟩
   have er:(q:Int).tmod (n:Int)=((q%n:Nat):Int):=rfl
   have hlt:=Nat.mod_lt q h0
   have e3:IntKind.i64.wrap ((q%n:Nat):Int)=((q%n:Nat):Int):=IntWalk.i64_in _ (by omega)
   go_enter Tryz.func7,Tryz.ntmps7
   go_wp2
   go_ret
   exact⟨q%n,by simp,hlt,rfl⟩
 · have hd:decide (x<0)=false:=decide_eq_false hn
   obtain⟨q,hq⟩:∃ q:Nat,x=(q:Int):=⟨x.toNat,by omega⟩
   subst hq
   have er:(q:Int).tmod (n:Int)=((q%n:Nat):Int):=rfl
   have hlt:=Nat.mod_lt q h0
   have e3:IntKind.i64.wrap ((q%n:Nat):Int)=((q%n:Nat):Int):=IntWalk.i64_in _ (by omega)
   go_enter Tryz.func7,Tryz.ntmps7
   go_wp2
   go_ret
   exact⟨q%n,by simp,hlt,rfl⟩
theorem below_st2W {B z:Nat} {w w':World} {a b:Value} (h:Below B w w') (hB:B<=w'.heap.size) (hz:B<=z):Below B w ((w'.setCell ⟨z,0,none⟩ a).setCell ⟨z,1,none⟩ b):=
 (h.grown (set_grown w' z 0 a) hB (fun k hk=>by have:=Option.some.inj hk;omega)).grown (set_grown _ z 1 b) (by simpa using hB) (fun k hk=>by have:=Option.some.inj hk;omega)
theorem crs_setW {W W2:World} {g:Nat} {c d:Value} {v:Value} {T:List Cr} (hT:W.heap[g]?=some (.cells #[c,d] 24 (0,0))) (hc:Crs W W.heap.size v T) (hg:W.grownBy W2 (some g)):Crs W2 W2.heap.size v T:=by
 obtain⟨a,cap,e,hl,hr⟩:=hc
 refine⟨a,cap,e,hl,fun h0=>?_⟩
 obtain⟨b,off,e1,hb,hx⟩:=hr h0
 have hne:b≠g:=fun q=>by
  have h5:=(hx 0 h0).2.2.2.2
  rw[q]at h5
  have h6:W.cell? ⟨g,off+0*5+4,none⟩=none:=by simp[World.cell?,hT]
  rw[h6]at h5
  cases h5
 have hk:W2.heap[b]?=W.heap[b]?:=hg.block b hb (fun q=>hne (Option.some.inj q))
 have hcell:∀ k,W2.cell? ⟨b,k,none⟩=W.cell? ⟨b,k,none⟩:=fun k=>by simp[World.cell?,hk]
 refine⟨b,off,e1,?_,fun i hi=>?_⟩
 · have hb2:b<W.heap.size:=hb
   have:W2.heap[b]?=some W.heap[b]:=by rw[hk];exact Array.getElem?_eq_getElem hb2
   exact(Array.getElem?_eq_some_iff.1 this).1
 · have h:=hx i hi
   simp only[hcell]
   exact h
theorem grown_transW {a b c:World} {r:Option Nat} (h1:a.grownBy b r) (h2:b.grownBy c r):a.grownBy c r:=
 ⟨h2.os.trans h1.os,h2.tape.trans h1.tape,h2.output.trans h1.output,Nat.le_trans h1.size h2.size,fun k hk hr=>(h2.block k (Nat.lt_of_lt_of_le hk h1.size) hr).trans (h1.block k hk hr)⟩
theorem crs_st2W {W:World} {g:Nat} {c d:Value} {a:Option Addr} {cap:Nat} {T:List Cr} {u:Value} (hT:W.heap[g]?=some (.cells #[c,d] 24 (0,0))) (hc:Crs W W.heap.size (.slice a T.length cap) T):Crs ((W.setCell ⟨g,0,none⟩ (.slice a T.length cap)).setCell ⟨g,1,none⟩ u) ((W.setCell ⟨g,0,none⟩ (.slice a T.length cap)).setCell ⟨g,1,none⟩ u).heap.size (.slice a T.length cap) T:=
 crs_setW hT hc (grown_transW (set_grown W g 0 (.slice a T.length cap)) (set_grown (W.setCell ⟨g,0,none⟩ (.slice a T.length cap)) g 1 u))
def gnE (C:List Cr) (l:Int):Int:=if noN C l≠0 then noN C l else if oneB C l=true then 0 else 6
def gnV (C:List Cr) (l:Int):Int:=if gnE C l=0 then gN C else 0
theorem gn_ok {C:List Cr} {l:Int} (h:gnE C l=0):noN C l=0/\oneB C l=true:=by
 unfold gnE at h
 by_cases h1:noN C l=0
 · rw[if_neg (fun q=>q h1)]at h
   by_cases h2:oneB C l=true
   · exact⟨h1,h2⟩
   · rw[if_neg h2]at h;omega
 · rw[if_pos h1]at h;exact absurd h h1
theorem genus_out (v : Value) (C : List Cr) (l : Int) (w : World) (h : Crs w w.heap.size v C) :
    Calls Tryz.prog 5 #[.agg #[v,.int .i64 l]] w fun e w'=>e=.returned (.tuple #[.int .i64 (gnV C l),.int .i64 (gnE C l)])/\Below w.heap.size w w':=by
 by_cases h1:noN C l=0
 · have h2:=genus_some faceRingsA v C l w h1 h
   have e:gnE C l=if oneB C l=true then 0 else 6:=by unfold gnE;rw[if_neg (fun q=>q h1)]
   cases ho:oneB C l with
   |true=>
    rw[ho,if_pos rfl]at e
    rw[ho,if_pos rfl]at h2
    unfold gnV
    rw[e,if_pos rfl]
    exact h2
   |false=>
    rw[ho,if_neg (by decide)]at e
    rw[ho,if_neg (by decide)]at h2
    unfold gnV
    rw[e,if_neg (by decide)]
    exact h2
 · have e:gnE C l=noN C l:=by unfold gnE;rw[if_pos h1]
   unfold gnV
   rw[e,if_neg h1]
   exact genus_no faceRingsA v C l w h1 h
theorem gN_bd (C:List Cr) (h:C.length<=16) : -1000<=gN C/\gN C<=1000:=by
 have h1:=walksM_len C
 have h2:=circM_len C
 unfold gN
 have hx : -100<=2-((walksM C).length:Int)-((circM C).length:Int)+(C.length:Int)/\2-((walksM C).length:Int)-((circM C).length:Int)+(C.length:Int)<=100:=by omega
 generalize 2-((walksM C).length:Int)-((circM C).length:Int)+(C.length:Int)=x at hx
 rcases Int.le_total 0 x with h0|h0
 · rw[Int.tdiv_eq_ediv_of_nonneg h0];omega
 · have e:x.tdiv 2 = -((-x).tdiv 2):=by rw[Int.neg_tdiv,Int.neg_neg]
   rw[e,Int.tdiv_eq_ediv_of_nonneg (by omega)]
   omega
theorem crs_sliceW {W:World} {B:Nat} {v:Value} {C:List Cr} (h:Crs W B v C):∃ a c,v=.slice a C.length c:=by
 obtain⟨a,c,e,-,-⟩:=h
 exact⟨a,c,e⟩
theorem size_tie {C D:List Cr} {x y:Int} (h0:0<C.length) (h:C.length+D.length<=16):sizeB (tieC C D x y) 0=true:=by
 have hl:=tie_len C D x y
 unfold sizeB
 rw[hl,decide_eq_true (show C.length+D.length<=16 by omega),decide_eq_true (show(0:Int)<=0 by omega),decide_eq_true (show(0:Int)<=16 by omega),decide_eq_false (show ¬ C.length+D.length=0 by omega)]
 rfl
theorem box2W {w V:World} {a x b y:Value} (h:(w.alloc (.cells #[a,x] 24)).alloc (.cells #[b,y] 24)=V):∀ W,Below V.heap.size V W->W.cell? ⟨w.heap.size,0,none⟩=some a/\W.cell? ⟨w.heap.size,1,none⟩=some x/\W.cell? ⟨w.heap.size+1,0,none⟩=some b/\W.cell? ⟨w.heap.size+1,1,none⟩=some y/\w.heap.size+1<W.heap.size:=fun W hW=>by
 have g0:V.heap[w.heap.size]?=some (.cells #[a,x] 24 (0,0)):=by rw[<-h];exact alloc_old (alloc_at rfl)
 have g1:V.heap[w.heap.size+1]?=some (.cells #[b,y] 24 (0,0)):=by rw[<-h];exact alloc_at (by simp)
 have k0:=(hW.block _ (Array.getElem?_eq_some_iff.1 g0).1).trans g0
 have k1:=(hW.block _ (Array.getElem?_eq_some_iff.1 g1).1).trans g1
 exact⟨block_cell k0 rfl,block_cell k0 rfl,block_cell k1 rfl,block_cell k1 rfl,(Array.getElem?_eq_some_iff.1 k1).1⟩
def BxW (U:World) (g:Nat) (a:Option Addr) (n c:Nat):Prop:=∀ W,Below U.heap.size U W->W.cell? ⟨g,0,none⟩=some (.slice a n c)/\W.cell? ⟨g,1,none⟩=some (.int .i64 0)/\g<W.heap.size
theorem bxW {U:World} {g n c:Nat} {a:Option Addr} (h:U.heap[g]?=some (.cells #[.slice a n c,.int .i64 0] 24 (0,0))):BxW U g a n c:=fun W hW=>by
 have k:=(hW.block _ (Array.getElem?_eq_some_iff.1 h).1).trans h
 exact⟨block_cell k rfl,block_cell k rfl,(Array.getElem?_eq_some_iff.1 k).1⟩
theorem st_boxW {W:World} {g:Nat} {a b x y:Value} {cs:Array Value} (hc:cs=#[a,b]) (h:W.heap[g]?=some (.cells cs 24 (0,0))):((W.setCell ⟨g,0,none⟩ x).setCell ⟨g,1,none⟩ y).heap[g]?=some (.cells #[x,y] 24 (0,0)):=by
 subst hc
 exact set_block (i:=1) (u:=y) (set_block (i:=0) (u:=x) h)
theorem windSums_any (v1 v2 : Value) (C D : List Cr) (l1 l2 x y : Int) (w : World) (hx : -9223372036854775808 ≤ x ∧ x ≤ 9223372036854775807) (hy : -9223372036854775808 ≤ y ∧ y ≤ 9223372036854775807) (h1 : Crs w w.heap.size v1 C) (h2 : Crs w w.heap.size v2 D) (hR : Poly.RingAt w) :
    Calls Tryz.prog 3 #[.agg #[v1,.int .i64 l1],.int .i64 x,.agg #[v2,.int .i64 l2],.int .i64 y] w fun e w'=>e=.returned (.bool true)/\Below w.heap.size w w':=by
 obtain⟨a1,c1,rfl⟩:=crs_sliceW h1
 obtain⟨a2,c2,rfl⟩:=crs_sliceW h2
 obtain⟨X,hX⟩:∃ X,(w.alloc (.cells #[.slice a1 C.length c1,.int .i64 l1] 24)).alloc (.cells #[.slice a2 D.length c2,.int .i64 l2] 24)=X:=⟨_,rfl⟩
 have hBX:Below w.heap.size w X:=by rw[<-hX];exact below2 _ _ _
 have HF:=hidS (box2W hX)
 have HBX:=hidS hBX
 have HC1:=hidS (fun(W:World) (hW:Below X.heap.size X W)=>(h1.up hBX).up hW)
 have HC2:=hidS (fun(W:World) (hW:Below X.heap.size X W)=>(h2.up hBX).up hW)
 have HRG:=hidS (fun(W:World) (hW:Below X.heap.size X W)=>(hR.any hBX).any hW)
 have HKN:=hidS (fun W hr=>knows_any W hr)
 have HG1:=hidS (fun W h=>genus_out (.slice a1 C.length c1) C l1 W h)
 have HG2:=hidS (fun W h=>genus_out (.slice a2 D.length c2) D l2 W h)
 have HXX:=hidS hX
 have HXR:=hidS hx
 have HYR:=hidS hy
 have HOK1:=hidS (fun(h:gnE C l1=0)=>gn_ok h)
 have HOK2:=hidS (fun(h:gnE D l2=0)=>gn_ok h)
 have HV1:Hid (gnE C l1=0->gnV C l1=gN C):=fun h=>by unfold gnV;rw[if_pos h]
 have HV2:Hid (gnE D l2=0->gnV D l2=gN D):=fun h=>by unfold gnV;rw[if_pos h]
 have hSZ:C.length<=maxLen/\D.length<=maxLen:=⟨by obtain⟨_,_,_,q,_⟩:=h1;exact q,by obtain⟨_,_,_,q,_⟩:=h2;exact q⟩
 unfold maxLen at hSZ
 clear h1 h2 hR hX hBX hx hy
 generalize gnE C l1=r1 at HG1 HOK1 HV1
 generalize gnE D l2=r2 at HG2 HOK2 HV2
 generalize gnV C l1=z1 at HG1 HV1
 generalize gnV D l2=z2 at HG2 HV2
 go_enter Tryz.func3,Tryz.ntmps3
 go_upto_region 3 with(go_at_call 4;rw[HXX.out];refine(HKN.out _ (HRG.out _ (Below.refl _ _))).mono ?_;rintro e9 w1 ⟨rfl,hb1⟩)
 have H1:Hid (Below X.heap.size X w1):=hb1
 clear hb1
 obtain⟨p0,p1,p2,p3,p4⟩:=HF.out w1 H1.out
 go_upto_region 4 with(go_at_call 5;refine(HG1.out _ (HC1.out _ H1.out)).mono ?_;rintro e9 w2 ⟨rfl,hb2⟩)
 have H2:Hid (Below X.heap.size X w2):=H1.out.trans (hb2.mono H1.out.size)
 clear hb2 p0 p1 p2 p3 p4
 obtain⟨p0,p1,p2,p3,p4⟩:=HF.out w2 H2.out
 go_upto_region 5 with(go_at_call 5;refine(HG2.out _ (HC2.out _ H2.out)).mono ?_;rintro e9 w3 ⟨rfl,hb3⟩)
 have H3:Hid (Below X.heap.size X w3):=H2.out.trans (hb3.mono H2.out.size)
 have HE3:Hid (Below w.heap.size w w3):=HBX.out.trans (H3.out.mono HBX.out.size)
 clear hb3 p0 p1 p2 p3 p4
 obtain⟨p0,p1,p2,p3,p4⟩:=HF.out w3 H3.out
 by_cases q1:r1=0
 · by_cases q2:r2=0
   · have hc16:=(sizeB_iff (may_size (noN_zero (HOK1.out q1).1).1)).1
     have hd16:=(sizeB_iff (may_size (noN_zero (HOK2.out q2).1).1)).1
     have hadd:IntKind.i64.wrap ((C.length:Int)+(D.length:Int))=(C.length:Int)+(D.length:Int):=IntWalk.i64_in _ (by omega)
     by_cases q3:C.length+D.length<=16
     · subst q1 q2
       obtain⟨n1,o1⟩:=HOK1.out rfl
       obtain⟨n2,o2⟩:=HOK2.out rfl
       obtain rfl:=HV1.out rfl
       obtain rfl:=HV2.out rfl
       obtain⟨m1,f1⟩:=noN_zero n1
       obtain⟨m2,f2⟩:=noN_zero n2
       obtain⟨s1,e1,-⟩:=one_all m1 o1
       obtain⟨s2,e2,-⟩:=one_all m2 o2
       subst e1 e2
       have hgt:¬ ((C.length:Int)+(D.length:Int) > 16):=by omega
       have hgt2:decide (16<(C.length:Int)+(D.length:Int))=false:=decide_eq_false (by omega)
       have hdb:IntKind.i64.wrap (2*(C.length:Int))=((2*C.length:Nat):Int):=by rw[IntWalk.i64_in _ (by omega)];omega
       have hdb2:IntKind.i64.wrap (2*(D.length:Int))=((2*D.length:Nat):Int):=by rw[IntWalk.i64_in _ (by omega)];omega
       have HD:Hid (Below w3.heap.size w3 w3.drew):=below_drewN (Below.refl _ _) 1
       have HKP:Hid (∀ W,Below w3.heap.size w3 W->W.cell? ⟨w.heap.size,0,none⟩=some (.slice a1 C.length c1)/\W.cell? ⟨w.heap.size,1,none⟩=some (.int .i64 0)/\W.cell? ⟨w.heap.size+1,0,none⟩=some (.slice a2 D.length c2)/\W.cell? ⟨w.heap.size+1,1,none⟩=some (.int .i64 0)):=fun W hW=>by
        obtain⟨k0,k1,k2,k3,-⟩:=HF.out W (H3.out.trans (hW.mono H3.out.size))
        exact⟨k0,k1,k2,k3⟩
       have HPX:Hid (∀ W,Calls Tryz.prog 7 #[.int .i64 x,.int .i64 ((2*C.length:Nat):Int)] W fun e w'=>∃ r:Nat,e=.returned (.int .i64 (r:Nat))/\r<2*C.length/\w'=W):=fun W=>pickedW_any x (2*C.length) W HXR.out (by omega) (by omega)
       have HPY:Hid (∀ W,Calls Tryz.prog 7 #[.int .i64 y,.int .i64 ((2*D.length:Nat):Int)] W fun e w'=>∃ r:Nat,e=.returned (.int .i64 (r:Nat))/\r<2*D.length/\w'=W):=fun W=>pickedW_any y (2*D.length) W HYR.out (by omega) (by omega)
       have HSU:Hid (∀ (k1 k2:Nat) (W:World),k1<2*C.length->k2<2*D.length->Below w3.heap.size w3 W->Calls Tryz.prog 6 #[.agg #[.slice a1 C.length c1,.int .i64 0],.int .i64 ((k1+1:Nat):Int),.agg #[.slice a2 D.length c2,.int .i64 0],.int .i64 ((k2+1:Nat):Int)] W fun e w'=>∃ (a16:Option Addr) (cap16:Nat) (T:List Cr),e=.returned (.tuple #[.agg #[.slice a16 T.length cap16,.int .i64 0],.int .i64 0])/\Hid (T=tieC C D ((k1+1:Nat):Int) ((k2+1:Nat):Int))/\Crs w' w'.heap.size (.slice a16 T.length cap16) T/\Below W.heap.size W w'):=fun k1 k2 W h1 h2 hW=>(sum_ok _ _ C D 0 0 _ _ W (HC1.out W (H3.out.trans (hW.mono H3.out.size))) (HC2.out W (H3.out.trans (hW.mono H3.out.size))) m1 m2 (by unfold hasB;simp;omega) (by unfold hasB;simp;omega) (by omega) (by omega)).mono (by rintro e w' ⟨r,rfl,hc,hb⟩;obtain⟨a16,cap16,e16⟩:=crs_sliceW hc;subst e16;exact⟨a16,cap16,_,rfl,rfl,hc,hb⟩)
       have HTL:Hid (∀ (k1 k2:Nat) (T:List Cr),k1<2*C.length->k2<2*D.length->T=tieC C D ((k1+1:Nat):Int) ((k2+1:Nat):Int)->noN T 0=0/\oneB T 0=true/\gN T=gN C+gN D/\wrM T T.length=wrM C C.length+wrM D D.length):=fun k1 k2 T h1 h2 e=>by
        subst e
        have hT:=tie_may (l:=0) m1 m2 (x:=k1+1) (y:=k2+1) (by omega) (by omega) (by omega) (by omega) (size_tie s1 q3)
        refine⟨?_,tie_one m1 m2 (by omega) (by omega) (by omega) (by omega) hT o1 o2 rfl,gN_tie m1 m2 (by omega) (by omega) (by omega) (by omega) hT,wr_tie⟩
        unfold noN
        rw[if_pos hT,if_pos (tie_flat m1 m2 (by omega) (by omega) (by omega) (by omega) hT o1 o2 f1 f2)]
       have HGN:=hidS (fun v T W (hT:noN T 0=0) (hO:oneB T 0=true) (h:Crs W W.heap.size v T)=>genus_some faceRingsA v T 0 W hT h)
       have HW1:=hidS (fun W h=>writhe_yes faceRingsA (.slice a1 C.length c1) C 0 W n1 h)
       have HW2:=hidS (fun W h=>writhe_yes faceRingsA (.slice a2 D.length c2) D 0 W n2 h)
       have HW3:=hidS (fun v T W (hT:noN T 0=0) (h:Crs W W.heap.size v T)=>writhe_yes faceRingsA v T 0 W hT h)
       have b1:=gN_bd C (by omega)
       have b2:=gN_bd D (by omega)
       have b3:=wrM_bound C C.length
       have b4:=wrM_bound D D.length
       generalize gN C=g1 at HTL b1
       generalize gN D=g2 at HTL b2
       generalize wrM C C.length=t1 at HTL HW1 b3
       generalize wrM D D.length=t2 at HTL HW2 b4
       have ew1:IntKind.i64.wrap (g1+g2)=g1+g2:=IntWalk.i64_in _ (by omega)
       have ew2:IntKind.i64.wrap (t1+t2)=t1+t2:=IntWalk.i64_in _ (by omega)
       clear n1 n2 o1 o2 m1 m2 f1 f2 HOK1 HOK2 HV1 HV2 HG1 HG2 HKN HRG HXX HXR HYR b1 b2 b3 b4
       go_wp2
       refine wp_region_held_drew (S:=fun w'=>w'.cell? ⟨w.heap.size,0,none⟩=some (.slice a1 C.length c1)/\w'.cell? ⟨w.heap.size,1,none⟩=some (.int .i64 0)/\w'.cell? ⟨w.heap.size+1,0,none⟩=some (.slice a2 D.length c2)/\w'.cell? ⟨w.heap.size+1,1,none⟩=some (.int .i64 0)) (by kernel_rfl) (HKP.out _ HD.out) (fun hHeld=>?_)
       refine tk 0 (h:=?_)
       refine tk 1 (h:=?_)
       refine tk 2 (h:=?_)
       refine tk 3 (h:=?_)
       refine tk 4 (h:=?_)
       refine tk 5 (h:=?_)
       refine tk 8 (h:=?_)
       refine tk 9 (h:=?_)
       refine tk 10 (h:=?_)
       try simp only[List.getElem_toArray,List.getElem_cons_succ,List.getElem_cons_zero]
       refine tk 11 (h:=?_)
       try simp only[List.getElem_toArray,List.getElem_cons_succ,List.getElem_cons_zero]
       refine tk 12 (h:=?_)
       try simp only[List.getElem_toArray,List.getElem_cons_succ,List.getElem_cons_zero]
       refine tk 13 (h:=?_)
       try simp only[List.getElem_toArray,List.getElem_cons_succ,List.getElem_cons_zero]
       try simp only[Act.put]
       refine wpAnyH_ready (rs:=[6,20]) (by kernel_rfl) (by simp) ?_
       refine AllReadyH.cons (i:=6) (rs:=[20]) rfl (fun K hK=>?_) (AllReadyH.cons (i:=20) (rs:=[]) rfl (fun K hK=>?_) AllReadyH.nil)
       · go_simp
         go_wp2_with (go_at_call 7;refine(HPX.out _).mono ?_;rintro e9 w14 ⟨k1,rfl,hk1,e99⟩;obtain rfl:=e99.symm;clear e99)
         refine hK.out _ _ (HKP.out _ HD.out) (fun hHeld=>?_)
         clear hK K
         try simp only[Act.put]
         have hd1:IntKind.i64.wrap (1+(k1:Int))=((k1+1:Nat):Int):=(by rw[IntWalk.i64_in _ (by omega)];omega)
         refine tk 7 (h:=?_)
         try simp only[Act.put]
         refine wpAnyH_ready (rs:=[14,20]) (by kernel_rfl) (by simp) ?_
         refine AllReadyH.cons (i:=14) (rs:=[20]) rfl (fun K hK=>?_) (AllReadyH.cons (i:=20) (rs:=[]) rfl (fun K hK=>?_) AllReadyH.nil)
         · go_simp
           go_wp2_with (go_at_call 7;refine(HPY.out _).mono ?_;rintro e9 w15 ⟨k2,rfl,hk2,e99⟩;obtain rfl:=e99.symm;clear e99)
           refine hK.out _ _ (HKP.out _ HD.out) (fun hHeld=>?_)
           clear hK K
           try simp only[Act.put]
           have hd2:IntKind.i64.wrap (1+(k2:Int))=((k2+1:Nat):Int):=(by rw[IntWalk.i64_in _ (by omega)];omega)
           refine tk 15 (h:=?_)
           try simp only[List.getElem_toArray,List.getElem_cons_succ,List.getElem_cons_zero]
           try simp only[Act.put]
           refine wpAnyH_ready (rs:=[16,20]) (by kernel_rfl) (by simp) ?_
           refine AllReadyH.cons (i:=16) (rs:=[20]) rfl (fun K hK=>?_) (AllReadyH.cons (i:=20) (rs:=[]) rfl (fun K hK=>?_) AllReadyH.nil)
           · go_simp
             go_wp2_with (go_at_call 6;refine(HSU.out k1 k2 _ hk1 hk2 HD.out).mono ?_;rintro e9 w16 ⟨a16,cap16,T,rfl,HTT,hc16,hb16⟩)
             have HB16:Hid (Below w3.heap.size w3 w16):=HD.out.trans (hb16.mono HD.out.size)
             have HC16:Hid (Crs w16 w16.heap.size (.slice a16 T.length cap16) T):=hc16
             clear hc16 hb16
             refine hK.out _ _ (HKP.out _ HB16.out) (fun hHeld=>?_)
             clear hK K
             refine tk 17 (h:=?_)
             try simp only[List.getElem_toArray,List.getElem_cons_succ,List.getElem_cons_zero]
             refine tk 18 (h:=?_)
             try simp only[List.getElem_toArray,List.getElem_cons_succ,List.getElem_cons_zero]
             refine tk 19 (h:=?_)
             try simp only[List.getElem_toArray,List.getElem_cons_succ,List.getElem_cons_zero]
             try simp only[Act.put]
             refine rd1 20 (fun K hK=>?_)
             go_simp
             have HBA:Hid (Below w3.heap.size w3 (w16.alloc (.cells #[.slice none 0 0,.int .i64 0] 24))):=HB16.out.alloc HB16.out.size _
             refine hK.out _ _ (HKP.out _ HBA.out) (fun hHeld=>?_)
             clear hK K
             try simp only[Act.put]
             have HBS:Hid (Below w3.heap.size w3 (w16.alloc (.cells #[.slice a16 T.length cap16,.int .i64 0] 24))):=HB16.out.alloc HB16.out.size _
             refine rd1 21 (fun K hK=>?_)
             go_simp
             refine hK.out _ _ (HKP.out _ HBS.out) (fun hHeld=>?_)
             clear hK K
             refine tk 22 (h:=?_)
             try simp only[List.getElem_toArray,List.getElem_cons_succ,List.getElem_cons_zero]
             try simp only[Act.put]
             refine wpAnyH_done (by kernel_rfl) ?_ _
             try simp only[Act.put]
             obtain⟨U,hU⟩:∃ U,U=(w16.alloc (.cells #[.slice a16 T.length cap16,.int .i64 0] 24)):=⟨_,rfl⟩
             have HTU:Hid (U.heap[w16.heap.size]?=some (.cells #[.slice a16 T.length cap16,.int .i64 0] 24 (0,0))):=(by rw[hU];exact alloc_at rfl:U.heap[w16.heap.size]?=_)
             have HCU:Hid (Crs U U.heap.size (.slice a16 T.length cap16) T):=(by rw[hU];exact HC16.out.up ((Below.refl _ _).alloc (Nat.le_refl _) _):Crs U U.heap.size (.slice a16 T.length cap16) T)
             have HBU:Hid (Below X.heap.size X U):=(by rw[hU];exact H3.out.trans (HBS.out.mono H3.out.size):Below X.heap.size X U)
             rw[<-hU]
             clear hU HBS HBA HB16 HC16
             clear hHeld
             have HGT:Hid (BxW U w16.heap.size a16 T.length cap16):=bxW HTU.out
             have HCT:Hid (∀ W,Below U.heap.size U W->Crs W W.heap.size (.slice a16 T.length cap16) T):=fun W hW=>(HCU.out.up hW)
             have HFU:Hid (Below X.heap.size X U):=HBU.out
             have HFN:Hid (Below w.heap.size w U):=HBX.out.trans (HFU.out.mono HBX.out.size)
             obtain⟨u1,u2,u3,u4⟩:=HTL.out k1 k2 T hk1 hk2 HTT.out
             have HGU:=hidS (fun W h=>HGN.out (.slice a16 T.length cap16) T W u1 u2 h)
             rw[u2,if_pos rfl,u3]at HGU
             have HWU:=hidS (fun W h=>HW3.out (.slice a16 T.length cap16) T W u1 h)
             rw[u4]at HWU
             clear HTU HKP HD HPX HPY HSU p0 p1 p2 p3 p4 u1 u2 u3 u4 HTT HTL HGN HW3 HBU HCU hk1 hk2
             obtain⟨t0,t3,t4⟩:=HGT.out U (Below.refl _ _)
             go_upto_region 9 with(go_at_call 5;refine(HGU.out _ (HCT.out _ (Below.refl _ _))).mono ?_;rintro e9 w17 ⟨rfl,hb17⟩)
             have K1:Hid (Below U.heap.size U w17):=hb17
             clear hb17 t0 t3 t4
             obtain⟨p0,p1,p2,p3,p4⟩:=HF.out w17 (HFU.out.trans (K1.out.mono HFU.out.size))
             go_upto_region 10 with(go_at_call 8;refine(HW1.out _ (HC1.out _ (HFU.out.trans (K1.out.mono HFU.out.size)))).mono ?_;rintro e9 w18 ⟨rfl,hb18⟩)
             have K2:Hid (Below U.heap.size U w18):=K1.out.trans (hb18.mono K1.out.size)
             clear hb18 p0 p1 p2 p3 p4
             obtain⟨p0,p1,p2,p3,p4⟩:=HF.out w18 (HFU.out.trans (K2.out.mono HFU.out.size))
             go_upto_region 11 with(go_at_call 8;refine(HW2.out _ (HC2.out _ (HFU.out.trans (K2.out.mono HFU.out.size)))).mono ?_;rintro e9 w19 ⟨rfl,hb19⟩)
             have K3:Hid (Below U.heap.size U w19):=K2.out.trans (hb19.mono K2.out.size)
             clear hb19 p0 p1 p2 p3 p4
             obtain⟨t0,t3,t4⟩:=HGT.out w19 K3.out
             go_upto_region 12 with(go_at_call 8;refine(HWU.out _ (HCT.out _ K3.out)).mono ?_;rintro e9 w20 ⟨rfl,hb20⟩)
             have K4:Hid (Below U.heap.size U w20):=K3.out.trans (hb20.mono K3.out.size)
             clear hb20 t0 t3 t4
             go_wp2
             go_ret
             exact⟨by first|rfl|simp,HFN.out.trans (K4.out.mono HFN.out.size)⟩
           · go_simp
             have HBA:Hid (Below w3.heap.size w3 (w3.drew.alloc (.cells #[.slice none 0 0,.int .i64 0] 24))):=HD.out.alloc (Nat.le_refl _) _
             have HTA:Hid ((w3.drew.alloc (.cells #[.slice none 0 0,.int .i64 0] 24)).heap[w3.drew.heap.size]?=some (.cells #[.slice none 0 0,.int .i64 0] 24 (0,0))):=alloc_at rfl
             refine hK.out _ _ (HKP.out _ HBA.out) (fun hHeld=>?_)
             clear hK K
             try simp only[Act.put]
             refine rd1 16 (fun K hK=>?_)
             go_simp
             go_wp2_with (go_at_call 6;refine(HSU.out k1 k2 _ hk1 hk2 HBA.out).mono ?_;rintro e9 w16 ⟨a16,cap16,T,rfl,HTT,hc16,hb16⟩)
             have HB16:Hid (Below w3.heap.size w3 w16):=HBA.out.trans (hb16.mono HBA.out.size)
             have HC16:Hid (Crs w16 w16.heap.size (.slice a16 T.length cap16) T):=hc16
             have HB16V:Hid (Below ((w3.drew.alloc (.cells #[.slice none 0 0,.int .i64 0] 24))).heap.size ((w3.drew.alloc (.cells #[.slice none 0 0,.int .i64 0] 24))) w16):=hb16
             clear hc16 hb16
             refine hK.out _ _ (HKP.out _ HB16.out) (fun hHeld=>?_)
             clear hK K
             refine tk 17 (h:=?_)
             try simp only[List.getElem_toArray,List.getElem_cons_succ,List.getElem_cons_zero]
             refine tk 18 (h:=?_)
             try simp only[List.getElem_toArray,List.getElem_cons_succ,List.getElem_cons_zero]
             refine tk 19 (h:=?_)
             try simp only[List.getElem_toArray,List.getElem_cons_succ,List.getElem_cons_zero]
             try simp only[Act.put]
             have HT16:Hid (w16.heap[w3.heap.size]?=some (.cells #[.slice none 0 0,.int .i64 0] 24 (0,0))):=(HB16V.out.block _ (Array.getElem?_eq_some_iff.1 HTA.out).1).trans HTA.out
             have y0:w16.cell? ⟨w3.heap.size,0,none⟩=some (.slice none 0 0):=block_cell HT16.out rfl
             have y1:w16.cell? ⟨w3.heap.size,1,none⟩=some (.int .i64 0):=block_cell HT16.out rfl
             have y2:w3.heap.size<w16.heap.size:=(Array.getElem?_eq_some_iff.1 HT16.out).1
             have y3:w16.frozen? ⟨w3.heap.size,0,none⟩=false:=block_frozen HT16.out
             have y4:w16.frozen? ⟨w3.heap.size,1,none⟩=false:=block_frozen HT16.out
             have HBS:Hid (Below w3.heap.size w3 ((w16.setCell ⟨w3.heap.size,0,none⟩ (.slice a16 T.length cap16)).setCell ⟨w3.heap.size,1,none⟩ (.int .i64 0))):=below_st2W HB16.out HB16.out.size (Nat.le_refl _)
             refine rd1 21 (fun K hK=>?_)
             go_simp
             refine hK.out _ _ (HKP.out _ HBS.out) (fun hHeld=>?_)
             clear hK K y0 y1 y2 y3 y4
             refine tk 22 (h:=?_)
             try simp only[List.getElem_toArray,List.getElem_cons_succ,List.getElem_cons_zero]
             try simp only[Act.put]
             refine wpAnyH_done (by kernel_rfl) ?_ _
             try simp only[Act.put]
             obtain⟨U,hU⟩:∃ U,U=((w16.setCell ⟨w3.heap.size,0,none⟩ (.slice a16 T.length cap16)).setCell ⟨w3.heap.size,1,none⟩ (.int .i64 0)):=⟨_,rfl⟩
             have HTU:Hid (U.heap[w3.heap.size]?=some (.cells #[.slice a16 T.length cap16,.int .i64 0] 24 (0,0))):=(by rw[hU];exact st_boxW rfl HT16.out:U.heap[w3.heap.size]?=_)
             have HCU:Hid (Crs U U.heap.size (.slice a16 T.length cap16) T):=(by rw[hU];exact crs_st2W HT16.out HC16.out:Crs U U.heap.size (.slice a16 T.length cap16) T)
             have HBU:Hid (Below X.heap.size X U):=(by rw[hU];exact H3.out.trans (HBS.out.mono H3.out.size):Below X.heap.size X U)
             rw[<-hU]
             clear hU HBS HBA HTA HB16 HB16V HT16 HC16
             clear hHeld
             have HGT:Hid (BxW U w3.heap.size a16 T.length cap16):=bxW HTU.out
             have HCT:Hid (∀ W,Below U.heap.size U W->Crs W W.heap.size (.slice a16 T.length cap16) T):=fun W hW=>(HCU.out.up hW)
             have HFU:Hid (Below X.heap.size X U):=HBU.out
             have HFN:Hid (Below w.heap.size w U):=HBX.out.trans (HFU.out.mono HBX.out.size)
             obtain⟨u1,u2,u3,u4⟩:=HTL.out k1 k2 T hk1 hk2 HTT.out
             have HGU:=hidS (fun W h=>HGN.out (.slice a16 T.length cap16) T W u1 u2 h)
             rw[u2,if_pos rfl,u3]at HGU
             have HWU:=hidS (fun W h=>HW3.out (.slice a16 T.length cap16) T W u1 h)
             rw[u4]at HWU
             clear HTU HKP HD HPX HPY HSU p0 p1 p2 p3 p4 u1 u2 u3 u4 HTT HTL HGN HW3 HBU HCU hk1 hk2
             obtain⟨t0,t3,t4⟩:=HGT.out U (Below.refl _ _)
             go_upto_region 9 with(go_at_call 5;refine(HGU.out _ (HCT.out _ (Below.refl _ _))).mono ?_;rintro e9 w17 ⟨rfl,hb17⟩)
             have K1:Hid (Below U.heap.size U w17):=hb17
             clear hb17 t0 t3 t4
             obtain⟨p0,p1,p2,p3,p4⟩:=HF.out w17 (HFU.out.trans (K1.out.mono HFU.out.size))
             go_upto_region 10 with(go_at_call 8;refine(HW1.out _ (HC1.out _ (HFU.out.trans (K1.out.mono HFU.out.size)))).mono ?_;rintro e9 w18 ⟨rfl,hb18⟩)
             have K2:Hid (Below U.heap.size U w18):=K1.out.trans (hb18.mono K1.out.size)
             clear hb18 p0 p1 p2 p3 p4
             obtain⟨p0,p1,p2,p3,p4⟩:=HF.out w18 (HFU.out.trans (K2.out.mono HFU.out.size))
             go_upto_region 11 with(go_at_call 8;refine(HW2.out _ (HC2.out _ (HFU.out.trans (K2.out.mono HFU.out.size)))).mono ?_;rintro e9 w19 ⟨rfl,hb19⟩)
             have K3:Hid (Below U.heap.size U w19):=K2.out.trans (hb19.mono K2.out.size)
             clear hb19 p0 p1 p2 p3 p4
             obtain⟨t0,t3,t4⟩:=HGT.out w19 K3.out
             go_upto_region 12 with(go_at_call 8;refine(HWU.out _ (HCT.out _ K3.out)).mono ?_;rintro e9 w20 ⟨rfl,hb20⟩)
             have K4:Hid (Below U.heap.size U w20):=K3.out.trans (hb20.mono K3.out.size)
             clear hb20 t0 t3 t4
             go_wp2
             go_ret
             exact⟨by first|rfl|simp,HFN.out.trans (K4.out.mono HFN.out.size)⟩
         · go_simp
           have HBA:Hid (Below w3.heap.size w3 (w3.drew.alloc (.cells #[.slice none 0 0,.int .i64 0] 24))):=HD.out.alloc (Nat.le_refl _) _
           have HTA:Hid ((w3.drew.alloc (.cells #[.slice none 0 0,.int .i64 0] 24)).heap[w3.drew.heap.size]?=some (.cells #[.slice none 0 0,.int .i64 0] 24 (0,0))):=alloc_at rfl
           refine hK.out _ _ (HKP.out _ HBA.out) (fun hHeld=>?_)
           clear hK K
           try simp only[Act.put]
           refine rd1 14 (fun K hK=>?_)
           go_simp
           go_wp2_with (go_at_call 7;refine(HPY.out _).mono ?_;rintro e9 w15 ⟨k2,rfl,hk2,e99⟩;obtain rfl:=e99.symm;clear e99)
           refine hK.out _ _ (HKP.out _ HBA.out) (fun hHeld=>?_)
           clear hK K
           try simp only[Act.put]
           have hd2:IntKind.i64.wrap (1+(k2:Int))=((k2+1:Nat):Int):=(by rw[IntWalk.i64_in _ (by omega)];omega)
           refine tk 15 (h:=?_)
           try simp only[List.getElem_toArray,List.getElem_cons_succ,List.getElem_cons_zero]
           try simp only[Act.put]
           refine rd1 16 (fun K hK=>?_)
           go_simp
           go_wp2_with (go_at_call 6;refine(HSU.out k1 k2 _ hk1 hk2 HBA.out).mono ?_;rintro e9 w16 ⟨a16,cap16,T,rfl,HTT,hc16,hb16⟩)
           have HB16:Hid (Below w3.heap.size w3 w16):=HBA.out.trans (hb16.mono HBA.out.size)
           have HC16:Hid (Crs w16 w16.heap.size (.slice a16 T.length cap16) T):=hc16
           have HB16V:Hid (Below ((w3.drew.alloc (.cells #[.slice none 0 0,.int .i64 0] 24))).heap.size ((w3.drew.alloc (.cells #[.slice none 0 0,.int .i64 0] 24))) w16):=hb16
           clear hc16 hb16
           refine hK.out _ _ (HKP.out _ HB16.out) (fun hHeld=>?_)
           clear hK K
           refine tk 17 (h:=?_)
           try simp only[List.getElem_toArray,List.getElem_cons_succ,List.getElem_cons_zero]
           refine tk 18 (h:=?_)
           try simp only[List.getElem_toArray,List.getElem_cons_succ,List.getElem_cons_zero]
           refine tk 19 (h:=?_)
           try simp only[List.getElem_toArray,List.getElem_cons_succ,List.getElem_cons_zero]
           try simp only[Act.put]
           have HT16:Hid (w16.heap[w3.heap.size]?=some (.cells #[.slice none 0 0,.int .i64 0] 24 (0,0))):=(HB16V.out.block _ (Array.getElem?_eq_some_iff.1 HTA.out).1).trans HTA.out
           have y0:w16.cell? ⟨w3.heap.size,0,none⟩=some (.slice none 0 0):=block_cell HT16.out rfl
           have y1:w16.cell? ⟨w3.heap.size,1,none⟩=some (.int .i64 0):=block_cell HT16.out rfl
           have y2:w3.heap.size<w16.heap.size:=(Array.getElem?_eq_some_iff.1 HT16.out).1
           have y3:w16.frozen? ⟨w3.heap.size,0,none⟩=false:=block_frozen HT16.out
           have y4:w16.frozen? ⟨w3.heap.size,1,none⟩=false:=block_frozen HT16.out
           have HBS:Hid (Below w3.heap.size w3 ((w16.setCell ⟨w3.heap.size,0,none⟩ (.slice a16 T.length cap16)).setCell ⟨w3.heap.size,1,none⟩ (.int .i64 0))):=below_st2W HB16.out HB16.out.size (Nat.le_refl _)
           refine rd1 21 (fun K hK=>?_)
           go_simp
           refine hK.out _ _ (HKP.out _ HBS.out) (fun hHeld=>?_)
           clear hK K y0 y1 y2 y3 y4
           refine tk 22 (h:=?_)
           try simp only[List.getElem_toArray,List.getElem_cons_succ,List.getElem_cons_zero]
           try simp only[Act.put]
           refine wpAnyH_done (by kernel_rfl) ?_ _
           try simp only[Act.put]
           obtain⟨U,hU⟩:∃ U,U=((w16.setCell ⟨w3.heap.size,0,none⟩ (.slice a16 T.length cap16)).setCell ⟨w3.heap.size,1,none⟩ (.int .i64 0)):=⟨_,rfl⟩
           have HTU:Hid (U.heap[w3.heap.size]?=some (.cells #[.slice a16 T.length cap16,.int .i64 0] 24 (0,0))):=(by rw[hU];exact st_boxW rfl HT16.out:U.heap[w3.heap.size]?=_)
           have HCU:Hid (Crs U U.heap.size (.slice a16 T.length cap16) T):=(by rw[hU];exact crs_st2W HT16.out HC16.out:Crs U U.heap.size (.slice a16 T.length cap16) T)
           have HBU:Hid (Below X.heap.size X U):=(by rw[hU];exact H3.out.trans (HBS.out.mono H3.out.size):Below X.heap.size X U)
           rw[<-hU]
           clear hU HBS HBA HTA HB16 HB16V HT16 HC16
           clear hHeld
           have HGT:Hid (BxW U w3.heap.size a16 T.length cap16):=bxW HTU.out
           have HCT:Hid (∀ W,Below U.heap.size U W->Crs W W.heap.size (.slice a16 T.length cap16) T):=fun W hW=>(HCU.out.up hW)
           have HFU:Hid (Below X.heap.size X U):=HBU.out
           have HFN:Hid (Below w.heap.size w U):=HBX.out.trans (HFU.out.mono HBX.out.size)
           obtain⟨u1,u2,u3,u4⟩:=HTL.out k1 k2 T hk1 hk2 HTT.out
           have HGU:=hidS (fun W h=>HGN.out (.slice a16 T.length cap16) T W u1 u2 h)
           rw[u2,if_pos rfl,u3]at HGU
           have HWU:=hidS (fun W h=>HW3.out (.slice a16 T.length cap16) T W u1 h)
           rw[u4]at HWU
           clear HTU HKP HD HPX HPY HSU p0 p1 p2 p3 p4 u1 u2 u3 u4 HTT HTL HGN HW3 HBU HCU hk1 hk2
           obtain⟨t0,t3,t4⟩:=HGT.out U (Below.refl _ _)
           go_upto_region 9 with(go_at_call 5;refine(HGU.out _ (HCT.out _ (Below.refl _ _))).mono ?_;rintro e9 w17 ⟨rfl,hb17⟩)
           have K1:Hid (Below U.heap.size U w17):=hb17
           clear hb17 t0 t3 t4
           obtain⟨p0,p1,p2,p3,p4⟩:=HF.out w17 (HFU.out.trans (K1.out.mono HFU.out.size))
           go_upto_region 10 with(go_at_call 8;refine(HW1.out _ (HC1.out _ (HFU.out.trans (K1.out.mono HFU.out.size)))).mono ?_;rintro e9 w18 ⟨rfl,hb18⟩)
           have K2:Hid (Below U.heap.size U w18):=K1.out.trans (hb18.mono K1.out.size)
           clear hb18 p0 p1 p2 p3 p4
           obtain⟨p0,p1,p2,p3,p4⟩:=HF.out w18 (HFU.out.trans (K2.out.mono HFU.out.size))
           go_upto_region 11 with(go_at_call 8;refine(HW2.out _ (HC2.out _ (HFU.out.trans (K2.out.mono HFU.out.size)))).mono ?_;rintro e9 w19 ⟨rfl,hb19⟩)
           have K3:Hid (Below U.heap.size U w19):=K2.out.trans (hb19.mono K2.out.size)
           clear hb19 p0 p1 p2 p3 p4
           obtain⟨t0,t3,t4⟩:=HGT.out w19 K3.out
           go_upto_region 12 with(go_at_call 8;refine(HWU.out _ (HCT.out _ K3.out)).mono ?_;rintro e9 w20 ⟨rfl,hb20⟩)
           have K4:Hid (Below U.heap.size U w20):=K3.out.trans (hb20.mono K3.out.size)
           clear hb20 t0 t3 t4
           go_wp2
           go_ret
           exact⟨by first|rfl|simp,HFN.out.trans (K4.out.mono HFN.out.size)⟩
       · go_simp
         have HBA:Hid (Below w3.heap.size w3 (w3.drew.alloc (.cells #[.slice none 0 0,.int .i64 0] 24))):=HD.out.alloc (Nat.le_refl _) _
         have HTA:Hid ((w3.drew.alloc (.cells #[.slice none 0 0,.int .i64 0] 24)).heap[w3.drew.heap.size]?=some (.cells #[.slice none 0 0,.int .i64 0] 24 (0,0))):=alloc_at rfl
         refine hK.out _ _ (HKP.out _ HBA.out) (fun hHeld=>?_)
         clear hK K
         try simp only[Act.put]
         refine rd1 6 (fun K hK=>?_)
         go_simp
         go_wp2_with (go_at_call 7;refine(HPX.out _).mono ?_;rintro e9 w14 ⟨k1,rfl,hk1,e99⟩;obtain rfl:=e99.symm;clear e99)
         refine hK.out _ _ (HKP.out _ HBA.out) (fun hHeld=>?_)
         clear hK K
         try simp only[Act.put]
         have hd1:IntKind.i64.wrap (1+(k1:Int))=((k1+1:Nat):Int):=(by rw[IntWalk.i64_in _ (by omega)];omega)
         refine tk 7 (h:=?_)
         try simp only[Act.put]
         refine rd1 14 (fun K hK=>?_)
         go_simp
         go_wp2_with (go_at_call 7;refine(HPY.out _).mono ?_;rintro e9 w15 ⟨k2,rfl,hk2,e99⟩;obtain rfl:=e99.symm;clear e99)
         refine hK.out _ _ (HKP.out _ HBA.out) (fun hHeld=>?_)
         clear hK K
         try simp only[Act.put]
         have hd2:IntKind.i64.wrap (1+(k2:Int))=((k2+1:Nat):Int):=(by rw[IntWalk.i64_in _ (by omega)];omega)
         refine tk 15 (h:=?_)
         try simp only[List.getElem_toArray,List.getElem_cons_succ,List.getElem_cons_zero]
         try simp only[Act.put]
         refine rd1 16 (fun K hK=>?_)
         go_simp
         go_wp2_with (go_at_call 6;refine(HSU.out k1 k2 _ hk1 hk2 HBA.out).mono ?_;rintro e9 w16 ⟨a16,cap16,T,rfl,HTT,hc16,hb16⟩)
         have HB16:Hid (Below w3.heap.size w3 w16):=HBA.out.trans (hb16.mono HBA.out.size)
         have HC16:Hid (Crs w16 w16.heap.size (.slice a16 T.length cap16) T):=hc16
         have HB16V:Hid (Below ((w3.drew.alloc (.cells #[.slice none 0 0,.int .i64 0] 24))).heap.size ((w3.drew.alloc (.cells #[.slice none 0 0,.int .i64 0] 24))) w16):=hb16
         clear hc16 hb16
         refine hK.out _ _ (HKP.out _ HB16.out) (fun hHeld=>?_)
         clear hK K
         refine tk 17 (h:=?_)
         try simp only[List.getElem_toArray,List.getElem_cons_succ,List.getElem_cons_zero]
         refine tk 18 (h:=?_)
         try simp only[List.getElem_toArray,List.getElem_cons_succ,List.getElem_cons_zero]
         refine tk 19 (h:=?_)
         try simp only[List.getElem_toArray,List.getElem_cons_succ,List.getElem_cons_zero]
         try simp only[Act.put]
         have HT16:Hid (w16.heap[w3.heap.size]?=some (.cells #[.slice none 0 0,.int .i64 0] 24 (0,0))):=(HB16V.out.block _ (Array.getElem?_eq_some_iff.1 HTA.out).1).trans HTA.out
         have y0:w16.cell? ⟨w3.heap.size,0,none⟩=some (.slice none 0 0):=block_cell HT16.out rfl
         have y1:w16.cell? ⟨w3.heap.size,1,none⟩=some (.int .i64 0):=block_cell HT16.out rfl
         have y2:w3.heap.size<w16.heap.size:=(Array.getElem?_eq_some_iff.1 HT16.out).1
         have y3:w16.frozen? ⟨w3.heap.size,0,none⟩=false:=block_frozen HT16.out
         have y4:w16.frozen? ⟨w3.heap.size,1,none⟩=false:=block_frozen HT16.out
         have HBS:Hid (Below w3.heap.size w3 ((w16.setCell ⟨w3.heap.size,0,none⟩ (.slice a16 T.length cap16)).setCell ⟨w3.heap.size,1,none⟩ (.int .i64 0))):=below_st2W HB16.out HB16.out.size (Nat.le_refl _)
         refine rd1 21 (fun K hK=>?_)
         go_simp
         refine hK.out _ _ (HKP.out _ HBS.out) (fun hHeld=>?_)
         clear hK K y0 y1 y2 y3 y4
         refine tk 22 (h:=?_)
         try simp only[List.getElem_toArray,List.getElem_cons_succ,List.getElem_cons_zero]
         try simp only[Act.put]
         refine wpAnyH_done (by kernel_rfl) ?_ _
         try simp only[Act.put]
         obtain⟨U,hU⟩:∃ U,U=((w16.setCell ⟨w3.heap.size,0,none⟩ (.slice a16 T.length cap16)).setCell ⟨w3.heap.size,1,none⟩ (.int .i64 0)):=⟨_,rfl⟩
         have HTU:Hid (U.heap[w3.heap.size]?=some (.cells #[.slice a16 T.length cap16,.int .i64 0] 24 (0,0))):=(by rw[hU];exact st_boxW rfl HT16.out:U.heap[w3.heap.size]?=_)
         have HCU:Hid (Crs U U.heap.size (.slice a16 T.length cap16) T):=(by rw[hU];exact crs_st2W HT16.out HC16.out:Crs U U.heap.size (.slice a16 T.length cap16) T)
         have HBU:Hid (Below X.heap.size X U):=(by rw[hU];exact H3.out.trans (HBS.out.mono H3.out.size):Below X.heap.size X U)
         rw[<-hU]
         clear hU HBS HBA HTA HB16 HB16V HT16 HC16
         clear hHeld
         have HGT:Hid (BxW U w3.heap.size a16 T.length cap16):=bxW HTU.out
         have HCT:Hid (∀ W,Below U.heap.size U W->Crs W W.heap.size (.slice a16 T.length cap16) T):=fun W hW=>(HCU.out.up hW)
         have HFU:Hid (Below X.heap.size X U):=HBU.out
         have HFN:Hid (Below w.heap.size w U):=HBX.out.trans (HFU.out.mono HBX.out.size)
         obtain⟨u1,u2,u3,u4⟩:=HTL.out k1 k2 T hk1 hk2 HTT.out
         have HGU:=hidS (fun W h=>HGN.out (.slice a16 T.length cap16) T W u1 u2 h)
         rw[u2,if_pos rfl,u3]at HGU
         have HWU:=hidS (fun W h=>HW3.out (.slice a16 T.length cap16) T W u1 h)
         rw[u4]at HWU
         clear HTU HKP HD HPX HPY HSU p0 p1 p2 p3 p4 u1 u2 u3 u4 HTT HTL HGN HW3 HBU HCU hk1 hk2
         obtain⟨t0,t3,t4⟩:=HGT.out U (Below.refl _ _)
         go_upto_region 9 with(go_at_call 5;refine(HGU.out _ (HCT.out _ (Below.refl _ _))).mono ?_;rintro e9 w17 ⟨rfl,hb17⟩)
         have K1:Hid (Below U.heap.size U w17):=hb17
         clear hb17 t0 t3 t4
         obtain⟨p0,p1,p2,p3,p4⟩:=HF.out w17 (HFU.out.trans (K1.out.mono HFU.out.size))
         go_upto_region 10 with(go_at_call 8;refine(HW1.out _ (HC1.out _ (HFU.out.trans (K1.out.mono HFU.out.size)))).mono ?_;rintro e9 w18 ⟨rfl,hb18⟩)
         have K2:Hid (Below U.heap.size U w18):=K1.out.trans (hb18.mono K1.out.size)
         clear hb18 p0 p1 p2 p3 p4
         obtain⟨p0,p1,p2,p3,p4⟩:=HF.out w18 (HFU.out.trans (K2.out.mono HFU.out.size))
         go_upto_region 11 with(go_at_call 8;refine(HW2.out _ (HC2.out _ (HFU.out.trans (K2.out.mono HFU.out.size)))).mono ?_;rintro e9 w19 ⟨rfl,hb19⟩)
         have K3:Hid (Below U.heap.size U w19):=K2.out.trans (hb19.mono K2.out.size)
         clear hb19 p0 p1 p2 p3 p4
         obtain⟨t0,t3,t4⟩:=HGT.out w19 K3.out
         go_upto_region 12 with(go_at_call 8;refine(HWU.out _ (HCT.out _ K3.out)).mono ?_;rintro e9 w20 ⟨rfl,hb20⟩)
         have K4:Hid (Below U.heap.size U w20):=K3.out.trans (hb20.mono K3.out.size)
         clear hb20 t0 t3 t4
         go_wp2
         go_ret
         exact⟨by first|rfl|simp,HFN.out.trans (K4.out.mono HFN.out.size)⟩
     · have hgt:(C.length:Int)+(D.length:Int) > 16:=by omega
       have hgt2:decide (16<(C.length:Int)+(D.length:Int))=true:=decide_eq_true (by omega)
       subst q1 q2
       go_wp2
       go_ret
       exact⟨by first|rfl|simp,HE3.out⟩
   · have hne:(r2 != 0)=true:=by simpa using q2
     subst q1
     go_wp2
     go_ret
     exact⟨by first|rfl|simp,HE3.out⟩
 · have hne:(r1 != 0)=true:=by simpa using q1
   go_wp2
   go_ret
   exact⟨by first|rfl|simp,HE3.out⟩
end Go.Proofs.YtnemnpcbhfedcaaGreatDoor
