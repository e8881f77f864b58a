/- Several texts of the proof, one behind the other. -/
import Derived.Test.YtmnejkaihjpejaaGreatDoorA0t
import Derived.Test.YtmnejkaihjpejaaGreatDoorSQ3P
import Derived.Test.YtmnejkaihjpejaaGreatDoorAX1P
import Derived.Test.YtmnejkaihjpejaaGreatDoorQ4P
import Derived.Test.YtmnejkaihjpejaaGreatDoorF11P
import Derived.Test.YtmnejkaihjpejaaGreatDoorBKaP
import Derived.Test.YtmnejkaihjpejaaGreatDoorSQ1P
/- What all layers tell of the trefoil; the walk of knotworkkeep.knows. -/
namespace Go.Proofs.YtmnejkaihjpejaaGreatDoor
open Go.RowKit Go.Maps
set_option maxHeartbeats 4000000
set_option maxRecDepth 100000
def trS (f:Nat):Nat:=if f=1∨f=2∨f=4 then 1 else 0
theorem trS_arc:∀ j,j<13->1<=j->trS (fo trC (tn j))=1-trS (fo trC j):=by decide +kernel
theorem trS_shd:Shd trC trS:=⟨rfl,fun f=>by unfold trS;split<;>omega,fun j h1 h2=>trS_arc j (by have:trC.length=3:=rfl;omega) h1⟩
theorem tr_no:noN trC 0=0:=by unfold noN;rw[if_pos trC_may,if_pos trC_planar]
theorem tr_one:oneB trC 0=true:=by decide +kernel
theorem tr_wr:wrM trC trC.length = -3:=by decide +kernel
theorem tr_cn:cnS trS 0 (facesM trC).length=1+1:=by decide +kernel
theorem tr_sig:sigN trC trS 1 = -2:=by decide +kernel
theorem tr_ov:ovC trC=3:=by decide +kernel
theorem tr_eq:∀ i,i<3->(3:Int) ∣ eqR trC i 0-eqR trC i 1/\(3:Int) ∣ eqR trC i 1-eqR trC i 2:=by decide +kernel
theorem tr_eq0:¬ (3:Int) ∣ eqR trC 0 0:=by decide +kernel
theorem tr_rows {v:Nat->Int} (h:Sp 3 3 (eqAll trC) v):(3:Int) ∣ v 0-v 1/\(3:Int) ∣ v 1-v 2:=by
 refine h (fun v=>(3:Int) ∣ v 0-v 1/\(3:Int) ∣ v 1-v 2) ⟨⟨by decide,by decide⟩,fun u v k hu hv=>⟨?_,?_⟩,fun u v hm hu=>?_⟩ ?_
 · have e:u 0+k*v 0-(u 1+k*v 1)=(u 0-u 1)+k*(v 0-v 1):=by rw[Int.mul_sub];omega
   show(3:Int) ∣ u 0+k*v 0-(u 1+k*v 1)
   rw[e]
   exact Int.dvd_add hu.1 (Int.dvd_mul_of_dvd_right hv.1)
 · have e:u 1+k*v 1-(u 2+k*v 2)=(u 1-u 2)+k*(v 1-v 2):=by rw[Int.mul_sub];omega
   show(3:Int) ∣ u 1+k*v 1-(u 2+k*v 2)
   rw[e]
   exact Int.dvd_add hu.2 (Int.dvd_mul_of_dvd_right hv.2)
 · have a0:=hm 0 (by omega)
   have a1:=hm 1 (by omega)
   have a2:=hm 2 (by omega)
   obtain⟨h1,h2⟩:=hu
   refine⟨?_,?_⟩<;>omega
 · rintro r ⟨i,hi,rfl⟩
   exact tr_eq i hi
theorem tr_fox:foxM trC 0 3=2:=by
 unfold foxM
 rw[tr_ov]
 have p0:pivP 3 3 (eqAll trC) 0:=⟨eqR trC 0,⟨Sp.mem ⟨0,by decide,rfl⟩,fun j hj=>absurd hj (Nat.not_lt_zero _)⟩,tr_eq0⟩
 have p1:¬ pivP 3 3 (eqAll trC) 1:=fun⟨v,⟨h1,h2⟩,h3⟩=>by
  obtain⟨a,b⟩:=tr_rows h1
  have c:=h2 0 (by omega)
  exact h3 (by omega)
 have p2:¬ pivP 3 3 (eqAll trC) 2:=fun⟨v,⟨h1,h2⟩,h3⟩=>by
  obtain⟨a,b⟩:=tr_rows h1
  have c:=h2 0 (by omega)
  exact h3 (by omega)
 rw[rkTo_no p2,rkTo_no p1,rkTo_yes p0]
 rfl
theorem tr_tab:alT trC 2=[[[(0,1)],[(1,-1)]],[[(0,-1),(1,1)],[(0,1)]]]:=by decide +kernel
theorem canon_three {a b c x y z:Int} (h1:a<b) (h2:b<c) (hx:x≠0) (hy:y≠0) (hz:z≠0):Poly.Canon [(a,x),(b,y),(c,z)] (Poly.coefL [(a,x),(b,y),(c,z)]):=by
 refine⟨?_,fun e k=>?_⟩
 · simp;omega
 · simp only[Poly.coefL,List.mem_cons,Prod.mk.injEq,List.not_mem_nil,or_false]
   by_cases c1:a=e
   · rw[if_pos c1,if_neg (by omega),if_neg (by omega)];omega
   · by_cases c2:b=e
     · rw[if_neg c1,if_pos c2,if_neg (by omega)];omega
     · by_cases c3:c=e
       · rw[if_neg c1,if_neg c2,if_pos c3];omega
       · rw[if_neg c1,if_neg c2,if_neg c3];omega
theorem tr_det:Poly.detOf [[[(0,1)],[(1,-1)]],[[(0,-1),(1,1)],[(0,1)]]]=Poly.coefL [(0,1),(1,-1),(2,1)]:=by
 funext y
 have e:Poly.detOf [[[(0,1)],[(1,-1)]],[[(0,-1),(1,1)],[(0,1)]]] y=(1*((1*Poly.oneF (y-0-0)+0)-0)+0)-((-1*((-1*Poly.oneF (y-1-0)+(1*Poly.oneF (y-1-1)+0))-0)+0)-0):=rfl
 rw[e]
 simp only[Poly.coefL,Poly.oneF]
 by_cases h0:y=0
 · subst h0;decide
 · by_cases h1:y=1
   · subst h1;decide
   · by_cases h2:y=2
     · subst h2;decide
     · rw[if_neg (by omega),if_neg (by omega),if_neg (by omega),if_neg (by omega),if_neg (by omega),if_neg (by omega)]
       decide
theorem tr_alex {l:List (Int×Int)} (h:IsAlex trC 0 l):l.length=3:=by
 unfold IsAlex at h
 rw[tr_ov,if_neg (by decide),if_neg (by decide)]at h
 obtain⟨l0,c0,rfl⟩:=h
 rw[show 3-1=2 from rfl,tr_tab,tr_det]at c0
 rw[Poly.canon_unique c0 (canon_three (by decide) (by decide) (by decide) (by decide) (by decide))]
 rfl
theorem tr_jn:Poly.jnE trC 0=[(4,1),(12,1),(16,-1)]:=by decide +kernel
theorem tr_jones {l:List (Int×Int)} (h:Poly.Canon l (Poly.jnF trC 0)):l.length=3:=by
 rw[Poly.jnE_is trC_may (by decide),tr_jn]at h
 rw[Poly.canon_unique h (canon_three (by decide) (by decide) (by decide) (by decide) (by decide))]
 rfl
theorem knows_any (w:World) (hR:Poly.RingAt w):Calls Tryz.prog 4 #[] w fun e w'=>e=.returned (.bool true)/\Below w.heap.size w w':=by
 have HWR:=hidS (fun v W h=>writhe_yes faceRingsA v trC 0 W tr_no h)
 have HFX:=hidS (fun v W h=>fox_yes faceRingsA v trC 0 3 W (by omega) (by decide) tr_no h)
 have HAX:=hidS (fun v W h=>alexander_yes faceRingsA v trC 0 W tr_no (by decide) h)
 have HSG:=hidS (fun v W h=>signature_yes v trC 0 trS 1 W trC_may trC_planar tr_one trS_shd tr_cn (by omega) h)
 have HJN:=hidS (fun v W h hr=>Poly.jones_yes faceRingsA v trC 0 0 W rfl tr_no (by decide) h hr)
 rw[tr_wr]at HWR
 rw[tr_fox]at HFX
 rw[tr_sig]at HSG
 have HRG:=hidS hR
 clear hR
 go_enter Tryz.func4,Tryz.ntmps4
 go_upto_region 2 with(go_at_call 9;refine(trefoil_any _).mono ?_;rintro e9 w1 ⟨a,c,rfl,hc,hb1⟩)
 have hlen:trC.length=3:=rfl
 obtain⟨X,hX⟩:∃ X,X=w1.alloc (.cells #[.slice a trC.length c,.int .i64 0] 24):=⟨_,rfl⟩
 rw[<-hX]
 have hsX:w1.heap.size<X.heap.size:=by rw[hX];simp
 have HT:Hid (X.heap[w1.heap.size]?=some (.cells #[.slice a trC.length c,.int .i64 0] 24 (0,0))):=(by rw[hX];exact alloc_at rfl:X.heap[w1.heap.size]?=some (.cells #[.slice a trC.length c,.int .i64 0] 24 (0,0)))
 have HBW:Hid (Below w.heap.size w X):=(by rw[hX];exact hb1.alloc hb1.size _:Below w.heap.size w X)
 have HC:Hid (∀ w',Below X.heap.size X w'->Crs w' w'.heap.size (.slice a trC.length c) trC):=fun w' hb=>(hc.up (by rw[hX];exact(Below.refl _ _).alloc (Nat.le_refl _) _)).up hb
 have HF:Hid (∀ w',Below X.heap.size X w'->w'.cell? ⟨w1.heap.size,0,none⟩=some (.slice a trC.length c)/\w'.cell? ⟨w1.heap.size,1,none⟩=some (.int .i64 0)/\w1.heap.size<w'.heap.size):=fun w' hb=>by
  have g:=(hb.block _ hsX).trans HT.out
  exact⟨block_cell g rfl,block_cell g rfl,(Array.getElem?_eq_some_iff.1 g).1⟩
 clear hX hc hb1 hlen hsX
 obtain⟨p0,p1,p2⟩:=HF.out X (Below.refl _ _)
 go_upto_region 3 with(go_at_call 10;refine(HWR.out _ _ (HC.out _ (Below.refl _ _))).mono ?_;rintro e9 w2 ⟨rfl,hb2⟩)
 have H2:Hid (Below X.heap.size X w2):=hb2
 clear hb2 p0 p1 p2
 obtain⟨p0,p1,p2⟩:=HF.out w2 H2.out
 go_upto_region 4 with(go_at_call 8;refine(HFX.out _ _ (HC.out _ H2.out)).mono ?_;rintro e9 w3 ⟨rfl,hb3⟩)
 have H3:Hid (Below X.heap.size X w3):=H2.out.trans (hb3.mono H2.out.size)
 clear hb3 p0 p1 p2
 obtain⟨p0,p1,p2⟩:=HF.out w3 H3.out
 go_upto_region 5 with(go_at_call 11;refine(HAX.out _ _ (HC.out _ H3.out)).mono ?_;rintro e9 w4 ⟨v4,l4,rfl,hp4,hi4,hb4⟩;obtain⟨a4,c4,e4,-⟩:=hp4.slice;rw[tr_alex hi4]at e4;subst e4)
 have H4:Hid (Below X.heap.size X w4):=H3.out.trans (hb4.mono H3.out.size)
 clear hb4 p0 p1 p2 hp4 hi4
 obtain⟨p0,p1,p2⟩:=HF.out w4 H4.out
 go_upto_region 6 with(go_at_call 12;refine(HSG.out _ _ (HC.out _ H4.out)).mono ?_;rintro e9 w5 ⟨rfl,hb5⟩)
 have H5:Hid (Below X.heap.size X w5):=H4.out.trans (hb5.mono H4.out.size)
 clear hb5 p0 p1 p2
 obtain⟨p0,p1,p2⟩:=HF.out w5 H5.out
 go_upto_region 7 with(go_at_call 13;refine(HJN.out _ _ (HC.out _ H5.out) ((HRG.out.any HBW.out).any H5.out)).mono ?_;rintro e9 w6 ⟨v6,l6,rfl,hp6,hi6,hb6⟩;obtain⟨a6,c6,e6,-⟩:=hp6.1.slice;rw[tr_jones hi6]at e6;subst e6)
 have H6:Hid (Below X.heap.size X w6):=H5.out.trans (hb6.mono H5.out.size)
 clear hb6 p0 p1 p2 hp6 hi6
 go_wp2
 go_ret
 exact⟨rfl,HBW.out.trans (H6.out.mono HBW.out.size)⟩
end Go.Proofs.YtmnejkaihjpejaaGreatDoor
/- The law AlexColours: its walk. -/
namespace Go.Proofs.YtmnejkaihjpejaaGreatDoor
open Go.RowKit Go.Maps
set_option maxHeartbeats 8000000
set_option maxRecDepth 100000
theorem pickedX_any (x : Int) (n : Nat) (w : World) (hx : -9223372036854775808 ≤ x ∧ x ≤ 9223372036854775807) (h0 : 0 < n) (h1 : n ≤ 1000) :
    Calls Tryz.prog 5 #[.int .i64 x,.int .i64 (n:Nat)] w fun e w'=>∃ r:Nat,e=.returned (.int .i64 (r:Nat))/\r<n/\w'=w:=by
 have hz:((n:Int)==0)=false:=beq_eq_false_iff_ne.2 (by omega)
 by_cases hn:x<0
 · have hd:decide (x<0)=true:=decide_eq_true hn
   have e1:IntKind.i64.wrap (x+1)=x+1:=IntWalk.i64_in _ (by omega)
   have e2:IntKind.i64.wrap (-(x+1)) = -(x+1):=IntWalk.i64_in _ (by omega)
   obtain⟨q,hq⟩:∃ q:Nat,-(x+1)=(q:Int):=⟨(-(x+1)).toNat,by omega⟩
   have er:(q:Int).tmod (n:Int)=((q%n:Nat):Int):=rfl
   have hlt:=Nat.mod_lt q h0
   have e3:IntKind.i64.wrap ((q%n:Nat):Int)=((q%n:Nat):Int):=IntWalk.i64_in _ (by omega)
   go_enter Tryz.func5,Tryz.ntmps5
   go_wp2
   go_ret
   exact⟨q%n,by simp,hlt,rfl⟩
 · have hd:decide (x<0)=false:=decide_eq_false hn
   obtain⟨q,hq⟩:∃ q:Nat,x=(q:Int):=⟨x.toNat,by omega⟩
   subst hq
   have er:(q:Int).tmod (n:Int)=((q%n:Nat):Int):=rfl
   have hlt:=Nat.mod_lt q h0
   have e3:IntKind.i64.wrap ((q%n:Nat):Int)=((q%n:Nat):Int):=IntWalk.i64_in _ (by omega)
   go_enter Tryz.func5,Tryz.ntmps5
   go_wp2
   go_ret
   exact⟨q%n,by simp,hlt,rfl⟩
theorem shades_out (v : Value) (C : List Cr) (l : Int) (w : World) (h : Crs w w.heap.size v C) :
    Calls Tryz.prog 6 #[.agg #[v,.int .i64 l]] w fun e w'=>∃ u:Value,e=.returned (.tuple #[u,.int .i64 (oneN C l)])/\Below w.heap.size w w':=by
 by_cases hr:oneN C l=0
 · obtain⟨hm,hp,ho⟩:=oneN_zero hr
   obtain⟨s,hs⟩:=shd_ex hm hp ho
   rw[hr]
   exact(shades_yes v C l s w hm hp ho hs h).mono fun e w' ⟨g,he,_,hb⟩=>⟨_,he,hb⟩
 · exact(shades_no v C l w hr h).mono fun e w' ⟨he,hb⟩=>⟨_,he,hb⟩
theorem crs_sliceX {W:World} {B:Nat} {v:Value} {C:List Cr} (h:Crs W B v C):∃ a c,v=.slice a C.length c:=by
 obtain⟨a,c,e,-,-⟩:=h
 exact⟨a,c,e⟩
theorem box1X {w V:World} {a x:Value} (h:w.alloc (.cells #[a,x] 24)=V):∀ W,Below V.heap.size V W->W.cell? ⟨w.heap.size,0,none⟩=some a/\W.cell? ⟨w.heap.size,1,none⟩=some x/\w.heap.size<W.heap.size:=fun W hW=>by
 have g0:V.heap[w.heap.size]?=some (.cells #[a,x] 24 (0,0)):=by rw[<-h];exact alloc_at rfl
 have k0:=(hW.block _ (Array.getElem?_eq_some_iff.1 g0).1).trans g0
 exact⟨block_cell k0 rfl,block_cell k0 rfl,(Array.getElem?_eq_some_iff.1 k0).1⟩
theorem at_bd {L:List (Int×Int)} (h:Poly.mayB L=true) : -64000000<=Poly.atTo L (-1) L.length/\Poly.atTo L (-1) L.length<=64000000:=by
 have h1:=Poly.atTo_le L (-1) (Or.inr rfl) h L.length (Nat.le_refl _)
 have h2:=((Poly.may_iff L).1 h).1
 omega
theorem six_primes {w X:World} (h:w.alloc (.cells #[.int .i64 2,.int .i64 3,.int .i64 5,.int .i64 7,.int .i64 11,.int .i64 13] 3)=X) (r:Nat) (hr:r<6):∃ q:Nat,X.cell? ⟨w.heap.size,r,none⟩=some (.int .i64 (q:Int))/\primeN q=true/\2<=q/\q<=13:=by
 have g0:X.heap[w.heap.size]?=some (.cells #[.int .i64 2,.int .i64 3,.int .i64 5,.int .i64 7,.int .i64 11,.int .i64 13] 3 (0,0)):=by rw[<-h];exact alloc_at rfl
 have c:r=0∨r=1∨r=2∨r=3∨r=4∨r=5:=by omega
 rcases c with rfl|rfl|rfl|rfl|rfl|rfl
 · exact⟨2,block_cell g0 rfl,by decide,by decide,by decide⟩
 · exact⟨3,block_cell g0 rfl,by decide,by decide,by decide⟩
 · exact⟨5,block_cell g0 rfl,by decide,by decide,by decide⟩
 · exact⟨7,block_cell g0 rfl,by decide,by decide,by decide⟩
 · exact⟨11,block_cell g0 rfl,by decide,by decide,by decide⟩
 · exact⟨13,block_cell g0 rfl,by decide,by decide,by decide⟩
theorem alexColours_any (v : Value) (C : List Cr) (l x : Int) (w : World) (hx : -9223372036854775808 ≤ x ∧ x ≤ 9223372036854775807) (h1 : Crs w w.heap.size v C) (hR : Poly.RingAt w) :
    Calls Tryz.prog 3 #[.agg #[v,.int .i64 l],.int .i64 x] w fun e w'=>e=.returned (.bool true)/\Below w.heap.size w w':=by
 obtain⟨a1,c1,rfl⟩:=crs_sliceX h1
 obtain⟨n1,hN1⟩:∃ n,C.length=n:=⟨_,rfl⟩
 rw[hN1]at h1 ⊢
 have HN1:=hidS hN1
 clear hN1
 obtain⟨X,hX⟩:∃ X,w.alloc (.cells #[.slice a1 n1 c1,.int .i64 l] 24)=X:=⟨_,rfl⟩
 have hBX:Below w.heap.size w X:=by rw[<-hX];exact(Below.refl _ _).alloc (Nat.le_refl _) _
 have HF:=hidS (box1X hX)
 have HBX:=hidS hBX
 have HC1:=hidS (fun(W:World) (hW:Below X.heap.size X W)=>(h1.up hBX).up hW)
 have HRG:=hidS (fun(W:World) (hW:Below X.heap.size X W)=>(hR.any hBX).any hW)
 have HKN:=hidS (fun W hr=>knows_any W hr)
 have HXX:=hidS hX
 have HPX:Hid (∀ W,Calls Tryz.prog 5 #[.int .i64 x,.int .i64 6] W fun e w'=>∃ r:Nat,e=.returned (.int .i64 (r:Nat))/\r<6/\w'=W):=fun W=>pickedX_any x 6 W hx (by omega) (by omega)
 have HSH:=hidS (fun W h=>shades_out (.slice a1 n1 c1) C l W h)
 have HON:Hid (oneN C l=0->mayD C l=true/\planarB C=true/\oneB C l=true):=fun h=>oneN_zero h
 clear h1 hR hX hBX hx
 generalize oneN C l=r1 at HSH HON
 go_enter Tryz.func3,Tryz.ntmps3
 go_upto_region 3 with(go_at_call 4;rw[HXX.out];refine(HKN.out _ (HRG.out _ (Below.refl _ _))).mono ?_;rintro e9 w1 ⟨rfl,hb1⟩)
 have H1:Hid (Below X.heap.size X w1):=hb1
 clear hb1
 obtain⟨p0,p1,p4⟩:=HF.out w1 H1.out
 obtain⟨Y,hY⟩:∃ Y,w1.alloc (.cells #[.int .i64 2,.int .i64 3,.int .i64 5,.int .i64 7,.int .i64 11,.int .i64 13] 3)=Y:=⟨_,rfl⟩
 have HY:=hidS hY
 have H2:Hid (Below X.heap.size X Y):=(by rw[<-hY];exact H1.out.alloc H1.out.size _:Below X.heap.size X Y)
 have HSP:=hidS (fun r hr=>six_primes hY r hr)
 clear hY p0 p1 p4
 obtain⟨p0,p1,p4⟩:=HF.out Y H2.out
 go_upto_region 4 with(go_at_call 5;rw[HY.out];refine(HPX.out _).mono ?_;rintro e9 w2 ⟨r,rfl,hr,e99⟩;obtain rfl:=e99.symm;clear e99;obtain⟨q,hq,hq1,hq2,hq3⟩:=HSP.out r hr;have hri:(r:Int)<6:=(by omega))
 have HQ1:=hidS hq1
 clear hq hq1 HSP
 go_upto_region 5 with(go_at_call 6;refine(HSH.out _ (HC1.out _ H2.out)).mono ?_;rintro e9 w3 ⟨u3,rfl,hb3⟩)
 have H3:Hid (Below X.heap.size X w3):=H2.out.trans (hb3.mono H2.out.size)
 have HE3:Hid (Below w.heap.size w w3):=HBX.out.trans (H3.out.mono HBX.out.size)
 clear hb3 p0 p1 p4
 obtain⟨p0,p1,p4⟩:=HF.out w3 H3.out
 by_cases q1:¬ r1=0
 · have hne:(r1 != 0)=true:=by simpa using q1
   go_wp2
   go_ret
   exact⟨by first|rfl|simp,HE3.out⟩
 have q1:=Classical.not_not.1 q1
 subst q1
 by_cases q3:10<n1
 · have hgt2:decide (10<(n1:Int))=true:=decide_eq_true (by omega)
   go_wp2
   go_ret
   exact⟨by first|rfl|simp,HE3.out⟩
 have hgt2:decide (10<(n1:Int))=false:=decide_eq_false (by omega)
 obtain⟨hm,hp,ho⟩:=HON.out rfl
 obtain⟨s1,el,hcon⟩:=one_con hm ho
 have hn:noN C l=0:=by unfold noN;rw[if_pos hm,if_pos hp]
 have HDT:=hidS (fun W h=>alexDet_yes faceRingsA (.slice a1 n1 c1) C l W hn (by have:=HN1.out;omega) h)
 have HFX:=hidS (fun W h=>fox_yes faceRingsA (.slice a1 n1 c1) C l q W (by omega) HQ1.out hn h)
 have HDF:=hidS (fun(L:List (Int×Int)) (hA:IsAlex C l L)=>det_fox hm hp s1 hcon hq2 (by omega) HQ1.out el hA)
 have HAM:=hidS (fun(L:List (Int×Int)) (hA:IsAlex C l L)=>hA.may hm (by have:=HN1.out;omega))
 generalize foxM C l q=f1 at HFX HDF
 clear hm hp ho s1 el hcon hn HON HSH HPX HKN HRG
 go_upto_region 8 with(go_at_call 7;refine(HDT.out _ (HC1.out _ H3.out)).mono ?_;rintro e9 w4 ⟨L,rfl,hA,hb4⟩)
 have H4:Hid (Below X.heap.size X w4):=H3.out.trans (hb4.mono H3.out.size)
 have hdf:=HDF.out L hA
 have ham:=HAM.out L hA
 clear hb4 p0 p1 p4 hA hgt2 HDT HDF HAM
 have hbd : -64000000<=Poly.atTo L (-1) L.length/\Poly.atTo L (-1) L.length<=64000000:=at_bd ham
 generalize Poly.atTo L (-1) L.length=z at*
 have hd0:0<=max z (-z)/\max z (-z)<=64000000:=by omega
 generalize max z (-z)=d at*
 have HDD:=hidS hdf
 clear hdf ham hbd
 obtain⟨p0,p1,p4⟩:=HF.out w4 H4.out
 go_upto_region 9 with(go_at_call 8;refine(HFX.out _ (HC1.out _ H4.out)).mono ?_;rintro e9 w5 ⟨rfl,hb5⟩)
 have H5:Hid (Below X.heap.size X w5):=H4.out.trans (hb5.mono H4.out.size)
 have HE5:Hid (Below w.heap.size w w5):=HBX.out.trans (H5.out.mono HBX.out.size)
 clear hb5 p0 p1 p4
 have hqz:((q:Int)==0)=false:=beq_eq_false_iff_ne.2 (by omega)
 have hrm:=tmod_in (x:=d) (p:=q) (by omega) hd0.1
 have hw:IntKind.i64.wrap (d.tmod q)=d.tmod q:=IntWalk.i64_in _ (by omega)
 have hz:=tmod_zero d q
 obtain⟨t,ht⟩:∃ t,d.tmod q=t:=⟨_,rfl⟩
 rw[ht]at hw hz hrm
 obtain⟨b,hb1,hb2⟩:∃ b:Bool,decide (1<f1)=b/\(t==0)=b:=by
  refine⟨decide (1<f1),rfl,?_⟩
  rw[Bool.eq_iff_iff,beq_iff_eq,decide_eq_true_eq,hz]
  exact HDD.out.symm
 clear hz hd0 hrm HDD
 cases b
 · go_wp2
   go_ret
   exact⟨by first|rfl|simp,HE5.out⟩
 · go_wp2
   go_ret
   exact⟨by first|rfl|simp,HE5.out⟩
end Go.Proofs.YtmnejkaihjpejaaGreatDoor
