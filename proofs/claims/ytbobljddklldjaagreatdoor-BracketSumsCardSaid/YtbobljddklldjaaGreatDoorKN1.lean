/- What all layers tell of the trefoil; the walk of knotworkkeep.knows. -/
import Derived.Test.YtbobljddklldjaaGreatDoorA0t
import Derived.Test.YtbobljddklldjaaGreatDoorSQ3P
import Derived.Test.YtbobljddklldjaaGreatDoorAX1P
import Derived.Test.YtbobljddklldjaaGreatDoorQ2P
import Derived.Test.YtbobljddklldjaaGreatDoorF7P
import Derived.Test.YtbobljddklldjaaGreatDoorBKaP
namespace Go.Proofs.YtbobljddklldjaaGreatDoor
open Go.RowKit Go.Maps
set_option maxHeartbeats 4000000
set_option maxRecDepth 100000
def trS (f:Nat):Nat:=if f=1∨f=2∨f=4 then 1 else 0
theorem trS_arc:∀ j,j<13->1<=j->trS (fo trC (tn j))=1-trS (fo trC j):=by decide +kernel
theorem trS_shd:Shd trC trS:=⟨rfl,fun f=>by unfold trS;split<;>omega,fun j h1 h2=>trS_arc j (by have:trC.length=3:=rfl;omega) h1⟩
theorem tr_no:noN trC 0=0:=by unfold noN;rw[if_pos trC_may,if_pos trC_planar]
theorem tr_one:oneB trC 0=true:=by decide +kernel
theorem tr_wr:wrM trC trC.length = -3:=by decide +kernel
theorem tr_cn:cnS trS 0 (facesM trC).length=1+1:=by decide +kernel
theorem tr_sig:sigN trC trS 1 = -2:=by decide +kernel
theorem tr_ov:ovC trC=3:=by decide +kernel
theorem tr_eq:∀ i,i<3->(3:Int) ∣ eqR trC i 0-eqR trC i 1/\(3:Int) ∣ eqR trC i 1-eqR trC i 2:=by decide +kernel
theorem tr_eq0:¬ (3:Int) ∣ eqR trC 0 0:=by decide +kernel
theorem tr_rows {v:Nat->Int} (h:Sp 3 3 (eqAll trC) v):(3:Int) ∣ v 0-v 1/\(3:Int) ∣ v 1-v 2:=by
 refine h (fun v=>(3:Int) ∣ v 0-v 1/\(3:Int) ∣ v 1-v 2) ⟨⟨by decide,by decide⟩,fun u v k hu hv=>⟨?_,?_⟩,fun u v hm hu=>?_⟩ ?_
 · have e:u 0+k*v 0-(u 1+k*v 1)=(u 0-u 1)+k*(v 0-v 1):=by rw[Int.mul_sub];omega
   show(3:Int) ∣ u 0+k*v 0-(u 1+k*v 1)
   rw[e]
   exact Int.dvd_add hu.1 (Int.dvd_mul_of_dvd_right hv.1)
 · have e:u 1+k*v 1-(u 2+k*v 2)=(u 1-u 2)+k*(v 1-v 2):=by rw[Int.mul_sub];omega
   show(3:Int) ∣ u 1+k*v 1-(u 2+k*v 2)
   rw[e]
   exact Int.dvd_add hu.2 (Int.dvd_mul_of_dvd_right hv.2)
 · have a0:=hm 0 (by omega)
   have a1:=hm 1 (by omega)
   have a2:=hm 2 (by omega)
   obtain⟨h1,h2⟩:=hu
   refine⟨?_,?_⟩<;>omega
 · rintro r ⟨i,hi,rfl⟩
   exact tr_eq i hi
theorem tr_fox:foxM trC 0 3=2:=by
 unfold foxM
 rw[tr_ov]
 have p0:pivP 3 3 (eqAll trC) 0:=⟨eqR trC 0,⟨Sp.mem ⟨0,by decide,rfl⟩,fun j hj=>absurd hj (Nat.not_lt_zero _)⟩,tr_eq0⟩
 have p1:¬ pivP 3 3 (eqAll trC) 1:=fun⟨v,⟨h1,h2⟩,h3⟩=>by
  obtain⟨a,b⟩:=tr_rows h1
  have c:=h2 0 (by omega)
  exact h3 (by omega)
 have p2:¬ pivP 3 3 (eqAll trC) 2:=fun⟨v,⟨h1,h2⟩,h3⟩=>by
  obtain⟨a,b⟩:=tr_rows h1
  have c:=h2 0 (by omega)
  exact h3 (by omega)
 rw[rkTo_no p2,rkTo_no p1,rkTo_yes p0]
 rfl
theorem tr_tab:alT trC 2=[[[(0,1)],[(1,-1)]],[[(0,-1),(1,1)],[(0,1)]]]:=by decide +kernel
theorem canon_three {a b c x y z:Int} (h1:a<b) (h2:b<c) (hx:x≠0) (hy:y≠0) (hz:z≠0):Poly.Canon [(a,x),(b,y),(c,z)] (Poly.coefL [(a,x),(b,y),(c,z)]):=by
 refine⟨?_,fun e k=>?_⟩
 · simp;omega
 · simp only[Poly.coefL,List.mem_cons,Prod.mk.injEq,List.not_mem_nil,or_false]
   by_cases c1:a=e
   · rw[if_pos c1,if_neg (by omega),if_neg (by omega)];omega
   · by_cases c2:b=e
     · rw[if_neg c1,if_pos c2,if_neg (by omega)];omega
     · by_cases c3:c=e
       · rw[if_neg c1,if_neg c2,if_pos c3];omega
       · rw[if_neg c1,if_neg c2,if_neg c3];omega
theorem tr_det:Poly.detOf [[[(0,1)],[(1,-1)]],[[(0,-1),(1,1)],[(0,1)]]]=Poly.coefL [(0,1),(1,-1),(2,1)]:=by
 funext y
 have e:Poly.detOf [[[(0,1)],[(1,-1)]],[[(0,-1),(1,1)],[(0,1)]]] y=(1*((1*Poly.oneF (y-0-0)+0)-0)+0)-((-1*((-1*Poly.oneF (y-1-0)+(1*Poly.oneF (y-1-1)+0))-0)+0)-0):=rfl
 rw[e]
 simp only[Poly.coefL,Poly.oneF]
 by_cases h0:y=0
 · subst h0;decide
 · by_cases h1:y=1
   · subst h1;decide
   · by_cases h2:y=2
     · subst h2;decide
     · rw[if_neg (by omega),if_neg (by omega),if_neg (by omega),if_neg (by omega),if_neg (by omega),if_neg (by omega)]
       decide
theorem tr_alex {l:List (Int×Int)} (h:IsAlex trC 0 l):l.length=3:=by
 unfold IsAlex at h
 rw[tr_ov,if_neg (by decide),if_neg (by decide)]at h
 obtain⟨l0,c0,rfl⟩:=h
 rw[show 3-1=2 from rfl,tr_tab,tr_det]at c0
 rw[Poly.canon_unique c0 (canon_three (by decide) (by decide) (by decide) (by decide) (by decide))]
 rfl
theorem tr_jn:Poly.jnE trC 0=[(4,1),(12,1),(16,-1)]:=by decide +kernel
theorem tr_jones {l:List (Int×Int)} (h:Poly.Canon l (Poly.jnF trC 0)):l.length=3:=by
 rw[Poly.jnE_is trC_may (by decide),tr_jn]at h
 rw[Poly.canon_unique h (canon_three (by decide) (by decide) (by decide) (by decide) (by decide))]
 rfl
theorem knows_any (w:World) (hR:Poly.RingAt w):Calls Tryz.prog 4 #[] w fun e w'=>e=.returned (.bool true)/\Below w.heap.size w w':=by
 have HWR:=hidS (fun v W h=>writhe_yes faceRingsA v trC 0 W tr_no h)
 have HFX:=hidS (fun v W h=>fox_yes faceRingsA v trC 0 3 W (by omega) (by decide) tr_no h)
 have HAX:=hidS (fun v W h=>alexander_yes faceRingsA v trC 0 W tr_no (by decide) h)
 have HSG:=hidS (fun v W h=>signature_yes v trC 0 trS 1 W trC_may trC_planar tr_one trS_shd tr_cn (by omega) h)
 have HJN:=hidS (fun v W h hr=>Poly.jones_yes faceRingsA v trC 0 0 W rfl tr_no (by decide) h hr)
 rw[tr_wr]at HWR
 rw[tr_fox]at HFX
 rw[tr_sig]at HSG
 have HRG:=hidS hR
 clear hR
 go_enter Tryz.func4,Tryz.ntmps4
 go_upto_region 2 with(go_at_call 10;refine(trefoil_any _).mono ?_;rintro e9 w1 ⟨a,c,rfl,hc,hb1⟩)
 have hlen:trC.length=3:=rfl
 obtain⟨X,hX⟩:∃ X,X=w1.alloc (.cells #[.slice a trC.length c,.int .i64 0] 24):=⟨_,rfl⟩
 rw[<-hX]
 have hsX:w1.heap.size<X.heap.size:=by rw[hX];simp
 have HT:Hid (X.heap[w1.heap.size]?=some (.cells #[.slice a trC.length c,.int .i64 0] 24 (0,0))):=(by rw[hX];exact alloc_at rfl:X.heap[w1.heap.size]?=some (.cells #[.slice a trC.length c,.int .i64 0] 24 (0,0)))
 have HBW:Hid (Below w.heap.size w X):=(by rw[hX];exact hb1.alloc hb1.size _:Below w.heap.size w X)
 have HC:Hid (∀ w',Below X.heap.size X w'->Crs w' w'.heap.size (.slice a trC.length c) trC):=fun w' hb=>(hc.up (by rw[hX];exact(Below.refl _ _).alloc (Nat.le_refl _) _)).up hb
 have HF:Hid (∀ w',Below X.heap.size X w'->w'.cell? ⟨w1.heap.size,0,none⟩=some (.slice a trC.length c)/\w'.cell? ⟨w1.heap.size,1,none⟩=some (.int .i64 0)/\w1.heap.size<w'.heap.size):=fun w' hb=>by
  have g:=(hb.block _ hsX).trans HT.out
  exact⟨block_cell g rfl,block_cell g rfl,(Array.getElem?_eq_some_iff.1 g).1⟩
 clear hX hc hb1 hlen hsX
 obtain⟨p0,p1,p2⟩:=HF.out X (Below.refl _ _)
 go_upto_region 3 with(go_at_call 11;refine(HWR.out _ _ (HC.out _ (Below.refl _ _))).mono ?_;rintro e9 w2 ⟨rfl,hb2⟩)
 have H2:Hid (Below X.heap.size X w2):=hb2
 clear hb2 p0 p1 p2
 obtain⟨p0,p1,p2⟩:=HF.out w2 H2.out
 go_upto_region 4 with(go_at_call 12;refine(HFX.out _ _ (HC.out _ H2.out)).mono ?_;rintro e9 w3 ⟨rfl,hb3⟩)
 have H3:Hid (Below X.heap.size X w3):=H2.out.trans (hb3.mono H2.out.size)
 clear hb3 p0 p1 p2
 obtain⟨p0,p1,p2⟩:=HF.out w3 H3.out
 go_upto_region 5 with(go_at_call 13;refine(HAX.out _ _ (HC.out _ H3.out)).mono ?_;rintro e9 w4 ⟨v4,l4,rfl,hp4,hi4,hb4⟩;obtain⟨a4,c4,e4,-⟩:=hp4.slice;rw[tr_alex hi4]at e4;subst e4)
 have H4:Hid (Below X.heap.size X w4):=H3.out.trans (hb4.mono H3.out.size)
 clear hb4 p0 p1 p2 hp4 hi4
 obtain⟨p0,p1,p2⟩:=HF.out w4 H4.out
 go_upto_region 6 with(go_at_call 14;refine(HSG.out _ _ (HC.out _ H4.out)).mono ?_;rintro e9 w5 ⟨rfl,hb5⟩)
 have H5:Hid (Below X.heap.size X w5):=H4.out.trans (hb5.mono H4.out.size)
 clear hb5 p0 p1 p2
 obtain⟨p0,p1,p2⟩:=HF.out w5 H5.out
 go_upto_region 7 with(go_at_call 5;refine(HJN.out _ _ (HC.out _ H5.out) ((HRG.out.any HBW.out).any H5.out)).mono ?_;rintro e9 w6 ⟨v6,l6,rfl,hp6,hi6,hb6⟩;obtain⟨a6,c6,e6,-⟩:=hp6.1.slice;rw[tr_jones hi6]at e6;subst e6)
 have H6:Hid (Below X.heap.size X w6):=H5.out.trans (hb6.mono H5.out.size)
 clear hb6 p0 p1 p2 hp6 hi6
 go_wp2
 go_ret
 exact⟨rfl,HBW.out.trans (H6.out.mono HBW.out.size)⟩
end Go.Proofs.YtbobljddklldjaaGreatDoor
