/- The walk of knotworkref.HomflyOf where a crossing is met below first. -/
import Derived.Test.YtefooihnoajnlaaHR3
import Derived.Test.YtefooihnoajnlaaTK1P
import Derived.Test.YtefooihnoajnlaaJ8
namespace Go.Proofs.Ytefooihnoajnlaa.Poly
open Go.RowKit Go.Maps
set_option maxHeartbeats 8000000
set_option maxRecDepth 100000
theorem smN_le {C:List Cr} {loops:Int} (hm:mayD C loops=true) {k:Nat}:smN C k<=2:=by
 have hr:=cntB_cnt (nfB (smL C k) (smP C k)) (2*C.length+1)
 have hc:(List.range 2).countP (fun _=>true)=2:=rfl
 have hto:∀ v,v<2*C.length+1->1<=v->nfB (smL C k) (smP C k) v=true->toC C v=k:=fun v h1 h2 h3=>Classical.byContradiction fun q=>by
  have h4:=((lfs_sm hm k).num h2 (by omega) q).1
  unfold nfB at h3
  simp only[Bool.and_eq_true,Bool.not_eq_true',decide_eq_true_eq]at h3
  rw[h3.2,h3.1]at h4
  cases h4
 show cntB (nfB (smL C k) (smP C k)) (2*C.length+1)<=2
 rw[hr]
 refine Nat.le_trans (?_:_<=(List.range 2).countP (fun _=>true)) (Nat.le_of_eq hc)
 refine inj_cnt (fun v=>toS C v%2) (fun v hv hP=>⟨by show toS C v%2<2;omega,rfl⟩) fun u v hu hv hPu hPv e=>?_
 simp only[Bool.and_eq_true,decide_eq_true_eq]at hPu hPv
 exact two_in hm hPu.1 (by omega) hPv.1 (by omega) ((hto u hu hPu.1 hPu.2).trans (hto v hv hPv.1 hPv.2).symm) e
theorem step_put {nl l:List (Int×Int)} {A:Int->Int} {g s e c c':Int} {i:Nat} (h:Canon nl (fun y=>A y+g*coefL (l.take i) (y-s))) (hg:g=1∨g = -1) (hc:c'=g*c) (hn:∀ x,coefL (l.take (i+1)) x=coefL (l.take i) x+(if e=x then c else 0)):Canon (putL nl (e+s) c') (fun y=>A y+g*coefL (l.take (i+1)) (y-s)):=by
 refine canon_congr (canon_put h (e+s) c') fun y=>?_
 rw[hn]
 by_cases h1:e+s=y
 · rw[if_pos h1,if_pos (show e=y-s by omega)]
   rcases hg with rfl|rfl<;>omega
 · rw[if_neg h1,if_neg (show ¬ e=y-s by omega)]
   rcases hg with rfl|rfl<;>omega
theorem step_few {nl l:List (Int×Int)} {A f:Int->Int} {g s:Int} {i:Nat} (h:Canon nl (fun y=>A y+g*coefL (l.take i) (y-s))) (hl:Canon l f) (hf:Sup 80 f) (hA:Sup 83 A) (X Z:Int) (hs:s=1000*X+Z) (hX : -3<=X/\X<=3) (hZ : -3<=Z/\Z<=3):nl.length<=800001:=
 canon_few h (K := 83) (fun y hy => by
  have a1:1*coefL (l.take i) (y-(1000*X+Z))=0:=((take_sup hl hf i).shift X Z 1 3 (by omega) (by omega) (by omega)) y hy
  rw[<-hs,Int.one_mul]at a1
  show A y+g*coefL (l.take i) (y-s)=0
  rw[a1,hA y hy,Int.mul_zero]
  rfl) (by decide)
theorem step_bd {nl l:List (Int×Int)} {A f:Int->Int} {g s:Int} {i:Nat} (h:Canon nl (fun y=>A y+g*coefL (l.take i) (y-s))) (hl:Canon l f) (hf:L1 f (2 ^ 48)) (hA:∀ y,(A y).natAbs<=2 ^ 48) (hg:g=1∨g = -1):∀ t∈nl,-1000000000000000<=t.2/\t.2<=1000000000000000:=
 canon_bdN h (B := 2 ^ 48 + 2 ^ 48) (fun y => by
  have h1:=take_bd hl hf i (y-s)
  have h2:=hA y
  show(A y+g*coefL (l.take i) (y-s)).natAbs<=_
  rcases hg with rfl|rfl<;>omega) (by decide)
def HofAt (C:List Cr) (r:Nat):Prop:=∀ (a:Option Addr) (cap:Nat) (w:World),Crs w w.heap.size (.slice a C.length cap) C->Calls Try.prog 9 #[.agg #[.slice a C.length cap,.int .i64 (r:Nat)]] w fun e w'=>∃ v l,e=.returned v/\PolyU w' w'.heap.size v l/\Canon l (pl2 C r)/\Below w.heap.size w w'
theorem homflyOf_some (C:List Cr) (r k:Nat) (hm:mayD C 1=true) (h8:C.length<=8) (hr:2*C.length+r<=32) (hf:fbC C=some k) (hk:k<C.length) (h1:HofAt (chD C k) r) (h2:HofAt (smD C k) (r+smN C k)):HofAt C r:=by
 intro a cap w hD
 have HFK:Hid (∀ y,(pl2 (chD C k) r) (y-(1000*chX (C.getD k Cr.none).plus+0))+smC (C.getD k Cr.none).plus*(pl2 (smD C k) (r+smN C k)) (y-(1000*smX (C.getD k Cr.none).plus+1))=pl2 C r y):=fun y=>by
  rw[pl2_fork hm hk hf]
  show _=1*pl2 (chD C k) r (y-(1000*chX (C.getD k Cr.none).plus+0))+smC (C.getD k Cr.none).plus*(pl2 (smD C k) (r+smN C k)) (y-(1000*smX (C.getD k Cr.none).plus+1))
  rw[Int.one_mul]
 have hcl:=chD_len C k
 have hsl:=smD_len hk
 have hsn:=smN_le hm (k:=k)
 have HL1:Hid (L1 (pl2 (chD C k) r) (2 ^ 48)):=(pl2_L1 _ _).mono (Nat.pow_le_pow_right (by decide) (by omega))
 have HL2:Hid (L1 (pl2 (smD C k) (r+smN C k)) (2 ^ 48)):=(pl2_L1 _ _).mono (Nat.pow_le_pow_right (by decide) (by omega))
 have HSU1:Hid (Sup 80 (pl2 (chD C k) r)):=(pl2_sup _ _ (by omega)).mono (by omega)
 have HSU2:Hid (Sup 80 (pl2 (smD C k) (r+smN C k))):=(pl2_sup _ _ (by omega)).mono (by omega)
 obtain⟨bC,oC,rfl,hbC,hCC⟩:=crs_some hD (by omega)
 have hpl:=(hCC k hk).2.2.2.2
 have HM:=hidHR hm
 have HFV:Hid (fbV C=(k:Nat)):=(by unfold fbV;rw[hf]:fbV C=(k:Nat))
 obtain⟨V,hV⟩:∃ V,w.alloc (.cells #[.slice (some ⟨bC,oC,none⟩) C.length cap,.int .i64 (r:Nat)] 24)=V:=⟨_,rfl⟩
 have hBV:Below w.heap.size w V:=by rw[<-hV];exact(Below.refl _ _).alloc (Nat.le_refl _) _
 have hbV:V.heap[w.heap.size]?=some (.cells #[.slice (some ⟨bC,oC,none⟩) C.length cap,.int .i64 (r:Nat)] 24 (0,0)):=by rw[<-hV];exact alloc_at rfl
 have c0:V.cell? ⟨w.heap.size,0,none⟩=some (.slice (some ⟨bC,oC,none⟩) C.length cap):=block_cell hbV rfl
 have c1:V.cell? ⟨w.heap.size,1,none⟩=some (.int .i64 (r:Nat)):=block_cell hbV rfl
 have HHV:Hid (w.heap.size<V.heap.size):=(Array.getElem?_eq_some_iff.1 hbV).1
 have HV:=hidHR hV
 have HBV:=hidHR hBV
 have HBO:=hidHR hbV
 have HDV:=hidHR (hD.up hBV)
 have HFB:=hidHR (firstBelow_any _ cap C (r:Nat) V HM.out HDV.out)
 rw[HFV.out]at HFB
 have HBC:=hidHR hbC
 generalize (C.getD k Cr.none).plus=p at HFK hpl
 have HPL:=hidHR hpl
 have HH1:Hid (∀ W v,Crs W W.heap.size v (chD C k)->Calls Try.prog 9 #[.agg #[v,.int .i64 (r:Nat)]] W fun e w'=>∃ al1 cl1 l1,e=.returned (.slice al1 l1.length cl1)/\PolyU w' w'.heap.size (.slice al1 l1.length cl1) l1/\Hid (Canon l1 (pl2 (chD C k) r))/\Below W.heap.size W w'):=fun W v hv=>by
  obtain⟨a',cap',rfl,hlm,g⟩:=hv
  refine(h1 a' cap' W ⟨a',cap',rfl,hlm,g⟩).mono ?_
  rintro e w' ⟨v,l,rfl,q1,q2,q3⟩
  obtain⟨al,cl,rfl⟩:=slice_of q1
  exact⟨al,cl,l,rfl,q1,q2,q3⟩
 have HH2:Hid (∀ W v,Crs W W.heap.size v (smD C k)->Calls Try.prog 9 #[.agg #[v,.int .i64 ((r:Int)+(smN C k:Nat))]] W fun e w'=>∃ al1 cl1 l1,e=.returned (.slice al1 l1.length cl1)/\PolyU w' w'.heap.size (.slice al1 l1.length cl1) l1/\Hid (Canon l1 (pl2 (smD C k) (r+smN C k)))/\Below W.heap.size W w'):=fun W v hv=>by
  obtain⟨a',cap',rfl,hlm,g⟩:=hv
  have q0:=h2 a' cap' W ⟨a',cap',rfl,hlm,g⟩
  rw[show((r+smN C k:Nat):Int)=(r:Int)+(smN C k:Nat) by omega]at q0
  refine q0.mono ?_
  rintro e w' ⟨v,l,rfl,q1,q2,q3⟩
  obtain⟨al,cl,rfl⟩:=slice_of q1
  exact⟨al,cl,l,rfl,q1,q2,q3⟩
 clear hV hbV hBV hD hpl hf h1 h2 hCC hm
 go_enter Try.func9,Try.ntmps9
 go_upto_region 1 with(fail)
 rw[HV.out]
 go_wp2_with (go_at_call 17;refine HFB.out.mono ?_;rintro e9 w2 ⟨rfl,hb2⟩;refine Hid.out ?_)
 refine Lib.hid ?_
 have hlt1:¬ (k:Int)<0:=by omega
 have k0:(0:Int)<=(k:Int):=by omega
 have k1:(k:Int)<(C.length:Int):=by omega
 have HB2:=hidHR (HBV.out.trans (hb2.mono HBV.out.size))
 have HBO2:=hidHR ((hb2.block _ HHV.out).trans HBO.out)
 have HDV2:=hidHR (HDV.out.up hb2)
 clear hb2 c0 c1
 have HSd:Hid (∀ W,Below w2.heap.size w2 W->(fun X':World=>X'.cell? ⟨w.heap.size,0,none⟩=some (.slice (some ⟨bC,oC,none⟩) C.length cap)/\X'.cell? ⟨w.heap.size,1,none⟩=some (.int .i64 (r:Nat))) W):=fun W hW=>by
  have k:=(hW.block _ (Array.getElem?_eq_some_iff.1 HBO2.out).1).trans HBO2.out
  exact⟨block_cell k rfl,block_cell k rfl⟩
 have HDd:Hid (Below w2.heap.size w2 w2.drew):=(Below.refl _ _).drew
 have HCO:Hid (∀ W,Below w2.heap.size w2 W->Calls Try.prog 20 #[.agg #[.slice (some ⟨bC,oC,none⟩) C.length cap,.int .i64 (r:Nat)],.int .i64 (k:Nat)] W fun e w'=>∃ v,e=.returned (.agg #[v,.int .i64 (r:Nat)])/\Crs w' w'.heap.size v (chD C k)/\Below W.heap.size W w'):=fun W hW=>(changeOf_any _ cap C (r:Nat) k W (by omega) hk (HDV2.out.up hW)).mono (fun e w' ⟨v,q1,q2,q3⟩=>⟨v,q1,crs_own (C:=chD C k) (by rw[hcl];exact q2) (by unfold maxLen;omega),q3⟩)
 have HSO:Hid (∀ W,Below w2.heap.size w2 W->Calls Try.prog 21 #[.agg #[.slice (some ⟨bC,oC,none⟩) C.length cap,.int .i64 (r:Nat)],.int .i64 (k:Nat)] W fun e w'=>∃ v,e=.returned (.agg #[v,.int .i64 ((r:Int)+(smN C k:Nat))])/\Crs w' w'.heap.size v (smD C k)/\Below W.heap.size W w'):=fun W hW=>(smoothOf_any _ cap C (r:Nat) k W HM.out hk (HDV2.out.up hW) (by omega)).mono (fun e w' ⟨v,q1,q2,q3⟩=>⟨v,q1,crs_own (C:=smD C k) q2 (by unfold maxLen;omega),q3⟩)
 clear HFB HBO HV HFV HM HDV
 go_upto_region 15 with(fail)
 refine rhd HSd HDd.out (fun hHeld=>?_)
 refine tq 76 0 (h:=?_)
 refine tq 77 1 (h:=?_)
 refine tq 80 4 (h:=?_)
 refine tq 81 5 (h:=?_)
 simp only[List.setIfInBounds_toArray,List.set_cons_succ,List.set_cons_zero]
 refine rd1 2 ?_
 intro K0 hK0
 go_simp
 go_wp2_with (go_at_call 20;refine(HCO.out _ HDd.out).mono ?_;rintro e9 w3 ⟨v3,rfl,hc3,hb3⟩)
 have HBw3:=hidHR (HDd.out.trans hb3)
 have HC3:=hidHR hc3
 clear hb3 hc3
 refine hK0.out _ _ (HSd.out _ HBw3.out) (fun hHeld=>?_)
 clear hK0 K0
 try simp only[Act.put]
 try simp only[List.getElem_toArray]
 try simp only[List.getElem_cons_succ]
 try simp only[List.getElem_cons_zero]
 try simp only[List.setIfInBounds_toArray,List.set_cons_succ,List.set_cons_zero]
 refine rd1 3 ?_
 intro K0 hK0
 go_simp
 go_wp2_with (go_at_call 9;refine(HH1.out _ _ HC3.out).mono ?_;rintro e9 w4 ⟨al1,cl1,l1,rfl,hp4,HC1,hb4⟩)
 have HBw4:=hidHR (HBw3.out.trans (hb4.mono HBw3.out.size))
 have HP4:=hidHR hp4
 clear hb4 hp4 HC3
 refine hK0.out _ _ (HSd.out _ HBw4.out) (fun hHeld=>?_)
 clear hK0 K0
 try simp only[Act.put]
 try simp only[List.getElem_toArray]
 try simp only[List.getElem_cons_succ]
 try simp only[List.getElem_cons_zero]
 try simp only[List.setIfInBounds_toArray,List.set_cons_succ,List.set_cons_zero]
 refine rd1 6 ?_
 intro K0 hK0
 go_simp
 go_wp2_with (go_at_call 21;refine(HSO.out _ HBw4.out).mono ?_;rintro e9 w5 ⟨v5,rfl,hc5,hb5⟩)
 have HBw5:=hidHR (HBw4.out.trans (hb5.mono HBw4.out.size))
 have HC5:=hidHR hc5
 have HP5:=hidHR (HP4.out.up hb5)
 clear hb5 hc5 HP4
 refine hK0.out _ _ (HSd.out _ HBw5.out) (fun hHeld=>?_)
 clear hK0 K0
 try simp only[Act.put]
 try simp only[List.getElem_toArray]
 try simp only[List.getElem_cons_succ]
 try simp only[List.getElem_cons_zero]
 try simp only[List.setIfInBounds_toArray,List.set_cons_succ,List.set_cons_zero]
 refine rd1 7 ?_
 intro K0 hK0
 go_simp
 go_wp2_with (go_at_call 9;refine(HH2.out _ _ HC5.out).mono ?_;rintro e9 w6 ⟨al2,cl2,l2,rfl,hp6,HC2,hb6⟩)
 have HBw6:=hidHR (HBw5.out.trans (hb6.mono HBw5.out.size))
 have HP2:=hidHR hp6
 have HP1:=hidHR (HP5.out.up hb6)
 clear hb6 hp6 HP5 HC5
 refine hK0.out _ _ (HSd.out _ HBw6.out) (fun hHeld=>?_)
 clear hK0 K0
 try simp only[Act.put]
 try simp only[List.getElem_toArray]
 try simp only[List.getElem_cons_succ]
 try simp only[List.getElem_cons_zero]
 try  refine tq 8 8 (h:=?_)
 refine tq 9 9 (h:=?_)
 simp only[List.setIfInBounds_toArray,List.set_cons_succ,List.set_cons_zero]
 refine wpAnyH_done (by kernel_rfl) ?_ _
 clear hHeld HBw3 HBw4 HBw5
 have HPL2:Hid (Below w.heap.size w w6):=HB2.out.trans (HBw6.out.mono HB2.out.size)
 have HDG:Hid (∀ W,Below w6.heap.size w6 W->W.cell? ⟨w.heap.size,0,none⟩=some (.slice (some ⟨bC,oC,none⟩) C.length cap)/\W.cell? ⟨bC,oC+k*5+4,none⟩=some (.bool p)):=fun W hW=>⟨(HSd.out W (HBw6.out.trans (hW.mono HBw6.out.size))).1,bcell (HPL2.out.trans (hW.mono HPL2.out.size)) HBC.out HPL.out⟩
 obtain⟨S2,hS2⟩:∃ S2:Int,1000*chX p+0=S2:=⟨_,rfl⟩
 obtain⟨S1,hS1⟩:∃ S1:Int,1000*smX p+1=S1:=⟨_,rfl⟩
 obtain⟨G,hG⟩:∃ G:Int,smC p=G:=⟨_,rfl⟩
 have hX3 : -2<=chX p/\chX p<=2:=by cases p<;>decide
 have HAS:Hid (Sup 83 (fun y=>pl2 (chD C k) r (y-S2))):=fun y hy=>by
  have:=(HSU1.out.shift (chX p) 0 1 3 (by omega) (by omega) (by omega)) y hy
  rw[hS2]at this
  have this:1*pl2 (chD C k) r (y-S2)=0:=this
  show pl2 (chD C k) r (y-S2)=0
  omega
 have HAB:Hid (∀ y,((fun y=>pl2 (chD C k) r (y-S2)) y).natAbs<=2 ^ 48):=fun y=>HL1.out.one _
 rw[hS2,hS1,hG]at HFK
 have HS2:=hidHR hS2
 have HS1:=hidHR hS1
 have HG:=hidHR hG
 clear hS2 hS1 hG hX3 hcl hsl hsn HSd HDd HCO HSO HH1 HH2 HBO2 HDV2 HBC HPL HBV HHV HB2
 generalize pl2 (chD C k) r=fA at HFK HL1 HSU1 HC1 HAS HAB
 generalize pl2 (smD C k) (r+smN C k)=fB at HFK HL2 HSU2 HC2
 go_wp2
 go_loopw [10,11] (fun v10 v11 ws=>∃ (i:Nat) (nl:List (Int×Int)),i<=l1.length/\v11=.int .i64 (i:Nat)/\PolyU ws ws.heap.size v10 nl/\Hid (Canon nl (fun y=>(fun _=>0) y+1*coefL (l1.take i) (y-S2)))/\Below w6.heap.size w6 ws) (fun _ v11 _=>l1.length-(intOf v11).toNat)
 case atStart => exact ⟨0, [], Nat.zero_le _, rfl, Or.inl ⟨rfl, rfl⟩, ⟨List.Pairwise.nil, fun x c => ⟨fun h => (by cases h), fun h => (by
  obtain⟨h1,h2⟩:=h
  have h1:(0:Int)+1*0=c:=h1
  omega)⟩⟩,Below.refl _ _⟩
 case round=>
  rename World=>W3
  obtain⟨i,nl,hil,rfl,hpn,hcn,hb⟩:=hrel
  by_cases hi:i<l1.length
  · obtain⟨b,off,rfl,hbb,hTa⟩:=polyU_at HP1.out (by omega)
    have hrow:=hTa.on hb hbb i hi
    have hlen:=canon_few HC1.out HSU1.out (by decide)
    have HNX:=hidHR (fun x=>coefL_next l1 i hi rfl rfl x)
    have hin:=canon_in HC1.out HSU1.out (l1.getD i (0,0)) (by rw[List.getD_eq_getElem?_getD,List.getElem?_eq_getElem hi];exact List.getElem_mem hi)
    have hcb:(l1.getD i (0,0)).2.natAbs<=2 ^ 48:=by
     have:=((HC1.out.2 (l1.getD i (0,0)).1 (l1.getD i (0,0)).2).1 (by rw[List.getD_eq_getElem?_getD,List.getElem?_eq_getElem hi];exact List.getElem_mem hi)).1
     rw[<-this]
     exact HL1.out.one _
    generalize (l1.getD i (0,0)).1=e at hrow HNX hin
    generalize (l1.getD i (0,0)).2=c at hrow HNX hcb
    obtain⟨x1,hx1⟩:∃ x1,dx e=x1:=⟨_,rfl⟩
    obtain⟨z1,hz1⟩:∃ z1,dz e=z1:=⟨_,rfl⟩
    have hbx : -80<=x1/\x1<=80 /\ -80<=z1/\z1<=80:=by unfold Inb at hin;omega
    rw[hx1,hz1]at hrow
    have hcb2 : -281474976710656<=c/\c<=281474976710656:=by
     have:(2:Nat) ^ 48=281474976710656:=by decide
     omega
    have HPN:=hidHR hpn
    have HCN:=hidHR hcn.out
    have HROW:=hidHR hrow
    have HBY:=hidHR hb
    have hsy:=hb.size
    have hbw:b<W3.heap.size:=by omega
    have n0:(0:Int)<=(i:Int):=by omega
    have n1:(i:Int)<(l1.length:Int):=by omega
    clear hpn hcn hb hTa hrow
    have HSa:Hid (∀ W,Below W3.heap.size W3 W->(fun X':World=>X'.cell? ⟨b,off+i*3,none⟩=some (.int .i64 x1)/\X'.cell? ⟨b,off+i*3+1,none⟩=some (.int .i64 z1)/\X'.cell? ⟨b,off+i*3+2,none⟩=some (.int .i64 c)) W):=fun W hW=>⟨bcell hW hbw HROW.out.1,bcell hW hbw HROW.out.2.1,bcell hW hbw HROW.out.2.2⟩
    have HDa:Hid (Below W3.heap.size W3 W3.drew):=(Below.refl _ _).drew
    rcases p with _|_
    · obtain rfl:S2=2000:=by rw[<-HS2.out];decide
      have pe:=hin.plus (X:=2) (Z:=0) (L:=2) (by omega) (by omega) (by omega)
      have HE := hidHR ((by
       rw[hx1,hz1]at pe
       rw[show e+2000=e+(1000*2+0) by omega,pe.2.1,pe.2.2]
       omega):dx (e+2000)=x1+2/\dz (e+2000)=z1)
      have HNL:=hidHR (step_few HCN.out HC1.out HSU1.out (fun _ _=>rfl) (2) (0) rfl (by omega) (by omega))
      have HBD:=hidHR (step_bd HCN.out HC1.out HL1.out (fun _=>by decide) (by omega))
      have HST:=hidHR (step_put (s:=2000) (c:=c) (c':=c) HCN.out (by omega) (by omega) HNX.out)
      clear hx1 hz1 pe hin hcb
      have y1:IntKind.i64.wrap (x1+2)=x1+2:=wrap_in _ (by omega)
      have HPTa:=hidHR (fun(W:World) (hW:Below W3.heap.size W3 W)=>put_two _ nl (e+2000) (x1+2) (z1) (c) HE.out.1 HE.out.2 W (by have:=HNL.out;omega) (by omega) (by omega) HBD.out (HPN.out.up hW))
      obtain⟨d0,d1⟩:=HDG.out W3 HBY.out
      go_upto_region 22 with(fail)
      clear d0 d1
      refine rhd HSa HDa.out (fun hHeld=>?_)
      refine tq 114 0 (h:=?_)
      refine tq 115 1 (h:=?_)
      refine tq 116 2 (h:=?_)
      refine tq 117 3 (h:=?_)
      refine tq 118 4 (h:=?_)
      refine tq 119 5 (h:=?_)
      refine tq 120 6 (h:=?_)
      refine tq 121 7 (h:=?_)
      refine tq 122 8 (h:=?_)
      refine tq 123 9 (h:=?_)
      refine tq 124 10 (h:=?_)
      refine tq 125 11 (h:=?_)
      refine tq 126 12 (h:=?_)
      refine tq 127 13 (h:=?_)
      refine tq 128 14 (h:=?_)
      refine tq 129 15 (h:=?_)
      refine tq 130 16 (h:=?_)
      simp only[List.setIfInBounds_toArray,List.set_cons_succ,List.set_cons_zero]
      refine rd1 17 ?_
      intro K0 hK0
      go_simp
      go_wp2_with (go_at_call 19;refine(HPTa.out _ HDa.out).mono ?_;rintro e9 wa ⟨va,rfl,hpa,hba⟩)
      have HPa:=hidH hpa
      have HBa:=hidH (HDa.out.trans hba)
      clear hpa hba
      refine hK0.out _ _ (HSa.out _ HBa.out) (fun hHeld=>?_)
      clear hK0 K0
      try simp only[Act.put]
      try simp only[List.getElem_toArray]
      try simp only[List.getElem_cons_succ]
      try simp only[List.getElem_cons_zero]
      try        refine tq 10 18 (h:=?_)
      simp only[List.setIfInBounds_toArray,List.set_cons_succ,List.set_cons_zero]
      refine wpAnyH_done (by kernel_rfl) ?_ _
      clear hHeld
      have HBQ:=hidHR (HBY.out.trans (HBa.out.mono HBY.out.size))
      go_wp2
      go_roundw
      case rel=>exact⟨i+1,_,by omega,by go_num,HPa.out,HST.out,HBQ.out⟩
      case measure=>simp only[intOf];omega
    · obtain rfl:S2 = -2000:=by rw[<-HS2.out];decide
      have pe:=hin.plus (X := -2) (Z:=0) (L:=2) (by omega) (by omega) (by omega)
      have HE := hidHR ((by
       rw[hx1,hz1]at pe
       rw[show e + -2000=e+(1000 * -2+0) by omega,pe.2.1,pe.2.2]
       omega):dx (e + -2000)=x1-2/\dz (e + -2000)=z1)
      have HNL:=hidHR (step_few HCN.out HC1.out HSU1.out (fun _ _=>rfl) (-2) (0) rfl (by omega) (by omega))
      have HBD:=hidHR (step_bd HCN.out HC1.out HL1.out (fun _=>by decide) (by omega))
      have HST:=hidHR (step_put (s := -2000) (c:=c) (c':=c) HCN.out (by omega) (by omega) HNX.out)
      clear hx1 hz1 pe hin hcb
      have y1:IntKind.i64.wrap (x1-2)=x1-2:=wrap_in _ (by omega)
      have HPTa:=hidHR (fun(W:World) (hW:Below W3.heap.size W3 W)=>put_two _ nl (e + -2000) (x1-2) (z1) (c) HE.out.1 HE.out.2 W (by have:=HNL.out;omega) (by omega) (by omega) HBD.out (HPN.out.up hW))
      obtain⟨d0,d1⟩:=HDG.out W3 HBY.out
      go_upto_region 21 with(fail)
      clear d0 d1
      refine rhd HSa HDa.out (fun hHeld=>?_)
      refine tq 96 0 (h:=?_)
      refine tq 97 1 (h:=?_)
      refine tq 98 2 (h:=?_)
      refine tq 99 3 (h:=?_)
      refine tq 100 4 (h:=?_)
      refine tq 101 5 (h:=?_)
      refine tq 102 6 (h:=?_)
      refine tq 103 7 (h:=?_)
      refine tq 104 8 (h:=?_)
      refine tq 105 9 (h:=?_)
      refine tq 106 10 (h:=?_)
      refine tq 107 11 (h:=?_)
      refine tq 108 12 (h:=?_)
      refine tq 109 13 (h:=?_)
      refine tq 110 14 (h:=?_)
      refine tq 111 15 (h:=?_)
      refine tq 112 16 (h:=?_)
      simp only[List.setIfInBounds_toArray,List.set_cons_succ,List.set_cons_zero]
      refine rd1 17 ?_
      intro K0 hK0
      go_simp
      go_wp2_with (go_at_call 19;refine(HPTa.out _ HDa.out).mono ?_;rintro e9 wa ⟨va,rfl,hpa,hba⟩)
      have HPa:=hidH hpa
      have HBa:=hidH (HDa.out.trans hba)
      clear hpa hba
      refine hK0.out _ _ (HSa.out _ HBa.out) (fun hHeld=>?_)
      clear hK0 K0
      try simp only[Act.put]
      try simp only[List.getElem_toArray]
      try simp only[List.getElem_cons_succ]
      try simp only[List.getElem_cons_zero]
      try        refine tq 10 18 (h:=?_)
      simp only[List.setIfInBounds_toArray,List.set_cons_succ,List.set_cons_zero]
      refine wpAnyH_done (by kernel_rfl) ?_ _
      clear hHeld
      have HBQ:=hidHR (HBY.out.trans (HBa.out.mono HBY.out.size))
      go_wp2
      go_roundw
      case rel=>exact⟨i+1,_,by omega,by go_num,HPa.out,HST.out,HBQ.out⟩
      case measure=>simp only[intOf];omega
  · obtain rfl:i=l1.length:=by omega
    have hdi2:¬ (l1.length:Int)<(l1.length:Int):=by omega
    have HPN:=hidHR hpn
    obtain⟨an,cn,rfl⟩:=slice_of hpn
    have HBY:=hidHR hb
    have HCN : Hid (Canon nl (fun y => fA (y - S2) + G * coefL (l2.take 0) (y - S1))) := canon_congr hcn.out fun y => (by
     rw[List.take_length,canon_coef HC1.out,List.take_zero]
     show 0+1*fA (y-S2)=fA (y-S2)+G*0
     omega)
    clear hcn hpn hb hil hi
    go_wp2
    go_loopw [10,12] (fun v10 v12 ws=>∃ (i:Nat) (nl:List (Int×Int)),i<=l2.length/\v12=.int .i64 (i:Nat)/\PolyU ws ws.heap.size v10 nl/\Hid (Canon nl (fun y=>(fun y=>fA (y-S2)) y+G*coefL (l2.take i) (y-S1)))/\Below w6.heap.size w6 ws) (fun _ v12 _=>l2.length-(intOf v12).toNat)
    case atStart=>exact⟨0,nl,Nat.zero_le _,rfl,HPN.out,HCN.out,HBY.out⟩
    case round=>
     clear HPN HCN HBY
     rename World=>W3
     obtain⟨i,nl,hil,rfl,hpn,hcn,hb⟩:=hrel
     by_cases hi:i<l2.length
     · obtain⟨b,off,rfl,hbb,hTa⟩:=polyU_at HP2.out (by omega)
       have hrow:=hTa.on hb hbb i hi
       have hlen:=canon_few HC2.out HSU2.out (by decide)
       have HNX:=hidHR (fun x=>coefL_next l2 i hi rfl rfl x)
       have hin:=canon_in HC2.out HSU2.out (l2.getD i (0,0)) (by rw[List.getD_eq_getElem?_getD,List.getElem?_eq_getElem hi];exact List.getElem_mem hi)
       have hcb:(l2.getD i (0,0)).2.natAbs<=2 ^ 48:=by
        have:=((HC2.out.2 (l2.getD i (0,0)).1 (l2.getD i (0,0)).2).1 (by rw[List.getD_eq_getElem?_getD,List.getElem?_eq_getElem hi];exact List.getElem_mem hi)).1
        rw[<-this]
        exact HL2.out.one _
       generalize (l2.getD i (0,0)).1=e at hrow HNX hin
       generalize (l2.getD i (0,0)).2=c at hrow HNX hcb
       obtain⟨x1,hx1⟩:∃ x1,dx e=x1:=⟨_,rfl⟩
       obtain⟨z1,hz1⟩:∃ z1,dz e=z1:=⟨_,rfl⟩
       have hbx : -80<=x1/\x1<=80 /\ -80<=z1/\z1<=80:=by unfold Inb at hin;omega
       rw[hx1,hz1]at hrow
       have hcb2 : -281474976710656<=c/\c<=281474976710656:=by
        have:(2:Nat) ^ 48=281474976710656:=by decide
        omega
       have HPN:=hidHR hpn
       have HCN:=hidHR hcn.out
       have HROW:=hidHR hrow
       have HBY:=hidHR hb
       have hsy:=hb.size
       have hbw:b<W3.heap.size:=by omega
       have n0:(0:Int)<=(i:Int):=by omega
       have n1:(i:Int)<(l2.length:Int):=by omega
       clear hpn hcn hb hTa hrow
       have HSa:Hid (∀ W,Below W3.heap.size W3 W->(fun X':World=>X'.cell? ⟨b,off+i*3,none⟩=some (.int .i64 x1)/\X'.cell? ⟨b,off+i*3+1,none⟩=some (.int .i64 z1)/\X'.cell? ⟨b,off+i*3+2,none⟩=some (.int .i64 c)) W):=fun W hW=>⟨bcell hW hbw HROW.out.1,bcell hW hbw HROW.out.2.1,bcell hW hbw HROW.out.2.2⟩
       have HDa:Hid (Below W3.heap.size W3 W3.drew):=(Below.refl _ _).drew
       rcases p with _|_
       · obtain rfl:S1=1001:=by rw[<-HS1.out];decide
         obtain rfl:G = -1:=by rw[<-HG.out];decide
         have pe:=hin.plus (X:=1) (Z:=1) (L:=2) (by omega) (by omega) (by omega)
         have HE := hidHR ((by
          rw[hx1,hz1]at pe
          rw[show e+1001=e+(1000*1+1) by omega,pe.2.1,pe.2.2]
          omega):dx (e+1001)=x1+1/\dz (e+1001)=z1+1)
         have HNL:=hidHR (step_few HCN.out HC2.out HSU2.out HAS.out (1) (1) rfl (by omega) (by omega))
         have HBD:=hidHR (step_bd HCN.out HC2.out HL2.out HAB.out (by omega))
         have HST:=hidHR (step_put (s:=1001) (c:=c) (c' := -c) HCN.out (by omega) (by omega) HNX.out)
         clear hx1 hz1 pe hin hcb
         have y1:IntKind.i64.wrap (x1+1)=x1+1:=wrap_in _ (by omega)
         have y2:IntKind.i64.wrap (z1+1)=z1+1:=wrap_in _ (by omega)
         have y3:IntKind.i64.wrap (-c) = -c:=wrap_in _ (by omega)
         have HPTa:=hidHR (fun(W:World) (hW:Below W3.heap.size W3 W)=>put_two _ nl (e+1001) (x1+1) (z1+1) (-c) HE.out.1 HE.out.2 W (by have:=HNL.out;omega) (by omega) (by omega) HBD.out (HPN.out.up hW))
         obtain⟨d0,d1⟩:=HDG.out W3 HBY.out
         go_upto_region 28 with(fail)
         clear d0 d1
         refine rhd HSa HDa.out (fun hHeld=>?_)
         refine tq 163 0 (h:=?_)
         refine tq 164 1 (h:=?_)
         refine tq 165 2 (h:=?_)
         refine tq 166 3 (h:=?_)
         refine tq 167 4 (h:=?_)
         refine tq 168 5 (h:=?_)
         refine tq 169 6 (h:=?_)
         refine tq 170 7 (h:=?_)
         refine tq 171 8 (h:=?_)
         refine tq 172 9 (h:=?_)
         refine tq 173 10 (h:=?_)
         refine tq 174 11 (h:=?_)
         refine tq 175 12 (h:=?_)
         refine tq 176 13 (h:=?_)
         refine tq 177 14 (h:=?_)
         refine tq 178 15 (h:=?_)
         refine tq 179 16 (h:=?_)
         refine tq 180 17 (h:=?_)
         refine tq 181 18 (h:=?_)
         simp only[List.setIfInBounds_toArray,List.set_cons_succ,List.set_cons_zero]
         refine rd1 19 ?_
         intro K0 hK0
         go_simp
         go_wp2_with (go_at_call 19;refine(HPTa.out _ HDa.out).mono ?_;rintro e9 wa ⟨va,rfl,hpa,hba⟩)
         have HPa:=hidH hpa
         have HBa:=hidH (HDa.out.trans hba)
         clear hpa hba
         refine hK0.out _ _ (HSa.out _ HBa.out) (fun hHeld=>?_)
         clear hK0 K0
         try simp only[Act.put]
         try simp only[List.getElem_toArray]
         try simp only[List.getElem_cons_succ]
         try simp only[List.getElem_cons_zero]
         try            refine tq 10 20 (h:=?_)
         simp only[List.setIfInBounds_toArray,List.set_cons_succ,List.set_cons_zero]
         refine wpAnyH_done (by kernel_rfl) ?_ _
         clear hHeld
         have HBQ:=hidHR (HBY.out.trans (HBa.out.mono HBY.out.size))
         go_wp2
         go_roundw
         case rel=>exact⟨i+1,_,by omega,by go_num,HPa.out,HST.out,HBQ.out⟩
         case measure=>simp only[intOf];omega
       · obtain rfl:S1 = -999:=by rw[<-HS1.out];decide
         obtain rfl:G=1:=by rw[<-HG.out];decide
         have pe:=hin.plus (X := -1) (Z:=1) (L:=2) (by omega) (by omega) (by omega)
         have HE := hidHR ((by
          rw[hx1,hz1]at pe
          rw[show e + -999=e+(1000 * -1+1) by omega,pe.2.1,pe.2.2]
          omega):dx (e + -999)=x1-1/\dz (e + -999)=z1+1)
         have HNL:=hidHR (step_few HCN.out HC2.out HSU2.out HAS.out (-1) (1) rfl (by omega) (by omega))
         have HBD:=hidHR (step_bd HCN.out HC2.out HL2.out HAB.out (by omega))
         have HST:=hidHR (step_put (s := -999) (c:=c) (c':=c) HCN.out (by omega) (by omega) HNX.out)
         clear hx1 hz1 pe hin hcb
         have y1:IntKind.i64.wrap (x1-1)=x1-1:=wrap_in _ (by omega)
         have y2:IntKind.i64.wrap (z1+1)=z1+1:=wrap_in _ (by omega)
         have HPTa:=hidHR (fun(W:World) (hW:Below W3.heap.size W3 W)=>put_two _ nl (e + -999) (x1-1) (z1+1) (c) HE.out.1 HE.out.2 W (by have:=HNL.out;omega) (by omega) (by omega) HBD.out (HPN.out.up hW))
         obtain⟨d0,d1⟩:=HDG.out W3 HBY.out
         go_upto_region 27 with(fail)
         clear d0 d1
         refine rhd HSa HDa.out (fun hHeld=>?_)
         refine tq 144 0 (h:=?_)
         refine tq 145 1 (h:=?_)
         refine tq 146 2 (h:=?_)
         refine tq 147 3 (h:=?_)
         refine tq 148 4 (h:=?_)
         refine tq 149 5 (h:=?_)
         refine tq 150 6 (h:=?_)
         refine tq 151 7 (h:=?_)
         refine tq 152 8 (h:=?_)
         refine tq 153 9 (h:=?_)
         refine tq 154 10 (h:=?_)
         refine tq 155 11 (h:=?_)
         refine tq 156 12 (h:=?_)
         refine tq 157 13 (h:=?_)
         refine tq 158 14 (h:=?_)
         refine tq 159 15 (h:=?_)
         refine tq 160 16 (h:=?_)
         refine tq 161 17 (h:=?_)
         simp only[List.setIfInBounds_toArray,List.set_cons_succ,List.set_cons_zero]
         refine rd1 18 ?_
         intro K0 hK0
         go_simp
         go_wp2_with (go_at_call 19;refine(HPTa.out _ HDa.out).mono ?_;rintro e9 wa ⟨va,rfl,hpa,hba⟩)
         have HPa:=hidH hpa
         have HBa:=hidH (HDa.out.trans hba)
         clear hpa hba
         refine hK0.out _ _ (HSa.out _ HBa.out) (fun hHeld=>?_)
         clear hK0 K0
         try simp only[Act.put]
         try simp only[List.getElem_toArray]
         try simp only[List.getElem_cons_succ]
         try simp only[List.getElem_cons_zero]
         try            refine tq 10 19 (h:=?_)
         simp only[List.setIfInBounds_toArray,List.set_cons_succ,List.set_cons_zero]
         refine wpAnyH_done (by kernel_rfl) ?_ _
         clear hHeld
         have HBQ:=hidHR (HBY.out.trans (HBa.out.mono HBY.out.size))
         go_wp2
         go_roundw
         case rel=>exact⟨i+1,_,by omega,by go_num,HPa.out,HST.out,HBQ.out⟩
         case measure=>simp only[intOf];omega
     · obtain rfl:i=l2.length:=by omega
       have hdi3:¬ (l2.length:Int)<(l2.length:Int):=by omega
       have HPN:=hidHR hpn
       obtain⟨an2,cn2,rfl⟩:=slice_of hpn
       have HBQ:=hidHR (HPL2.out.trans (hb.mono HPL2.out.size))
       have HCN : Hid (Canon nl (pl2 C r)) := canon_congr hcn.out fun y => (by
        rw[List.take_length,canon_coef HC2.out]
        exact HFK.out y)
       clear hcn hpn hb
       go_wp2
       go_ret
       exact⟨_,rfl,nl,HPN.out,HCN.out,HBQ.out⟩
end Go.Proofs.Ytefooihnoajnlaa.Poly
