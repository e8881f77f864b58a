/- The walk of knotworkref.HomflyOf where every crossing is met above first. -/
import Derived.Test.YtefooihnoajnlaaHC2P
import Derived.Test.YtefooihnoajnlaaHC1P
import Derived.Test.YtefooihnoajnlaaHR2
namespace Go.Proofs.Ytefooihnoajnlaa.Poly
open Go.RowKit Go.Maps
set_option maxHeartbeats 8000000
set_option maxRecDepth 100000
theorem two_step {nl:List (Int×Int)} {G:Int->Int} (h:Canon nl (fun y=>G (y-999)-G (y+1001))) (e c:Int):Canon (putL (putL nl (e+999) c) (e-1001) (-c)) (fun y=>(G (y-999)+if e=y-999 then c else 0)-(G (y+1001)+if e=y+1001 then c else 0)):=by
 refine canon_congr (canon_put (canon_put h (e+999) c) (e-1001) (-c)) fun y=>?_
 by_cases h1:e+999=y
 · rw[if_pos h1,if_pos (show e=y-999 by omega)]
   by_cases h2:e-1001=y
   · omega
   · rw[if_neg h2,if_neg (show ¬ e=y+1001 by omega)];omega
 · rw[if_neg h1,if_neg (show ¬ e=y-999 by omega)]
   by_cases h2:e-1001=y
   · rw[if_pos h2,if_pos (show e=y+1001 by omega)];omega
   · rw[if_neg h2,if_neg (show ¬ e=y+1001 by omega)];omega
theorem canon_bdN {l:List (Int×Int)} {f:Int->Int} {B:Nat} (h:Canon l f) (hf:∀ x,(f x).natAbs<=B) (hB:B<=1000000000000000):∀ t∈l,-1000000000000000<=t.2/\t.2<=1000000000000000:=fun t ht=>by
 have:=((h.2 t.1 t.2).1 ht).1
 have:=hf t.1
 omega
theorem slice_of {w:World} {B:Nat} {v:Value} {l:List (Int×Int)} (h:PolyU w B v l):∃ a c,v=.slice a l.length c:=by
 rcases h with⟨rfl,rfl⟩|⟨b,off,cap,rfl,-⟩
 · exact⟨_,_,rfl⟩
 · exact⟨_,_,rfl⟩
theorem polyU_at {w:World} {B:Nat} {a:Option Addr} {cp:Nat} {l:List (Int×Int)} (h:PolyU w B (.slice a l.length cp) l) (hl:0<l.length):∃ b off,a=some ⟨b,off,none⟩/\b<B/\TwosAt w b off l:=by
 rcases h with⟨-,q⟩|⟨b,off,c,e,-,-,q1,q2⟩
 · rw[q]at hl;simp at hl
 · injection e with e1 e2 e3
   exact⟨b,off,e1,q1,q2⟩
theorem homflyOf_none (a : Option Addr) (cap : Nat) (C : List Cr) (r : Nat) (w : World) (hm : mayD C 1 = true) (_h8 : C.length ≤ 8) (hr : 2 * C.length + r ≤ 32) (hf : fbC C = none) (hD : Crs w w.heap.size (.slice a C.length cap) C) :
    Calls Try.prog 9 #[.agg #[.slice a C.length cap,.int .i64 (r:Nat)]] w fun e w'=>∃ v l,e=.returned v/\PolyU w' w'.heap.size v l/\Canon l (pl2 C r)/\Below w.heap.size w w':=by
 obtain⟨T,hT⟩:∃ T,r+(walksM C).length=T:=⟨_,rfl⟩
 have hPL:pl2 C r=pwR T:=by rw[pl2_none hf,rg_walks hm,hT]
 obtain⟨hlw,-⟩:=walksM_facts hm
 have hT32:T<=32:=by omega
 have HT:=hidH hT
 rw[hPL]
 have HM:=hidH hm
 have HFV:Hid (fbV C = -1):=(by unfold fbV;rw[hf]:fbV C = -1)
 clear hPL hm hf hT
 obtain⟨V,hV⟩:∃ V,w.alloc (.cells #[.slice a C.length cap,.int .i64 (r:Nat)] 24)=V:=⟨_,rfl⟩
 have hBV:Below w.heap.size w V:=by rw[<-hV];exact(Below.refl _ _).alloc (Nat.le_refl _) _
 have hbV:V.heap[w.heap.size]?=some (.cells #[.slice a C.length cap,.int .i64 (r:Nat)] 24 (0,0)):=by rw[<-hV];exact alloc_at rfl
 have c0:V.cell? ⟨w.heap.size,0,none⟩=some (.slice a C.length cap):=block_cell hbV rfl
 have c1:V.cell? ⟨w.heap.size,1,none⟩=some (.int .i64 (r:Nat)):=block_cell hbV rfl
 have lV:w.heap.size<V.heap.size:=(Array.getElem?_eq_some_iff.1 hbV).1
 have HV:=hidH hV
 have HBV:=hidH hBV
 have HBO:=hidH hbV
 have HDV:=hidH (hD.up hBV)
 have HFB:=hidH (firstBelow_any a cap C (r:Nat) V HM.out HDV.out)
 rw[HFV.out]at HFB
 clear hV hbV hBV hD
 go_enter Try.func9,Try.ntmps9
 go_upto_region 1 with(fail)
 rw[HV.out]
 go_wp2_with (go_at_call 17;refine HFB.out.mono ?_;rintro e9 w2 ⟨rfl,hb2⟩;refine Hid.out ?_)
 refine Lib.hid ?_
 have hlt1:(-1:Int)<0:=by decide
 obtain⟨V2,hV2⟩:∃ V2,w2.alloc (.cells #[.int .i64 0,.int .i64 0,.int .i64 1] 51)=V2:=⟨_,rfl⟩
 have hbV2:Below w2.heap.size w2 V2:=by rw[<-hV2];exact(Below.refl _ _).alloc (Nat.le_refl _) _
 have hb2V:=hb2.trans (hbV2.mono hb2.size)
 have HT2:Hid (V2.heap[w2.heap.size]?=some (.cells #[.int .i64 0,.int .i64 0,.int .i64 1] 51 (0,0))):=(by rw[<-hV2];exact alloc_at rfl:V2.heap[w2.heap.size]?=_)
 have HB2:=hidH (HBV.out.trans (hb2V.mono HBV.out.size))
 have HBO2:=hidH ((hb2V.block _ lV).trans HBO.out)
 have HDV2:=hidH (HDV.out.up hb2V)
 have HV2:=hidH hV2
 clear hV2 hb2 hbV2 c0 c1 hb2V
 have HSd:Hid (∀ W,Below V2.heap.size V2 W->(fun X':World=>X'.cell? ⟨w.heap.size,0,none⟩=some (.slice a C.length cap)/\X'.cell? ⟨w.heap.size,1,none⟩=some (.int .i64 (r:Nat))) W):=fun W hW=>by
  have k:=(hW.block _ (Array.getElem?_eq_some_iff.1 HBO2.out).1).trans HBO2.out
  exact⟨block_cell k rfl,block_cell k rfl⟩
 have HDd:Hid (Below V2.heap.size V2 V2.drew):=(Below.refl _ _).drew
 have HST : Hid (∀ W, Below V2.heap.size V2 W → Calls Try.prog 18 #[.agg #[.slice a C.length cap, .int .i64 (r : Nat)]] W fun e w' => ∃ aw cw, e = .returned (.slice aw (walksM C).length cw) ∧ Below W.heap.size W w') := fun W hW => (strandsOf_any a cap C (r : Nat) W HM.out (HDV2.out.up hW)).mono (fun e w' ⟨v, h1, h2, h3⟩ => by
     obtain⟨ys,h4,h5,-⟩:=h2
     obtain⟨aw,cw,rfl⟩:=own_capS h5
     exact⟨aw,cw,by rw[h1,h4],h3⟩)
 go_upto_region 4 with(fail)
 rw[HV2.out]
 refine rhd HSd HDd.out (fun hHeld=>?_)
 refine tq 19 0 (h:=?_)
 refine tq 22 3 (h:=?_)
 refine tq 23 4 (h:=?_)
 simp only[List.setIfInBounds_toArray,List.set_cons_succ,List.set_cons_zero]
 obtain⟨lw,hlw2⟩:∃ lw,(walksM C).length=lw:=⟨_,rfl⟩
 rw[hlw2]at HST HT
 have hwT:IntKind.i64.wrap ((lw:Int)+(r:Int))=(T:Int):=by rw[wrap_in _ (by have:=HT.out;omega)];have:=HT.out;omega
 clear hlw2
 refine rd1 1 ?_
 intro K0 hK0
 go_simp
 go_wp2_with (go_at_call 18;refine(HST.out _ HDd.out).mono ?_;rintro e9 w3 ⟨aw,cw,rfl,hb3⟩)
 have HB3:=hidH (HDd.out.trans hb3)
 clear hb3
 refine hK0.out _ _ (HSd.out _ HB3.out) (fun hHeld=>?_)
 clear hK0 K0
 try simp only[Act.put]
 try simp only[List.getElem_toArray]
 try simp only[List.getElem_cons_succ]
 try simp only[List.getElem_cons_zero]
 try  refine tq 21 2 (h:=?_)
 refine tq 24 5 (h:=?_)
 refine tq 5 6 (h:=?_)
 simp only[List.setIfInBounds_toArray,List.set_cons_succ,List.set_cons_zero]
 refine wpAnyH_done (by kernel_rfl) ?_ _
 clear hHeld
 have HP0 : Hid (PolyU w3 w3.heap.size (.slice (some ⟨w2.heap.size, 0, none⟩) 1 1) [(0, 1)]) := (by
  have k:=(HB3.out.block _ (Array.getElem?_eq_some_iff.1 HT2.out).1).trans HT2.out
  refine Or.inr ⟨w2.heap.size,0,1,rfl,Nat.le_refl _,by unfold maxLen;omega,(Array.getElem?_eq_some_iff.1 k).1,fun i hi=>?_⟩
  have:i=0:=by simp at hi;exact hi
  subst this
  exact⟨block_cell k rfl,block_cell k rfl,block_cell k rfl⟩:PolyU w3 w3.heap.size (.slice (some ⟨w2.heap.size,0,none⟩) 1 1) [(0,1)])
 have HBW3:=hidH (HB2.out.trans (HB3.out.mono HB2.out.size))
 clear HSd HDd HST HBO HBO2 HFB HT2 HB3 HV HV2
 go_wp2
 go_loopw [4,5,6,7] (fun v4 v5 _ _ wr=>∃ (j:Nat) (l:List (Int×Int)),(j=0∨j<T)/\v5=.int .i64 ((T:Int)-(j:Int))/\PolyU wr wr.heap.size v4 l/\Hid (Canon l (pwR (j+1)))/\Below w.heap.size w wr) (fun _ v5 _ _ _=>(intOf v5).toNat)
 case atStart=>
  refine⟨0,[(0,1)],Or.inl rfl,by go_num,HP0.out,?_,HBW3.out⟩
  refine⟨List.pairwise_singleton _ _,fun x c=>?_⟩
  show(x,c)∈[(0,1)]↔(if x=0 then 1 else 0)=c/\c≠0
  rw[List.mem_singleton,Prod.mk.injEq]
  by_cases hx:x=0
  · rw[if_pos hx];omega
  · rw[if_neg hx];omega
 case round=>
  clear HP0 HBW3
  rename World=>W1
  obtain⟨j,l,hj,rfl,hp,hcan,hb⟩:=hrel
  have HPW:=hidH hp
  obtain⟨al,cl,rfl⟩:=slice_of hp
  have HCAN:=hidH hcan.out
  have HB1:=hidH hb
  clear hp hcan hb
  by_cases hlt:j+1<T
  · have hd1:(1:Int)<(T:Int)-(j:Int):=by omega
    have hw1:IntKind.i64.wrap ((T:Int)-(j:Int)-1)=(T:Int)-(j:Int)-1:=wrap_in _ (by omega)
    have HL1:Hid (L1 (pwR (j+1)) (2 ^ 33)):=(pw_L1 (j+1)).mono (Nat.pow_le_pow_right (by decide) (by omega))
    have HSU:Hid (Sup 33 (pwR (j+1))):=(pw_sup (j+1) (by omega)).mono (by omega)
    have hlen:=canon_few HCAN.out HSU.out (by decide)
    go_wp2
    go_loopw [6,7] (fun v6 v7 ws=>∃ (i:Nat) (nl:List (Int×Int)),i<=l.length/\v7=.int .i64 (i:Nat)/\PolyU ws ws.heap.size v6 nl/\Hid (Canon nl (fun y=>coefL (l.take i) (y-999)-coefL (l.take i) (y+1001)))/\Below W1.heap.size W1 ws) (fun _ v7 _=>l.length-(intOf v7).toNat)
    case atStart => exact ⟨0, [], Nat.zero_le _, rfl, Or.inl ⟨rfl, rfl⟩, ⟨List.Pairwise.nil, fun x c => ⟨fun h => (by cases h), fun h => (by
     obtain⟨h1,h2⟩:=h
     have h1:(0:Int)-0=c:=h1
     omega)⟩⟩,Below.refl _ _⟩
    case round=>
     rename World=>W3
     obtain⟨i,nl,hil,rfl,hpn,hcn,hb⟩:=hrel
     by_cases hi:i<l.length
     · obtain⟨b,off,rfl,hbb,hTa⟩:=polyU_at HPW.out (by omega)
       have hrow:=hTa.on hb hbb i hi
       have HNX:=hidH (fun x=>coefL_next l i hi rfl rfl x)
       have hin:=canon_in HCAN.out HSU.out (l.getD i (0,0)) (by rw[List.getD_eq_getElem?_getD,List.getElem?_eq_getElem hi];exact List.getElem_mem hi)
       have hcb:(l.getD i (0,0)).2.natAbs<=2 ^ 33:=by
        have:=((HCAN.out.2 (l.getD i (0,0)).1 (l.getD i (0,0)).2).1 (by rw[List.getD_eq_getElem?_getD,List.getElem?_eq_getElem hi];exact List.getElem_mem hi)).1
        rw[<-this]
        exact HL1.out.one _
       generalize (l.getD i (0,0)).1=e at hrow HNX hin
       generalize (l.getD i (0,0)).2=c at hrow HNX hcb
       have pe1:=hin.plus (X:=1) (Z := -1) (L:=1) (by omega) (by omega) (by omega)
       have pe2:=hin.plus (X := -1) (Z := -1) (L:=1) (by omega) (by omega) (by omega)
       obtain⟨x1,hx1⟩:∃ x1,dx e=x1:=⟨_,rfl⟩
       obtain⟨z1,hz1⟩:∃ z1,dz e=z1:=⟨_,rfl⟩
       have hbx : -33<=x1/\x1<=33 /\ -33<=z1/\z1<=33:=by unfold Inb at hin;omega
       rw[hx1,hz1]at pe1 pe2 hrow
       have HE1 : Hid (dx (e + 999) = x1 + 1 ∧ dz (e + 999) = z1 - 1) := (by
        rw[show e+999=e+(1000*1 + -1) by omega,pe1.2.1,pe1.2.2]
        omega:dx (e+999)=x1+1/\dz (e+999)=z1-1)
       have HE2 : Hid (dx (e - 1001) = x1 - 1 ∧ dz (e - 1001) = z1 - 1) := (by
        rw[show e-1001=e+(1000 * -1 + -1) by omega,pe2.2.1,pe2.2.2]
        omega:dx (e-1001)=x1-1/\dz (e-1001)=z1-1)
       have hcb2 : -8589934592<=c/\c<=8589934592:=by
        have:(2:Nat) ^ 33=8589934592:=by decide
        omega
       have HPN:=hidH hpn
       have HCN:=hidH hcn.out
       have HROW:=hidH hrow
       have HBY:=hidH hb
       have hsy:=hb.size
       have hbw:b<W3.heap.size:=by omega
       have n0:(0:Int)<=(i:Int):=by omega
       have n1:(i:Int)<(l.length:Int):=by omega
       have y1:IntKind.i64.wrap (x1+1)=x1+1:=wrap_in _ (by omega)
       have y2:IntKind.i64.wrap (x1-1)=x1-1:=wrap_in _ (by omega)
       have y3:IntKind.i64.wrap (z1-1)=z1-1:=wrap_in _ (by omega)
       have y4:IntKind.i64.wrap (-c) = -c:=wrap_in _ (by omega)
       clear hpn hcn hb hTa hx1 hz1 pe1 pe2 hin hcb hrow
       have HNL := hidH (canon_few HCN.out (K := 34) (fun y hy => (by
        have t1:=take_sup HCAN.out HSU.out i
        have a1:1*coefL (l.take i) (y-(1000*1 + -1))=0:=(t1.shift 1 (-1) 1 1 (by omega) (by omega) (by omega)) y hy
        have a2:1*coefL (l.take i) (y-(1000 * -1 + -1))=0:=(t1.shift (-1) (-1) 1 1 (by omega) (by omega) (by omega)) y hy
        rw[show y-(1000*1 + -1)=y-999 by omega]at a1
        rw[show y-(1000 * -1 + -1)=y+1001 by omega]at a2
        show coefL (l.take i) (y-999)-coefL (l.take i) (y+1001)=0
        omega)) (by decide))
       have HFB1:Hid (∀ x,(coefL (l.take i) x).natAbs<=8589934592):=fun x=>take_bd HCAN.out HL1.out i x
       have HSa:Hid (∀ W,Below W3.heap.size W3 W->(fun X':World=>X'.cell? ⟨b,off+i*3,none⟩=some (.int .i64 x1)/\X'.cell? ⟨b,off+i*3+1,none⟩=some (.int .i64 z1)/\X'.cell? ⟨b,off+i*3+2,none⟩=some (.int .i64 c)) W):=fun W hW=>⟨bcell hW hbw HROW.out.1,bcell hW hbw HROW.out.2.1,bcell hW hbw HROW.out.2.2⟩
       have HDa:Hid (Below W3.heap.size W3 W3.drew):=(Below.refl _ _).drew
       have HPTa:=hidH (fun(W:World) (hW:Below W3.heap.size W3 W)=>put_two _ nl (e+999) (x1+1) (z1-1) c HE1.out.1 HE1.out.2 W (by have:=HNL.out;omega) (by omega) (by omega) (canon_bdN HCN.out (B:=20000000000) (fun x=>by have h1:=HFB1.out (x-999);have h2:=HFB1.out (x+1001);show(coefL (l.take i) (x-999)-coefL (l.take i) (x+1001)).natAbs<=_;omega) (by decide)) (HPN.out.up hW))
       obtain⟨t0,t1,t2⟩:=HSa.out W3 (Below.refl _ _)
       go_upto_region 11 with(fail)
       clear t0 t1 t2
       refine rhd HSa HDa.out (fun hHeld=>?_)
       refine tq 35 0 (h:=?_)
       refine tq 36 1 (h:=?_)
       refine tq 37 2 (h:=?_)
       refine tq 38 3 (h:=?_)
       refine tq 39 4 (h:=?_)
       refine tq 40 5 (h:=?_)
       refine tq 41 6 (h:=?_)
       refine tq 42 7 (h:=?_)
       refine tq 43 8 (h:=?_)
       refine tq 44 9 (h:=?_)
       refine tq 45 10 (h:=?_)
       refine tq 46 11 (h:=?_)
       refine tq 47 12 (h:=?_)
       refine tq 48 13 (h:=?_)
       refine tq 49 14 (h:=?_)
       refine tq 50 15 (h:=?_)
       refine tq 51 16 (h:=?_)
       refine tq 52 17 (h:=?_)
       simp only[List.setIfInBounds_toArray,List.set_cons_succ,List.set_cons_zero]
       refine rd1 18 ?_
       intro K0 hK0
       go_simp
       go_wp2_with (go_at_call 19;refine(HPTa.out _ HDa.out).mono ?_;rintro e9 wa ⟨va,rfl,hpa,hba⟩)
       have HPa:=hidH hpa
       have HBa:=hidH (HDa.out.trans hba)
       clear hpa hba
       refine hK0.out _ _ (HSa.out _ HBa.out) (fun hHeld=>?_)
       clear hK0 K0
       try simp only[Act.put]
       try simp only[List.getElem_toArray]
       try simp only[List.getElem_cons_succ]
       try simp only[List.getElem_cons_zero]
       try          refine tq 6 19 (h:=?_)
       simp only[List.setIfInBounds_toArray,List.set_cons_succ,List.set_cons_zero]
       refine wpAnyH_done (by kernel_rfl) ?_ _
       clear hHeld
       have HPTb := hidH (fun (W : World) (hW : Below wa.heap.size wa W) => put_two _ (putL nl (e + 999) c) (e - 1001) (x1 - 1) (z1 - 1) (-c) HE2.out.1 HE2.out.2 W (by have h1 := HNL.out; have h2 := put_length nl (e + 999) c; omega) (by omega) (by omega) (canon_bdN (canon_put HCN.out (e + 999) c) (B := 40000000000) (fun x => by
        have h1:=HFB1.out (x-999)
        have h2:=HFB1.out (x+1001)
        show(coefL (l.take i) (x-999)-coefL (l.take i) (x+1001)+if e+999=x then c else 0).natAbs<=_
        split<;>omega) (by decide)) (HPa.out.up hW))
       have HSb:Hid (∀ W,Below wa.heap.size wa W->(fun X':World=>X'.cell? ⟨b,off+i*3,none⟩=some (.int .i64 x1)/\X'.cell? ⟨b,off+i*3+1,none⟩=some (.int .i64 z1)/\X'.cell? ⟨b,off+i*3+2,none⟩=some (.int .i64 c)) W):=fun W hW=>HSa.out W (HBa.out.trans (hW.mono HBa.out.size))
       have HDb:Hid (Below wa.heap.size wa wa.drew):=(Below.refl _ _).drew
       go_upto_region 12 with(fail)
       refine rhd HSb HDb.out (fun hHeld=>?_)
       refine tq 54 0 (h:=?_)
       refine tq 55 1 (h:=?_)
       refine tq 56 2 (h:=?_)
       refine tq 57 3 (h:=?_)
       refine tq 58 4 (h:=?_)
       refine tq 59 5 (h:=?_)
       refine tq 60 6 (h:=?_)
       refine tq 61 7 (h:=?_)
       refine tq 62 8 (h:=?_)
       refine tq 63 9 (h:=?_)
       refine tq 64 10 (h:=?_)
       refine tq 65 11 (h:=?_)
       refine tq 66 12 (h:=?_)
       refine tq 67 13 (h:=?_)
       refine tq 68 14 (h:=?_)
       refine tq 69 15 (h:=?_)
       refine tq 70 16 (h:=?_)
       refine tq 71 17 (h:=?_)
       refine tq 72 18 (h:=?_)
       simp only[List.setIfInBounds_toArray,List.set_cons_succ,List.set_cons_zero]
       refine rd1 19 ?_
       intro K0 hK0
       go_simp
       go_wp2_with (go_at_call 19;refine(HPTb.out _ HDb.out).mono ?_;rintro e9 wb ⟨vb,rfl,hpb,hbb⟩)
       have HPb:=hidH hpb
       have HBb:=hidH (HDb.out.trans hbb)
       clear hpb hbb
       refine hK0.out _ _ (HSb.out _ HBb.out) (fun hHeld=>?_)
       clear hK0 K0
       try simp only[Act.put]
       try simp only[List.getElem_toArray]
       try simp only[List.getElem_cons_succ]
       try simp only[List.getElem_cons_zero]
       try          refine tq 6 20 (h:=?_)
       simp only[List.setIfInBounds_toArray,List.set_cons_succ,List.set_cons_zero]
       refine wpAnyH_done (by kernel_rfl) ?_ _
       clear hHeld
       have HBZ:=hidH (HBa.out.trans (HBb.out.mono HBa.out.size))
       have HBQ:=hidH (HBY.out.trans (HBZ.out.mono HBY.out.size))
       go_wp2
       go_roundw
       case rel=>
        refine⟨i+1,_,by omega,by go_num,HPb.out,?_,HBQ.out⟩
        refine canon_congr (two_step HCN.out e c) fun y=>?_
        rw[HNX.out,HNX.out]
       case measure=>simp only[intOf];omega
     · obtain rfl:i=l.length:=by omega
       have hdi2:¬ (l.length:Int)<(l.length:Int):=by omega
       have HCN:=hidH hcn.out
       have HPN:=hidH hpn
       obtain⟨an,cn,rfl⟩:=slice_of hpn
       have HBQ:=hidH (HB1.out.trans (hb.mono HB1.out.size))
       clear hcn hpn
       go_wp2
       go_roundw
       case rel=>
        refine⟨j+1,nl,Or.inr hlt,by go_num,HPN.out,?_,HBQ.out⟩
        refine canon_congr HCN.out fun y=>?_
        rw[List.take_length,canon_coef HCAN.out,canon_coef HCAN.out,pw_next]
       case measure=>simp only[intOf];omega
  · have hd1:¬ (1:Int)<(T:Int)-(j:Int):=by omega
    go_wp2
    go_ret
    refine⟨_,rfl,l,HPW.out,canon_congr HCAN.out fun y=>?_,HB1.out⟩
    rcases hj with h0|h0
    · have hT1:T=0∨T=1:=by omega
      rw[h0]
      rcases hT1 with q|q<;>rw[q]<;>rfl
    · rw[show j+1=T by omega]
end Go.Proofs.Ytefooihnoajnlaa.Poly
