/- Several texts of the proof, one behind the other. -/
import Derived.Test.YtgagenmkpmmpfaaAL2
import Derived.Test.YtgagenmkpmmpfaaF12P
import Derived.Test.YtgagenmkpmmpfaaC7P
/- The walk of alex.rows. -/
namespace Go.Proofs.Ytgagenmkpmmpfaa
open Go.RowKit
set_option maxHeartbeats 8000000
set_option maxRecDepth 100000
theorem infoTermss:(Try.prog.info? 116).map (fun i=>(i.zero,i.size,i.bytes))=some (some (.slice none 0 0),1,24):=by kernel_rfl
structure TblAt (B n m gt k:Nat) (gs:Nat->Nat) (vals:Nat->Nat->Value) (G:Nat->Nat->Int×Int) (wr:World):Prop where
 outer:wr.ownsRow B 116 1 (.slice (some ⟨gt,0,none⟩) n n) n (valsL n fun i=>if i<k then .slice (some ⟨gs i,0,none⟩) m m else .slice none 0 0)
 each:∀ i,i<k->PlcAt B m (gs i) (vals i) (G i) wr
theorem PlcAt.keep {B m g q:Nat} {vals:Nat->Value} {F:Nat->Int×Int} {w w':World} (h:PlcAt B m g vals F w) (hg:w.grownBy w' (some q)) {B' e s n:Nat} {v:Value} {xs:List Value} (ho:w.ownsRow B' e s v n xs) (hv:v.ownBlock=some q) (h1:56≠e) (h2:95≠e):PlcAt B m g vals F w':=
 ⟨h.row.kept hg (by rw[<-hv];exact own_ne h.row ho h1),fun j hj=>(h.each j hj).kept hg (by rw[<-hv];exact own_ne (h.each j hj) ho h2)⟩
theorem PlcAt.low {B B' m g:Nat} {vals:Nat->Value} {F:Nat->Int×Int} {w:World} (h:PlcAt B m g vals F w) (hB:B'<=B):PlcAt B' m g vals F w:=⟨own_low h.row hB,fun j hj=>own_low (h.each j hj) hB⟩
theorem TblAt.any {B n m gt k:Nat} {gs:Nat->Nat} {vals:Nat->Nat->Value} {G:Nat->Nat->Int×Int} {w w':World} (h:TblAt B n m gt k gs vals G w) (hg:w.grownBy w' none):TblAt B n m gt k gs vals G w':=⟨own_any h.outer hg,fun i hi=>(h.each i hi).any hg⟩
theorem TblAt.put {B n m gt k g : Nat} {gs : Nat → Nat} {vals : Nat → Nat → Value} {G : Nat → Nat → Int × Int} {vs : Nat → Value} {w : World} (h : TblAt B n m gt k gs vals G w) (hr : PlcAt B m g vs (G k) w) :
    TblAt B n m gt (k+1) (fun i=>if i=k then g else gs i) (fun i=>if i=k then vs else vals i) G (w.setCell ⟨gt,k,none⟩ (.slice (some ⟨g,0,none⟩) m m))/\w.grownBy (w.setCell ⟨gt,k,none⟩ (.slice (some ⟨g,0,none⟩) m m)) (some gt):=by
 have hst:=h.outer.stored k (.slice (some ⟨g,0,none⟩) m m)
 refine⟨⟨?_,fun i hi=>?_⟩,hst.2⟩
 · rw [← valsL_set n (fun i => if i < k then .slice (some ⟨gs i, 0, none⟩) m m else .slice none 0 0) _ k (.slice (some ⟨g, 0, none⟩) m m) fun j _ => by
     by_cases e:j=k
     · rw[if_pos e,if_pos (by omega),if_pos e]
     · rw[if_neg e,if_neg e]
       by_cases h2:j<k
       · rw[if_pos h2,if_pos (by omega)]
       · rw[if_neg h2,if_neg (by omega)]]
   exact hst.1
 · by_cases e:i=k
   · rw[if_pos e,if_pos e,e]
     exact hr.keep hst.2 h.outer rfl (by decide) (by decide)
   · rw[if_neg e,if_neg e]
     exact(h.each i (by omega)).keep hst.2 h.outer rfl (by decide) (by decide)
theorem alexRows_any (hAdd : AddOk) (a : Option Addr) (cap : Nat) (C : List Cr) (loops : Int) (ao : Option Addr) (co : Nat) (w : World) (hm : mayD C loops = true) (h10 : C.length ≤ 10) (hD : Crs w w.heap.size (.slice a C.length cap) C) (hO : Slots w w.heap.size (.slice ao (2 * C.length) co) (nats (ovL C (2 * C.length)))) :
    Calls Try.prog 53 #[.agg #[.slice a C.length cap,.int .i64 loops],.slice ao (2*C.length) co] w fun e w'=>∃ gt,e=.returned (.slice (some ⟨gt,0,none⟩) C.length C.length)/\(∃ gs vals,TblAt w.heap.size C.length (ovC C) gt C.length gs vals (alF C) w')/\Below w.heap.size w w':=by
 obtain⟨i1,hj,hy0,hy1,hy2⟩:=info_parts infoTermss
 have HADD:Hid AddOk:=hAdd
 have HM:Hid (mayD C loops=true):=hm
 have HD:Hid (Crs w w.heap.size (.slice a C.length cap) C):=hD
 have HO:Hid (Slots w w.heap.size (.slice ao (2*C.length) co) (nats (ovL C (2*C.length)))):=hO
 have HMO:Hid (∀ k,k<=2*C.length->mostTo (ovL C (2*C.length)) k=rootsN (lowM C) (k+1)):=fun k hk=>mostTo_ov (lowM_least (ovE_lt hm)) (fun v h1 h2=>(lowM_least (ovE_lt hm)).pos (fun e he=>⟨(ovE_in hm e he).1.1,(ovE_in hm e he).2.1⟩) h2 h1) k hk
 have hoc:ovC C<=21:=Nat.le_trans (rootsN_le _ _) (by omega)
 obtain⟨W0,hW0⟩:∃ W,W=w.alloc (.cells #[.slice a C.length cap,.int .i64 loops] 29):=⟨_,rfl⟩
 have HW0:Hid (W0=w.alloc (.cells #[.slice a C.length cap,.int .i64 loops] 29)):=hW0
 have HB0:Hid (Below w.heap.size w W0):=(by rw[hW0];exact(Below.refl _ _).alloc (Nat.le_refl _) _:Below w.heap.size w W0)
 have HT0:Hid (W0.heap[w.heap.size]?=some (.cells #[.slice a C.length cap,.int .i64 loops] 29 (0,0))):=(by rw[hW0];exact alloc_at rfl:W0.heap[w.heap.size]?=some (.cells #[.slice a C.length cap,.int .i64 loops] 29 (0,0)))
 clear hm hD hO hAdd hW0
 go_enter Try.func53,Try.ntmps53
 go_wp2
 rw[<-HW0.out]
 clear HW0
 have HX:Hid (∀ x,x∈ovL C (2*C.length)->x<21):=fun x hx=>by
  obtain⟨i,hi,rfl⟩:=List.mem_map.1 hx
  have:=ovM_in HM.out (i+1) (by omega) (by have:=List.mem_range.1 hi;omega)
  omega
 obtain⟨l,hl⟩:∃ l,ovL C (2*C.length)=l:=⟨_,rfl⟩
 have HL:Hid (ovL C (2*C.length)=l):=hl
 have HLL:Hid (l.length=2*C.length):=(by rw[<-hl,ovL_len]:l.length=2*C.length)
 rw[hl]at HMO HO HX
 clear hl
 have HOC:Hid (∀ i,i<2*C.length->∃ bo oo,ao=some ⟨bo,oo,none⟩/\bo<w.heap.size/\∀ j,j<2*C.length->w.cell? ⟨bo,oo+j,none⟩=some (.int .i64 (l.getD j 0:Nat))):=fun i hi=>by
  obtain⟨a',c',e',f⟩:=HO.out
  rw[nats_len]at e' f
  injection e' with e1 e2 e3
  obtain⟨bo,oo,eb,hlt,hc⟩:=f (by have:=HLL.out;omega)
  refine⟨bo,oo,e1.trans eb,hlt,fun j hj=>?_⟩
  rw[hc j (by rw[HLL.out];exact hj),List.getD_eq_getElem?_getD,nats_get l j (by rw[HLL.out];exact hj)]
  rfl
 go_loopw [5,13] (fun v5 v13 wr=>∃ i:Nat,i<=2*C.length/\v13=.int .i64 (i:Nat)/\v5=.int .i64 (mostTo l i:Nat)/\Hid (Below W0.heap.size W0 wr)) (fun _ v13 _=>2*C.length-(intOf v13).toNat)
 case atStart=>exact⟨0,Nat.zero_le _,rfl,rfl,Below.refl _ _⟩
 case round=>
  rename World=>W1
  obtain⟨i,hi1,rfl,rfl,hb⟩:=hrel
  have hm1:=mostTo_le l 21 i (by rw[HLL.out];exact hi1) HX.out
  have HBW:Hid (Below w.heap.size w W1):=HB0.out.trans (hb.out.mono HB0.out.size)
  by_cases hil:i<2*C.length
  · obtain⟨bo,oo,ea,hbo,hc⟩:=HOC.out i hil
    have HEA:Hid (ao=some ⟨bo,oo,none⟩):=ea
    obtain⟨x,hx⟩:∃ x,l.getD i 0=x:=⟨_,rfl⟩
    have hxB:x<21:=by rw[<-hx];exact HX.out _ (by rw[List.getD_eq_getElem?_getD,List.getElem?_eq_getElem (by rw[HLL.out];exact hil)];exact List.getElem_mem _)
    have e0:W1.cell? ⟨bo,oo+i,none⟩=some (.int .i64 (x:Nat)):=by rw[<-hx];exact bcell HBW.out hbo (hc i hil)
    have HMX:Hid (mostTo l (i+1)=max (mostTo l i) (x+1)):=(by show max _ _=_;rw[hx]:mostTo l (i+1)=max (mostTo l i) (x+1))
    obtain⟨y,hy⟩:∃ y,mostTo l i=y:=⟨_,rfl⟩
    rw[hy]at HMX hm1 ⊢
    clear hx hy hc
    by_cases hxy:y<x+1
    · have HM2:Hid (mostTo l (i+1)=x+1):=(by rw[HMX.out];omega:mostTo l (i+1)=x+1)
      go_wp2
      go_roundw
      case rel=>exact⟨i+1,by omega,by go_num,by rw[HM2.out];go_num,hb.out⟩
      case measure=>simp only[intOf];omega
    · have HM2:Hid (mostTo l (i+1)=y):=(by rw[HMX.out];omega:mostTo l (i+1)=y)
      go_wp2
      go_roundw
      case rel=>exact⟨i+1,by omega,by go_num,by rw[HM2.out],hb.out⟩
      case measure=>simp only[intOf];omega
  · obtain rfl:i=2*C.length:=by omega
    have HCN:Hid (mostTo l (2*C.length)=ovC C):=HMO.out _ (Nat.le_refl _)
    rw[HCN.out]
    obtain⟨j0,j1⟩:W1.cell? ⟨w.heap.size,0,none⟩=some (.slice a C.length cap)/\W1.cell? ⟨w.heap.size,1,none⟩=some (.int .i64 loops):=by
     have q:=(hb.out.block _ (Array.getElem?_eq_some_iff.1 HT0.out).1).trans HT0.out
     exact⟨block_cell q rfl,block_cell q rfl⟩
    have hsz1:=HBW.out.size
    obtain⟨m,hmm⟩:∃ m,ovC C=m:=⟨_,rfl⟩
    have HMM:Hid (ovC C=m):=hmm
    rw[hmm]at hoc ⊢
    clear hmm
    go_wp2_with (first|(at_make;refine wpList_make_full _ rfl _ _ 91 rfl w.heap.size 116 i1 (.slice none 0 0) 1 Try.underlying91 hj hy0 hy1 .i64 .i64 _ _ C.length rfl rfl rfl rfl (by rw[hy2];omega) (by unfold maxLen;omega) (by omega) ?_;intro w2 hrow hg2;refine Hid.out ?_))
    refine Lib.hid ?_
    rw[made_nilsV]at hrow
    obtain⟨gt,hgt⟩:∃ g,W1.heap.size=g:=⟨_,rfl⟩
    rw[hgt]at hrow ⊢
    have HT1:Hid (TblAt w.heap.size C.length m gt 0 (fun _=>0) (fun _ _=>.slice none 0 0) (alF C) w2):=⟨hrow,fun i hi=>absurd hi (Nat.not_lt_zero _)⟩
    have HB2:Hid (Below w.heap.size w w2):=HBW.out.grown hg2 hsz1 (fun q hq=>by cases hq)
    have q0:w2.cell? ⟨w.heap.size,0,none⟩=some (.slice a C.length cap):=by
     have h1:=(hb.out.block _ (Array.getElem?_eq_some_iff.1 HT0.out).1).trans HT0.out
     exact block_cell ((hg2.block _ (Array.getElem?_eq_some_iff.1 h1).1 (by simp)).trans h1) rfl
    clear hrow hg2 hgt j0 j1
    go_wp2
    go_loopw [29] (fun v29 wr=>∃ k:Nat,k<=C.length/\v29=.int .i64 (k:Nat)/\Hid ((∃ gs vals,TblAt w.heap.size C.length m gt k gs vals (alF C) wr)/\Below w.heap.size w wr)) (fun v29 _=>C.length-(intOf v29).toNat)
    case atStart=>exact⟨0,Nat.zero_le _,rfl,⟨_,_,HT1.out⟩,HB2.out⟩
    case round=>
     clear HT1 HB2 q0
     rename World=>W3
     obtain⟨k,hkn,rfl,hp⟩:=hrel
     by_cases hkl:k<C.length
     · obtain⟨gs,vals,hT⟩:=hp.out.1
       have HT:Hid (TblAt w.heap.size C.length m gt k gs vals (alF C) W3):=hT
       have HB3:Hid (Below w.heap.size w W3):=hp.out.2
       obtain⟨b,off,ea,hbw,hC⟩:∃ b off,a=some ⟨b,off,none⟩/\b<w.heap.size/\CrossAt w b off C:=by
        obtain⟨a',c',e',_,f⟩:=HD.out
        injection e' with e1 e2 e3
        obtain⟨b,off,eb,hlt,hc⟩:=f (by omega)
        exact⟨b,off,e1.trans eb,hlt,hc⟩
       obtain⟨bo,oo,eao,hbo,hcO⟩:=HOC.out 0 (by omega)
       have HAO:Hid (ao=some ⟨bo,oo,none⟩):=eao
       have HEA:Hid (a=some ⟨b,off,none⟩):=ea
       obtain⟨e0,e1,e2,e3,e4⟩:=(hC.on hp.out.2 hbw) k hkl
       have fa:=may_fit HM.out k 0 hkl (by omega)
       have fb:=may_fit HM.out k 1 hkl (by omega)
       have fc:=may_fit HM.out k 2 hkl (by omega)
       have fd:=may_fit HM.out k 3 hkl (by omega)
       have HX:Hid ((C.getD k Cr.none).arc 0=(C.getD k Cr.none).a/\(C.getD k Cr.none).arc 1=(C.getD k Cr.none).b/\(C.getD k Cr.none).arc 2=(C.getD k Cr.none).c/\(C.getD k Cr.none).arc 3=(C.getD k Cr.none).d):=⟨rfl,rfl,rfl,rfl⟩
       have fa1:=fa.1
       have fa2:=fa.2.1
       have fb1:=fb.1
       have fb2:=fb.2.1
       have fc1:=fc.1
       have fc2:=fc.2.1
       have fd1:=fd.1
       have fd2:=fd.2.1
       rw[HX.out.1]at fa1 fa2
       rw[HX.out.2.1]at fb1 fb2
       rw[HX.out.2.2.1]at fc1 fc2
       rw[HX.out.2.2.2]at fd1 fd2
       have HAL:Hid (alF C k=rowF (outC' C (C.getD k Cr.none)) (inC C (C.getD k Cr.none)) (ovM C (C.getD k Cr.none).b.toNat)):=(rfl:alF C k=rowF (outC' C (C.getD k Cr.none)) (inC C (C.getD k Cr.none)) (ovM C (C.getD k Cr.none).b.toNat))
       generalize hcr:C.getD k Cr.none=cr at*
       clear hcr HX fa fb fc fd
       obtain⟨za,zb,zc,zd,P⟩:=cr
       simp only at e0 e1 e2 e3 e4 fa1 fa2 fb1 fb2 fc1 fc2 fd1 fd2
       obtain⟨xa,rfl⟩:∃ x:Nat,za=(x:Int):=⟨za.toNat,by omega⟩
       obtain⟨xb,rfl⟩:∃ x:Nat,zb=(x:Int):=⟨zb.toNat,by omega⟩
       obtain⟨xc,rfl⟩:∃ x:Nat,zc=(x:Int):=⟨zc.toNat,by omega⟩
       obtain⟨xd,rfl⟩:∃ x:Nat,zd=(x:Int):=⟨zd.toNat,by omega⟩
       have hov:∀ x,1<=x->x<=2*C.length->w.cell? ⟨bo,oo+(x-1),none⟩=some (.int .i64 (ovM C x:Nat))/\ovM C x<m:=fun x h1 h2=>by
        refine⟨?_,by rw[<-HMM.out];exact ovM_in HM.out x h1 h2⟩
        rw[hcO (x-1) (by omega),<-HL.out]
        have:(ovL C (2*C.length)).getD (x-1) 0=ovM C (x-1+1):=by simp[ovL,List.getD_eq_getElem?_getD,show x-1<2*C.length by omega]
        rw[this,show x-1+1=x by omega]
       have oa:=hov xa (by omega) (by omega)
       have ob:=hov xb (by omega) (by omega)
       have oc:=hov xc (by omega) (by omega)
       obtain⟨X0,hX0⟩:∃ X,X=W3.alloc (.cells #[.int .i64 (xa:Nat),.int .i64 (xb:Nat),.int .i64 (xc:Nat),.int .i64 (xd:Nat),.bool P] 78):=⟨_,rfl⟩
       have HX0:Hid (X0=W3.alloc (.cells #[.int .i64 (xa:Nat),.int .i64 (xb:Nat),.int .i64 (xc:Nat),.int .i64 (xd:Nat),.bool P] 78)):=hX0
       have HBX:Hid (Below w.heap.size w X0):=(by rw[hX0];exact hp.out.2.alloc hp.out.2.size _:Below w.heap.size w X0)
       have HTX:Hid (TblAt w.heap.size C.length m gt k gs vals (alF C) X0):=(by rw[hX0];exact hT.any (World.grownBy_alloc _ _ none):TblAt w.heap.size C.length m gt k gs vals (alF C) X0)
       have hbk:X0.heap[W3.heap.size]?=some (.cells #[.int .i64 (xa:Nat),.int .i64 (xb:Nat),.int .i64 (xc:Nat),.int .i64 (xd:Nat),.bool P] 78 (0,0)):=by rw[hX0];exact alloc_at rfl
       have k0:X0.cell? ⟨W3.heap.size,0,none⟩=some (.int .i64 (xa:Nat)):=block_cell hbk rfl
       have k1:X0.cell? ⟨W3.heap.size,1,none⟩=some (.int .i64 (xb:Nat)):=block_cell hbk rfl
       have k2:X0.cell? ⟨W3.heap.size,2,none⟩=some (.int .i64 (xc:Nat)):=block_cell hbk rfl
       have k3:X0.cell? ⟨W3.heap.size,3,none⟩=some (.int .i64 (xd:Nat)):=block_cell hbk rfl
       have k4:X0.cell? ⟨W3.heap.size,4,none⟩=some (.bool P):=block_cell hbk rfl
       have HCR:Hid (∀ W',Below w.heap.size w W'->Calls Try.prog 64 #[.agg #[.int .i64 (xa:Nat),.int .i64 (xb:Nat),.int .i64 (xc:Nat),.int .i64 (xd:Nat),.bool P],.slice ao (2*C.length) co,.int .i64 (m:Nat)] W' fun e w'=>∃ g,e=.returned (.slice (some ⟨g,0,none⟩) m m)/\(∃ vals,PlcAt W'.heap.size m g vals (alF C k) w')/\Below W'.heap.size W' w'):=fun W' hW=>by
        refine(alexRow_any HADD.out C xa xb xc xd P (ovM C xa) (ovM C xb) (ovM C xc) m ao co bo oo W' (by omega) (by omega) HAO.out (Nat.lt_of_lt_of_le hbo hW.size) (by omega) (by omega) (by omega) oa.2 ob.2 oc.2 (bcell hW hbo oa.1) (bcell hW hbo ob.1) (bcell hW hbo oc.1)).mono ?_
        rintro e w' ⟨g,vs,e1,hp,hb⟩
        refine⟨g,e1,⟨vs,?_⟩,hb⟩
        rw[HAL.out]
        unfold outC' inC
        simp only[Int.toNat_natCast]
        exact hp
       have hltX:W3.heap.size<X0.heap.size:=(Array.getElem?_eq_some_iff.1 hbk).1
       clear hX0 hbk hT hC hcO hov oa ob oc eao
       go_upto_region 11 with(fail)
       rw[<-HX0.out]
       try rw[<-HEA.out]
       clear HX0 e0 e1 e2 e3 e4 ea
       go_wp2_with (go_at_call 64;refine(HCR.out _ HBX.out).mono ?_;rintro e9 w5 ⟨g,rfl,hpl,hb5⟩;refine Hid.out ?_)
       refine Lib.hid ?_
       obtain⟨vs,hpl⟩:=hpl
       have hsX:=HBX.out.size
       have hPU:=(HTX.out.any (grown_below hb5 none)).put (hpl.low hsX)
       have HN5:Hid ((∃ gs vals,TblAt w.heap.size C.length m gt (k+1) gs vals (alF C) (w5.setCell ⟨gt,k,none⟩ (.slice (some ⟨g,0,none⟩) m m)))/\Below w.heap.size w (w5.setCell ⟨gt,k,none⟩ (.slice (some ⟨g,0,none⟩) m m))):=⟨⟨_,_,hPU.1⟩,(HBX.out.trans (hb5.mono hsX)).grown hPU.2 (Nat.le_trans hsX hb5.size) (fun q hq=>by have:=Option.some.inj hq;have:=(HTX.out.outer.lt gt rfl).1;omega)⟩
       have ho5:=(HTX.out.any (grown_below hb5 none)).outer
       have c5:w5.cell? ⟨gt,k,none⟩=some (.slice none 0 0):=by rw[ho5.cellAt k (by omega),valsL_get _ _ _ hkl,if_neg (Nat.lt_irrefl k)]
       have z5:w5.frozen? ⟨gt,k,none⟩=false:=ho5.frozenAt k
       have l5:gt<w5.heap.size:=(ho5.lt gt rfl).2
       clear hPU hpl hb5 ho5 k0 k1 k2 k3 k4
       go_wp2
       go_roundw
       case rel=>exact⟨k+1,by omega,by go_num,HN5.out⟩
       case measure=>simp only[intOf];omega
     · obtain rfl:k=C.length:=by omega
       go_wp2
       go_ret
       exact⟨gt,rfl,by rw[HMM.out];exact hp.out.1,hp.out.2⟩
end Go.Proofs.Ytgagenmkpmmpfaa
/- The walk of alex.Table. -/
namespace Go.Proofs.Ytgagenmkpmmpfaa
open Go.RowKit
set_option maxHeartbeats 4000000
set_option maxRecDepth 100000
theorem table_yes (hFR : FaceRingsOk) (hAdd : AddOk) (v : Value) (C : List Cr) (loops : Int) (w : World) (hn : noN C loops = 0) (h10 : C.length ≤ 10) (h : Crs w w.heap.size v C) :
    Calls Try.prog 36 #[.agg #[v,.int .i64 loops]] w fun e w'=>∃ gt,e=.returned (.tuple #[.slice (some ⟨gt,0,none⟩) C.length C.length,.int .i64 0])/\(∃ gs vals,TblAt w.heap.size C.length (ovC C) gt C.length gs vals (alF C) w')/\Below w.heap.size w w':=by
 have HC:Hid (Crs w w.heap.size v C):=h
 have HFA:Hid FaceRingsOk:=hFR
 have HADD:Hid AddOk:=hAdd
 have HN:Hid (noN C loops=0):=hn
 have HM:Hid (mayD C loops=true):=(noN_zero hn).1
 obtain⟨a,cap,rfl,-,-⟩:=h
 obtain⟨w0,hw0⟩:∃ w0,w0=w.alloc (.cells #[.slice a C.length cap,.int .i64 loops] 29):=⟨_,rfl⟩
 have HW0:Hid (w0=w.alloc (.cells #[.slice a C.length cap,.int .i64 loops] 29)):=hw0
 have HB0:Hid (Below w.heap.size w w0):=(by rw[hw0];exact(Below.refl _ _).alloc (Nat.le_refl _) _:Below w.heap.size w w0)
 have HT0:Hid (w0.heap[w.heap.size]?=some (.cells #[.slice a C.length cap,.int .i64 loops] 29 (0,0))):=(by rw[hw0];exact alloc_at rfl:w0.heap[w.heap.size]?=some (.cells #[.slice a C.length cap,.int .i64 loops] 29 (0,0)))
 have hz1:decide ((10:Int)<(C.length:Int))=false:=by simp;omega
 clear hw0 hn hFR hAdd
 go_enter Try.func36,Try.ntmps36
 go_wp2_with (go_at_call 52;rw[<-HW0.out];refine(overs_yes HFA.out _ C loops _ HN.out (HC.out.up HB0.out)).mono ?_;rintro e9 w2 ⟨ao,co,rfl,hsl,hb2⟩;refine Hid.out ?_)
 refine Lib.hid ?_
 have HB2:Hid (Below w.heap.size w w2):=HB0.out.trans (hb2.mono HB0.out.size)
 have q:=(hb2.block _ (Array.getElem?_eq_some_iff.1 HT0.out).1).trans HT0.out
 have t0:w2.cell? ⟨w.heap.size,0,none⟩=some (.slice a C.length cap):=block_cell q rfl
 have t1:w2.cell? ⟨w.heap.size,1,none⟩=some (.int .i64 loops):=block_cell q rfl
 have hs2:=HB2.out.size
 have HCR:Hid (Calls Try.prog 53 #[.agg #[.slice a C.length cap,.int .i64 loops],.slice ao (2*C.length) co] w2 fun e w'=>∃ gt,e=.returned (.slice (some ⟨gt,0,none⟩) C.length C.length)/\(∃ gs vals,TblAt w2.heap.size C.length (ovC C) gt C.length gs vals (alF C) w')/\Below w2.heap.size w2 w'):=alexRows_any HADD.out a cap C loops ao co w2 HM.out h10 (HC.out.up HB2.out) hsl
 clear hb2 hsl q
 go_wp2_with (go_at_call 53;refine HCR.out.mono ?_;rintro e9 w3 ⟨gt,rfl,hT,hb3⟩;refine Hid.out ?_)
 refine Lib.hid ?_
 have HB3:Hid (Below w.heap.size w w3):=HB2.out.trans (hb3.mono hs2)
 have HTT : Hid (∃ gs vals, TblAt w.heap.size C.length (ovC C) gt C.length gs vals (alF C) w3) := (by
  obtain⟨gs,vals,h⟩:=hT
  exact⟨gs,vals,own_low h.outer hs2,fun i hi=>(h.each i hi).low hs2⟩:∃ gs vals,TblAt w.heap.size C.length (ovC C) gt C.length gs vals (alF C) w3)
 clear hT hb3
 go_wp2
 go_ret2
 exact⟨gt,rfl,HTT.out,HB3.out⟩
end Go.Proofs.Ytgagenmkpmmpfaa
