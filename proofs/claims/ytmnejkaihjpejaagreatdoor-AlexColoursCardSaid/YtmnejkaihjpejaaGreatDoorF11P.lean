/- Several texts of the proof, one behind the other. -/
import Derived.Test.YtmnejkaihjpejaaGreatDoorF7P
import Derived.Deep.RegionWith
import Derived.Test.YtmnejkaihjpejaaGreatDoorW1P
/- The walk of Drawing.OnSphere, the rings of FaceRings being given. -/
namespace Go.Proofs.YtmnejkaihjpejaaGreatDoor
open Go.RowKit
set_option maxHeartbeats 16000000
set_option maxRecDepth 100000
theorem onSphere_any (hFR : FaceRingsOk) (a : Option Addr) (cap : Nat) (C : List Cr) (loops : Int) (gF cF gT cT : Nat) (w : World) (hm : mayD C loops = true) (hD : Dr w a cap C gF gT) :
    Calls Tryz.prog 39 #[drV a cap C loops gF cF gT cT] w fun e w'=>e=.returned (.bool (planarB C))/\Below w.heap.size w w':=by
 obtain⟨s1,-,-,-⟩:=sizeB_iff (may_size hm)
 obtain⟨i2,hk,hx0,hx1,hx2⟩:=info_parts infoInt
 have HM:Hid (mayD C loops=true):=hm
 have HD:Hid (Dr w a cap C gF gT):=hD
 have HFA:Hid FaceRingsOk:=hFR
 obtain⟨hfl,hfr⟩:=facesM_facts hm
 have HFR:Hid (∀ j,j<(facesM C).length->0<((facesM C).getD j []).length/\((facesM C).getD j []).length<=4*C.length+1/\∀ k,k<((facesM C).getD j []).length->1<=((facesM C).getD j []).getD k 0/\((facesM C).getD j []).getD k 0<=4*C.length):=hfr
 clear hm hD hfr hFR
 obtain⟨w0,hw0⟩:∃ w0,w0=w.alloc (.cells #[.slice a C.length cap,.int .i64 loops,.slice (some ⟨gF,0,none⟩) (2*C.length+1) cF,.slice (some ⟨gT,0,none⟩) (2*C.length+1) cT] 41):=⟨_,rfl⟩
 have HW0:Hid (w0=w.alloc (.cells #[.slice a C.length cap,.int .i64 loops,.slice (some ⟨gF,0,none⟩) (2*C.length+1) cF,.slice (some ⟨gT,0,none⟩) (2*C.length+1) cT] 41)):=hw0
 have hs0:w0.heap.size=w.heap.size+1:=by rw[hw0];simp
 have HB0:Hid (Below w.heap.size w w0):=(by rw[hw0];exact(Below.refl _ _).alloc (Nat.le_refl _) _:Below w.heap.size w w0)
 have HT0:Hid (w0.heap[w.heap.size]?=some (.cells #[.slice a C.length cap,.int .i64 loops,.slice (some ⟨gF,0,none⟩) (2*C.length+1) cF,.slice (some ⟨gT,0,none⟩) (2*C.length+1) cT] 41 (0,0))):=(by rw[hw0];exact alloc_at rfl:w0.heap[w.heap.size]?=some (.cells #[.slice a C.length cap,.int .i64 loops,.slice (some ⟨gF,0,none⟩) (2*C.length+1) cF,.slice (some ⟨gT,0,none⟩) (2*C.length+1) cT] 41 (0,0)))
 have HPI:Hid (∀ V,Dr V a cap C gF gT->Calls Tryz.prog 59 #[.agg #[.slice a C.length cap,.int .i64 loops,.slice (some ⟨gF,0,none⟩) (2*C.length+1) cF,.slice (some ⟨gT,0,none⟩) (2*C.length+1) cT]] V fun e w'=>∃ gP cP P c,e=.returned (.tuple #[.slice (some ⟨gP,0,none⟩) C.length cP,.int .i64 (c:Nat)])/\w'.ownsRow V.heap.size 3 1 (.slice (some ⟨gP,0,none⟩) C.length cP) C.length (intsV P)/\PcsAll C P c/\Below V.heap.size V w'):=fun V hV=>pieces_any a cap C loops gF cF gT cT V HM.out hV
 have HFI:Hid (∀ V,Dr V a cap C gF gT->Calls Tryz.prog 35 #[.agg #[.slice a C.length cap,.int .i64 loops,.slice (some ⟨gF,0,none⟩) (2*C.length+1) cF,.slice (some ⟨gT,0,none⟩) (2*C.length+1) cT]] V fun e w'=>∃ v,e=.returned v/\DartsOwn w' V.heap.size v (facesM C)/\Below V.heap.size V w'):=fun V hV=>HFA.out a cap C loops gF cF gT cT V HM.out hV
 clear hw0
 unfold drV
 go_enter Tryz.func39,Tryz.ntmps39
 go_wp2_with (go_at_call 59;rw[<-HW0.out];refine(HPI.out _ (HD.out.on HB0.out)).mono ?_;rintro e9 w1 ⟨gP,cP,P,c,rfl,hrow,hpc,hb1⟩;refine Hid.out ?_)
 refine Lib.hid ?_
 have HPC:Hid (PcsAll C P c):=hpc
 have hcn:=hpc.few
 have hs1:=hb1.size
 have HB1:Hid (Below w0.heap.size w0 w1):=hb1
 have HR1:Hid (w1.ownsRow w0.heap.size 3 1 (.slice (some ⟨gP,0,none⟩) C.length cP) C.length (intsV P)):=hrow
 have hgP:=hrow.lt gP rfl
 clear hpc hb1 hrow
 go_wp2_with (first|(at_make;refine wpList_make_full _ rfl _ _ 26 rfl w1.heap.size 3 i2 (.int .i64 0) 1 Tryz.underlying26 hk hx0 hx1 .i64 .i64 _ _ c rfl rfl rfl rfl (by rw[hx2];omega) (by unfold maxLen;omega) (by simp) ?_;intro w2 hrow2 hg2;refine Hid.out ?_))
 refine Lib.hid ?_
 rw[made_zero,exL_zero (headsM C) P c]at hrow2
 have hg2':w1.grownBy w2 none:=hg2
 have HE2:Hid (w2.heap[w.heap.size]?=some (.cells #[.slice a C.length cap,.int .i64 loops,.slice (some ⟨gF,0,none⟩) (2*C.length+1) cF,.slice (some ⟨gT,0,none⟩) (2*C.length+1) cT] 41 (0,0))/\w2.ownsRow w0.heap.size 3 1 (.slice (some ⟨gP,0,none⟩) C.length cP) C.length (intsV P)/\w2.ownsRow w1.heap.size 3 1 (.slice (some ⟨w1.heap.size,0,none⟩) c c) c (intsV (exL (headsM C) P c 0 0))/\Below w.heap.size w w2):=⟨(hg2'.block _ (by omega) (by simp)).trans ((HB1.out.block _ (by omega)).trans HT0.out),own_any HR1.out hg2',hrow2,(HB0.out.trans (HB1.out.mono (by omega))).grown hg2' (by omega) (fun k hk=>by cases hk)⟩
 have HVA:Hid (∀ i,i<C.length->∃ q:Nat,P.getD i 0=(q:Int)/\q<c):=fun i hi=>⟨(P.getD i 0).toNat,by have:=HPC.out.vals i hi;omega,by have:=HPC.out.vals i hi;omega⟩
 have HPL:Hid (P.length=C.length):=HPC.out.len
 clear hrow2 hg2 hg2' HT0 HB0 HB1 HR1
 go_wp2
 go_loopw [21] (fun v21 wr=>∃ i:Nat,i<=C.length/\v21=.int .i64 (i:Nat)/\Hid (wr.heap[w.heap.size]?=some (.cells #[.slice a C.length cap,.int .i64 loops,.slice (some ⟨gF,0,none⟩) (2*C.length+1) cF,.slice (some ⟨gT,0,none⟩) (2*C.length+1) cT] 41 (0,0))/\wr.ownsRow w0.heap.size 3 1 (.slice (some ⟨gP,0,none⟩) C.length cP) C.length (intsV P)/\wr.ownsRow w1.heap.size 3 1 (.slice (some ⟨w1.heap.size,0,none⟩) c c) c (intsV (exL (headsM C) P c i 0))/\Below w.heap.size w wr)) (fun v21 _=>C.length-(intOf v21).toNat)
 case atStart=>exact⟨0,Nat.zero_le _,rfl,HE2.out⟩
 case round=>
  clear HE2
  rename World=>W1
  obtain⟨i,hin,rfl,he⟩:=hrel
  have hlE:=he.out.2.2.1.lt w1.heap.size rfl
  have hlP:=he.out.2.1.lt gP rfl
  have hsW:=he.out.2.2.2.size
  by_cases hil:i<C.length
  · obtain⟨q,hq,hqc⟩:=HVA.out i hil
    have e0:W1.cell? ⟨gP,i,none⟩=some (.int .i64 (q:Nat)):=by
     rw[he.out.2.1.cellAt i (by omega),intsV_get P i (by rw[HPL.out];exact hil),hq]
    obtain⟨z,hz⟩:∃ z,(exL (headsM C) P c i 0).getD q 0=z:=⟨_,rfl⟩
    have hzb : -16<=z/\z<=100:=by
     rw[<-hz,exL_at _ _ _ _ _ _ hqc]
     have h1:=cntI_le P q i
     have h2:=cntH_le (headsM C) P q 0
     rw[headsM_len]at h2
     omega
    have e1:W1.cell? ⟨w1.heap.size,q,none⟩=some (.int .i64 z):=by
     rw[he.out.2.2.1.cellAt q (by omega),intsV_get _ q (by rw[exL_len];exact hqc),hz]
    have z1:W1.frozen? ⟨w1.heap.size,q,none⟩=false:=he.out.2.2.1.frozenAt q
    have hst:=he.out.2.2.1.stored q (.int .i64 (z-1))
    rw[intsV_set,<-hz,exL_less (headsM C) P c i q hq hqc,hz]at hst
    have HST:Hid ((W1.setCell ⟨w1.heap.size,q,none⟩ (.int .i64 (z-1))).heap[w.heap.size]?=some (.cells #[.slice a C.length cap,.int .i64 loops,.slice (some ⟨gF,0,none⟩) (2*C.length+1) cF,.slice (some ⟨gT,0,none⟩) (2*C.length+1) cT] 41 (0,0))/\(W1.setCell ⟨w1.heap.size,q,none⟩ (.int .i64 (z-1))).ownsRow w0.heap.size 3 1 (.slice (some ⟨gP,0,none⟩) C.length cP) C.length (intsV P)/\(W1.setCell ⟨w1.heap.size,q,none⟩ (.int .i64 (z-1))).ownsRow w1.heap.size 3 1 (.slice (some ⟨w1.heap.size,0,none⟩) c c) c (intsV (exL (headsM C) P c (i+1) 0))/\Below w.heap.size w (W1.setCell ⟨w1.heap.size,q,none⟩ (.int .i64 (z-1)))):=⟨(hst.2.block _ (by omega) (fun e=>by have:w.heap.size=w1.heap.size:=Option.some.inj e;omega)).trans he.out.1,he.out.2.1.kept hst.2 (Or.inr (fun e=>by have:gP=w1.heap.size:=Option.some.inj e;omega)),hst.1,he.out.2.2.2.grown hst.2 hsW (fun k hk=>by have:=Option.some.inj hk;omega)⟩
    have hqI:(q:Int)<(c:Int):=by omega
    clear hst hz hq
    go_wp2
    go_roundw
    case rel=>exact⟨i+1,by omega,by go_num,HST.out⟩
    case measure=>simp only[intOf];omega
  · obtain rfl:i=C.length:=by omega
    have HE3:Hid (W1.heap[w.heap.size]?=some (.cells #[.slice a C.length cap,.int .i64 loops,.slice (some ⟨gF,0,none⟩) (2*C.length+1) cF,.slice (some ⟨gT,0,none⟩) (2*C.length+1) cT] 41 (0,0))/\W1.ownsRow w0.heap.size 3 1 (.slice (some ⟨gP,0,none⟩) C.length cP) C.length (intsV P)/\W1.ownsRow w1.heap.size 3 1 (.slice (some ⟨w1.heap.size,0,none⟩) c c) c (intsV (exL (headsM C) P c C.length 0))/\Below w.heap.size w W1):=he.out
    have p0:W1.cell? ⟨w.heap.size,0,none⟩=some (.slice a C.length cap):=block_cell he.out.1 rfl
    have p1:W1.cell? ⟨w.heap.size,1,none⟩=some (.int .i64 loops):=block_cell he.out.1 rfl
    have p2:W1.cell? ⟨w.heap.size,2,none⟩=some (.slice (some ⟨gF,0,none⟩) (2*C.length+1) cF):=block_cell he.out.1 rfl
    have p3:W1.cell? ⟨w.heap.size,3,none⟩=some (.slice (some ⟨gT,0,none⟩) (2*C.length+1) cT):=block_cell he.out.1 rfl
    clear he
    go_wp2_with (go_at_call 35;refine(HFI.out _ (HD.out.on HE3.out.2.2.2)).mono ?_;rintro e9 w4 ⟨vf,rfl,hrf,hb4⟩;refine Hid.out ?_)
    refine Lib.hid ?_
    have hs4:=hb4.size
    have hg4:W1.grownBy w4 none:=grown_below hb4 none
    have HE4:Hid (w4.heap[w.heap.size]?=some (.cells #[.slice a C.length cap,.int .i64 loops,.slice (some ⟨gF,0,none⟩) (2*C.length+1) cF,.slice (some ⟨gT,0,none⟩) (2*C.length+1) cT] 41 (0,0))/\w4.ownsRow w0.heap.size 3 1 (.slice (some ⟨gP,0,none⟩) C.length cP) C.length (intsV P)/\w4.ownsRow w1.heap.size 3 1 (.slice (some ⟨w1.heap.size,0,none⟩) c c) c (intsV (exL (headsM C) P c C.length 0))/\Below w.heap.size w w4):=⟨(hb4.block _ (by omega)).trans HE3.out.1,own_any HE3.out.2.1 hg4,own_any HE3.out.2.2.1 hg4,HE3.out.2.2.2.trans (hb4.mono hsW)⟩
    have hrg:=hrf.rings (fun j hj=>(HFR.out j hj).1)
    obtain⟨af,cf,rfl,ff⟩:=hrg
    have HRG:Hid (RingsAt w4 W1.heap.size (.slice af (facesM C).length cf) (facesM C)):=⟨af,cf,rfl,ff⟩
    clear hrf ff hb4 hg4 p0 p1 p2 p3 HE3
    by_cases hz:C.length=0
    · have HPB:Hid (planarB C=true):=((planarB_iff C).2 fun p hp=>by omega:planarB C=true)
      have hf0:(facesM C).length=0:=by omega
      have hc0:c=0:=by omega
      go_wp2
      go_loopw [35] (fun v35 wr=>v35=.int .i64 0/\Below w4.heap.size w4 wr) (fun _ _=>0)
      case atStart=>exact⟨rfl,Below.refl _ _⟩
      case round=>
       rename World=>W3
       obtain⟨rfl,hb⟩:=hrel
       have HBW:Hid (Below w.heap.size w W3):=HE4.out.2.2.2.trans (hb.mono HE4.out.2.2.2.size)
       have hfz:((facesM C).length:Int)=0:=by omega
       clear hb
       go_wp2
       go_loopw [56] (fun v56 wr=>v56=.int .i64 0/\Below w.heap.size w wr) (fun _ _=>0)
       case atStart=>exact⟨rfl,HBW.out⟩
       case round=>
        obtain⟨rfl,hb⟩:=hrel
        have hcz:(c:Int)=0:=by omega
        go_wp2
        go_ret
        exact⟨by rw[HPB.out];rfl,hb⟩
    · have hpos:0<C.length:=by omega
      obtain⟨af',cf',ef,ff⟩:=HRG.out
      injection ef with ef1 ef2 ef3
      obtain⟨bf,of,efa,hbf,hBf,hcf⟩:=ff (facesM_pos hpos)
      rw[<-ef1]at efa
      subst efa
      have HCF:Hid (∀ j,j<(facesM C).length->∃ g c,w4.cell? ⟨bf,of+j,none⟩=some (.slice (some ⟨g,0,none⟩) ((facesM C).getD j []).length c)/\g<w4.heap.size/\W1.heap.size<=g/\∀ k,k<((facesM C).getD j []).length->w4.cell? ⟨g,k*2,none⟩=some (.int .i64 (dA (((facesM C).getD j []).getD k 0):Nat))/\w4.cell? ⟨g,k*2+1,none⟩=some (.bool (dB (((facesM C).getD j []).getD k 0)))):=hcf
      have HEF:Hid (af'=some ⟨bf,of,none⟩):=ef1.symm
      have hEW:=hlE.2
      clear ff hcf ef1 ef2 ef3 HRG hz hlE hlP
      go_wp2
      go_loopw [35] (fun v35 wr=>∃ i:Nat,i<=(facesM C).length/\v35=.int .i64 (i:Nat)/\Hid (wr.heap[w.heap.size]?=some (.cells #[.slice a C.length cap,.int .i64 loops,.slice (some ⟨gF,0,none⟩) (2*C.length+1) cF,.slice (some ⟨gT,0,none⟩) (2*C.length+1) cT] 41 (0,0))/\wr.ownsRow w0.heap.size 3 1 (.slice (some ⟨gP,0,none⟩) C.length cP) C.length (intsV P)/\wr.ownsRow w1.heap.size 3 1 (.slice (some ⟨w1.heap.size,0,none⟩) c c) c (intsV (exL (headsM C) P c C.length i))/\Below w.heap.size w wr)/\Hid (w4.grownBy wr (some w1.heap.size))) (fun v35 _=>(facesM C).length-(intOf v35).toNat)
      case atStart=>exact⟨0,Nat.zero_le _,rfl,HE4.out,World.grownBy.refl _ _⟩
      case round =>
       clear HE4
       rename World=>W3
       obtain⟨i,hin,rfl,he,hgr⟩:=hrel
       have hlE:=he.out.2.2.1.lt w1.heap.size rfl
       have hlP:=he.out.2.1.lt gP rfl
       have hs3:=he.out.2.2.2.size
       have hsg:=hgr.out.size
       by_cases hil:i<(facesM C).length
       · obtain⟨gj,cj,k0,k1,kB,k2⟩:=HCF.out i hil
         obtain⟨l0,l1,l2⟩:=HFR.out i hil
         have hx12:=l2 0 l0
         have k3:=k2 0 l0
         obtain⟨nF,hnF⟩:∃ nF,((facesM C).getD i []).length=nF:=⟨_,rfl⟩
         obtain⟨x,hx⟩:∃ x,((facesM C).getD i []).getD 0 0=x:=⟨_,rfl⟩
         rw[hnF]at k0 l0
         rw[hx]at k3 hx12
         obtain⟨-,d2,-⟩:=d_may HM.out x hx12.1 hx12.2
         have dle:=dA_le hx12.1 hx12.2
         obtain⟨y,hy⟩:∃ y,dC C x=y:=⟨_,rfl⟩
         obtain⟨ys,hys⟩:∃ ys,dS C x=ys:=⟨_,rfl⟩
         have HEV:Hid (∀ V,Below w.heap.size w V->Calls Tryz.prog 66 #[.agg #[.slice a C.length cap,.int .i64 loops,.slice (some ⟨gF,0,none⟩) (2*C.length+1) cF,.slice (some ⟨gT,0,none⟩) (2*C.length+1) cT],.agg #[.int .i64 (dA x:Nat),.bool (dB x)]] V fun e w'=>e=.returned (.agg #[.int .i64 (y:Nat),.int .i64 (ys:Nat)])/\Below V.heap.size V w'):=fun V hV=>by
          rw[<-hy,<-hys]
          exact end_any a cap C loops gF cF gT cT (dA x) (dB x) V HM.out dle.1 dle.2 (HD.out.on hV)
         rw[hy]at d2
         obtain⟨q,hq,hqc⟩:=HVA.out y d2
         have HHD:Hid (P.getD ((headsM C).getD i 0) 0=(q:Int)):=(by rw[headsM_at C i hil,hx,hy];exact hq:P.getD ((headsM C).getD i 0) 0=(q:Int))
         obtain⟨z,hz⟩:∃ z,(exL (headsM C) P c C.length i).getD q 0=z:=⟨_,rfl⟩
         have hzb : -16<=z/\z<=100:=by
          rw[<-hz,exL_at _ _ _ _ _ _ hqc]
          have h1:=cntI_le P q C.length
          have h2:=cntH_le (headsM C) P q i
          rw[headsM_len]at h2
          omega
         have far:∀ (b o:Nat) (u:Value),w4.cell? ⟨b,o,none⟩=some u->W1.heap.size<=b->W3.cell? ⟨b,o,none⟩=some u:=fun b o u hu hB=>hgr.out.cell hu (fun e=>by have:b=w1.heap.size:=Option.some.inj e;omega)
         have m0:W3.cell? ⟨bf,of+i,none⟩=some (.slice (some ⟨gj,0,none⟩) nF cj):=far _ _ _ k0 hBf
         have m1:W3.cell? ⟨gj,0,none⟩=some (.int .i64 (dA x:Nat)):=far _ _ _ k3.1 kB
         have m2:W3.cell? ⟨gj,1,none⟩=some (.bool (dB x)):=far _ _ _ k3.2 kB
         have p0:W3.cell? ⟨w.heap.size,0,none⟩=some (.slice a C.length cap):=block_cell he.out.1 rfl
         have p1:W3.cell? ⟨w.heap.size,1,none⟩=some (.int .i64 loops):=block_cell he.out.1 rfl
         have p2:W3.cell? ⟨w.heap.size,2,none⟩=some (.slice (some ⟨gF,0,none⟩) (2*C.length+1) cF):=block_cell he.out.1 rfl
         have p3:W3.cell? ⟨w.heap.size,3,none⟩=some (.slice (some ⟨gT,0,none⟩) (2*C.length+1) cT):=block_cell he.out.1 rfl
         have hfs:=field_spotD
         have hwz:IntKind.i64.wrap (z+1)=z+1:=IntWalk.i64_in _ (by omega)
         have i1:(i:Int)<((facesM C).length:Int):=by omega
         have i2':(0:Int)<(nF:Int):=by omega
         have i3:(y:Int)<(C.length:Int):=by omega
         have i4:(q:Int)<(c:Int):=by omega
         have HD3:Hid (Below W3.heap.size W3 W3.drew):=(Below.refl _ _).drew
         have HQY:Hid (P.getD y 0=(q:Int)):=hq
         have HZZ:Hid ((exL (headsM C) P c C.length i).getD q 0=z):=hz
         clear k0 k1 kB k2 k3 l1 l2 hnF hx hy hys hq hz dle hx12 far
         generalize dA x=xA at HEV m1
         generalize dB x=xB at HEV m2
         go_wp2
         go_region_with (first
          | (go_at_call 66; refine (HEV.out _ (he.out.2.2.2.trans (HD3.out.mono hs3))).mono ?_; rintro e9 w5 ⟨rfl, hb5⟩
             have H5:Hid (Below W3.heap.size W3 w5):=HD3.out.trans (hb5.mono HD3.out.size)
             have hg5:=grown_below H5.out none
             have hs5:=H5.out.size
             have HP5:=own_any he.out.2.1 hg5
             have HE5:=own_any he.out.2.2.1 hg5
             have e0:w5.cell? ⟨gP,y,none⟩=some (.int .i64 (q:Nat)):=by
              rw[HP5.cellAt y (by omega),intsV_get P y (by rw[HPL.out];exact d2),HQY.out]
             have e1:w5.cell? ⟨w1.heap.size,q,none⟩=some (.int .i64 z):=by
              rw[HE5.cellAt q (by omega),intsV_get _ q (by rw[exL_len];exact hqc),HZZ.out]
             have z1:w5.frozen? ⟨w1.heap.size,q,none⟩=false:=HE5.frozenAt q
             clear hb5 hg5 HP5 HE5))
         all_goals
          have hg5:=grown_below H5.out none
          have HE5:=own_any he.out.2.2.1 hg5
          have hst:=HE5.stored q (.int .i64 (z+1))
          rw[intsV_set,<-HZZ.out,exL_more (headsM C) P c C.length i q (by rw[headsM_len];exact hil) HHD.out hqc,HZZ.out]at hst
          have HST:Hid ((w5.setCell ⟨w1.heap.size,q,none⟩ (.int .i64 (z+1))).heap[w.heap.size]?=some (.cells #[.slice a C.length cap,.int .i64 loops,.slice (some ⟨gF,0,none⟩) (2*C.length+1) cF,.slice (some ⟨gT,0,none⟩) (2*C.length+1) cT] 41 (0,0))/\(w5.setCell ⟨w1.heap.size,q,none⟩ (.int .i64 (z+1))).ownsRow w0.heap.size 3 1 (.slice (some ⟨gP,0,none⟩) C.length cP) C.length (intsV P)/\(w5.setCell ⟨w1.heap.size,q,none⟩ (.int .i64 (z+1))).ownsRow w1.heap.size 3 1 (.slice (some ⟨w1.heap.size,0,none⟩) c c) c (intsV (exL (headsM C) P c C.length (i+1)))/\Below w.heap.size w (w5.setCell ⟨w1.heap.size,q,none⟩ (.int .i64 (z+1)))):=⟨(hst.2.block _ (by omega) (fun e=>by have:w.heap.size=w1.heap.size:=Option.some.inj e;omega)).trans ((H5.out.block _ (by omega)).trans he.out.1),(own_any he.out.2.1 hg5).kept hst.2 (Or.inr (fun e=>by have:gP=w1.heap.size:=Option.some.inj e;omega)),hst.1,(he.out.2.2.2.trans (H5.out.mono hs3)).grown hst.2 (by omega) (fun k hk=>by have:=Option.some.inj hk;omega)⟩
          have HGG:Hid (w4.grownBy (w5.setCell ⟨w1.heap.size,q,none⟩ (.int .i64 (z+1))) (some w1.heap.size)):=grown_trans (grown_new hgr.out hg5 (fun q hq=>by cases hq)) hst.2
          clear hg5 HE5 hst e0 e1 z1 m0 m1 m2 p0 p1 p2 p3 hfs hwz
          go_wp2
          go_roundw
         all_goals first
          |(simp only[intOf];omega)
          |exact⟨i+1,by omega,by go_num,HST.out,HGG.out⟩
       · obtain rfl:i=(facesM C).length:=by omega
         have HL3:Hid (W3.heap[w.heap.size]?=some (.cells #[.slice a C.length cap,.int .i64 loops,.slice (some ⟨gF,0,none⟩) (2*C.length+1) cF,.slice (some ⟨gT,0,none⟩) (2*C.length+1) cT] 41 (0,0))/\W3.ownsRow w0.heap.size 3 1 (.slice (some ⟨gP,0,none⟩) C.length cP) C.length (intsV P)/\W3.ownsRow w1.heap.size 3 1 (.slice (some ⟨w1.heap.size,0,none⟩) c c) c (intsV (exL (headsM C) P c C.length (headsM C).length))/\Below w.heap.size w W3):=(by rw[headsM_len];exact he.out:(W3.heap[w.heap.size]?=some (.cells #[.slice a C.length cap,.int .i64 loops,.slice (some ⟨gF,0,none⟩) (2*C.length+1) cF,.slice (some ⟨gT,0,none⟩) (2*C.length+1) cT] 41 (0,0))/\W3.ownsRow w0.heap.size 3 1 (.slice (some ⟨gP,0,none⟩) C.length cP) C.length (intsV P)/\W3.ownsRow w1.heap.size 3 1 (.slice (some ⟨w1.heap.size,0,none⟩) c c) c (intsV (exL (headsM C) P c C.length (headsM C).length))/\Below w.heap.size w W3))
         clear he hgr
         go_wp2
         go_loopw [56] (fun v56 wr=>∃ i:Nat,i<=c/\v56=.int .i64 (i:Nat)/\Hid (∀ p,p<i->exI C.length (headsM C) P p=2)/\Below W3.heap.size W3 wr) (fun v56 _=>c-(intOf v56).toNat)
         case atStart=>exact⟨0,Nat.zero_le _,rfl,(fun p hp=>absurd hp (Nat.not_lt_zero _):∀ p,p<0->exI C.length (headsM C) P p=2),Below.refl _ _⟩
         case round=>
          rename World=>W5
          obtain⟨i,hic,rfl,hall,hb⟩:=hrel
          have hs5:=hb.size
          by_cases hil:i<c
          · obtain⟨z,hz⟩:∃ z,exI C.length (headsM C) P i=z:=⟨_,rfl⟩
            have e0:W5.cell? ⟨w1.heap.size,i,none⟩=some (.int .i64 z):=by
             have h:=own_any HL3.out.2.2.1 (grown_below hb none)
             rw[h.cellAt i (by omega),intsV_get _ i (by rw[exL_len];exact hil),exL_ex C.length (headsM C) P c i hil,hz]
            have HZZ:Hid (exI C.length (headsM C) P i=z):=hz
            have HB5:Hid (Below W3.heap.size W3 W5):=hb
            clear hz hb
            by_cases h2:z=2
            · have hde:(z != 2)=false:=by simp[h2]
              have HZ2:Hid (z=2):=h2
              clear h2
              go_wp2
              go_roundw
              case rel=>
               refine⟨i+1,by omega,by go_num,(fun p hp=>?_:∀ p,p<i+1->exI C.length (headsM C) P p=2),HB5.out⟩
               by_cases e2:p=i
               · rw[e2,HZZ.out];exact HZ2.out
               · exact hall.out p (by omega)
              case measure=>simp only[intOf];omega
            · have hde:(z != 2)=true:=by simp[h2]
              have HPB : Hid (planarB C = false) := (by
               cases hb:planarB C with
               |false=>rfl
               |true=>
                have h:=(planar_pieces HM.out HPC.out).1 hb i hil
                rw[HZZ.out]at h
                exact absurd h h2:planarB C=false)
              clear h2
              go_wp2
              go_ret
              exact⟨by rw[HPB.out];rfl,HL3.out.2.2.2.trans (HB5.out.mono hs3)⟩
          · obtain rfl:i=c:=by omega
            have HPB:Hid (planarB C=true):=((planar_pieces HM.out HPC.out).2 hall.out:planarB C=true)
            go_wp2
            go_ret
            exact⟨by rw[HPB.out];rfl,HL3.out.2.2.2.trans (hb.mono hs3)⟩
end Go.Proofs.YtmnejkaihjpejaaGreatDoor
/- The walks of code.May, code.Faces and code.Planar. -/
namespace Go.Proofs.YtmnejkaihjpejaaGreatDoor
open Go.RowKit
theorem DartsOwn.low {w:World} {B B':Nat} {v:Value} {L:List (List Nat)} (h:DartsOwn w B v L) (hB:B'<=B):DartsOwn w B' v L:=by
 obtain⟨ys,h1,h2,h3⟩:=h
 exact⟨ys,h1,own_low h2 hB,fun j hj=>own_low (h3 j hj) hB⟩
theorem DartsOwn.any {w w':World} {B:Nat} {v:Value} {L:List (List Nat)} (h:DartsOwn w B v L) (hg:w.grownBy w' none):DartsOwn w' B v L:=by
 obtain⟨ys,h1,h2,h3⟩:=h
 exact⟨ys,h1,own_any h2 hg,fun j hj=>own_any (h3 j hj) hg⟩
end Go.Proofs.YtmnejkaihjpejaaGreatDoor
/- The walks of drawing.Flat and of ref.PlanarMay. -/
namespace Go.Proofs.YtmnejkaihjpejaaGreatDoor
open Go.RowKit
set_option maxHeartbeats 4000000
set_option maxRecDepth 100000
def noN (C:List Cr) (loops:Int):Int:=if mayD C loops=true then(if planarB C=true then 0 else 5) else 7
theorem Drawn.dr2 {w w' : World} {a : Option Addr} {cap : Nat} {loops : Int} {C : List Cr} {D : Value} (h : Drawn w w' w.heap.size (.slice a C.length cap) loops C D) (hm : mayD C loops = true) (hb : Below w.heap.size w w') (hC : Crs w w.heap.size (.slice a C.length cap) C) :
    ∃ gF cF gT cT,D=drV a cap C loops gF cF gT cT/\Dr w' a cap C gF gT/\w'.ownsRow w.heap.size 121 2 (.slice (some ⟨gF,0,none⟩) (2*C.length+1) cF) (2*C.length+1) (flat (ends C false C.length 0))/\
    w'.ownsRow w.heap.size 121 2 (.slice (some ⟨gT,0,none⟩) (2*C.length+1) cT) (2*C.length+1) (flat (ends C true C.length 0)):=by
 obtain⟨gF,cF,gT,cT,rfl,h1,h2⟩:=h.yes hm
 exact⟨gF,cF,gT,cT,rfl,⟨hC.up hb,(h1.lt gF rfl).2,(h2.lt gT rfl).2,own_terms h1 (ends_length _ _ _ _),own_terms h2 (ends_length _ _ _ _)⟩,h1,h2⟩
theorem flat_no (v : Value) (C : List Cr) (loops : Int) (w : World) (hm : mayD C loops = false) (h : Crs w w.heap.size v C) :
    Calls Tryz.prog 17 #[.agg #[v,.int .i64 loops]] w fun e w'=>e=.returned (.tuple #[noDrawing,.int .i64 7])/\Below w.heap.size w w':=by
 have HC:Hid (Crs w w.heap.size v C):=h
 obtain⟨a,cap,rfl,hn,-⟩:=h
 have HB1:Hid (Below w.heap.size w ((w.alloc (.cells #[.slice a C.length cap,.int .i64 loops] 24)).alloc (.cells #[.slice none 0 0,.int .i64 0,.slice none 0 0,.slice none 0 0] 41))):=below2 _ _ _
 go_enter Tryz.func17,Tryz.ntmps17
 go_wp2_with (go_at_call 38;refine(of_any _ C loops _ (HC.out.up HB1.out)).mono ?_;rw[hm];rintro e9 w2 ⟨d,rfl,hb2,hd⟩;rw[hd.no hm];refine Hid.out ?_)
 refine Lib.hid ?_
 unfold noDrawing
 have HB2:Hid (Below w.heap.size w w2):=HB1.out.trans (hb2.mono (by simp;omega))
 have hR:w2.heap[w.heap.size+1]?=some (.cells #[.slice none 0 0,.int .i64 0,.slice none 0 0,.slice none 0 0] 41 (0,0)):=(hb2.block _ (by simp)).trans (alloc_at (by simp))
 have hs2:w.heap.size+2<=w2.heap.size:=by have:=hb2.size;simpa using this
 have HR:Hid (w2.heap[w.heap.size+1]?=some (.cells #[.slice none 0 0,.int .i64 0,.slice none 0 0,.slice none 0 0] 41 (0,0))):=hR
 have c0:w2.cell? ⟨w.heap.size+1,0,none⟩=some (.slice none 0 0):=block_cell hR rfl
 have c1:w2.cell? ⟨w.heap.size+1,1,none⟩=some (.int .i64 0):=block_cell hR rfl
 have c2:w2.cell? ⟨w.heap.size+1,2,none⟩=some (.slice none 0 0):=block_cell hR rfl
 have c3:w2.cell? ⟨w.heap.size+1,3,none⟩=some (.slice none 0 0):=block_cell hR rfl
 have f0:w2.frozen? ⟨w.heap.size+1,0,none⟩=false:=block_frozen hR
 have f1:w2.frozen? ⟨w.heap.size+1,1,none⟩=false:=block_frozen hR
 have f2:w2.frozen? ⟨w.heap.size+1,2,none⟩=false:=block_frozen hR
 have f3:w2.frozen? ⟨w.heap.size+1,3,none⟩=false:=block_frozen hR
 have l2:w.heap.size+1<w2.heap.size:=by omega
 clear hb2 hd hR
 go_wp2
 have hX:=alloc_old (o:=.cells #[.slice none 0 0,.int .i64 0,.slice none 0 0,.slice none 0 0] 41) (st4_block (a:=.slice none 0 0) (b:=.int .i64 0) (c:=.slice none 0 0) (d:=.slice none 0 0) HR.out)
 have x0:=block_cell (i:=0) (v:=.slice none 0 0) hX rfl
 have x1:=block_cell (i:=1) (v:=.int .i64 0) hX rfl
 have x2:=block_cell (i:=2) (v:=.slice none 0 0) hX rfl
 have x3:=block_cell (i:=3) (v:=.slice none 0 0) hX rfl
 unfold st4 at x0 x1 x2 x3
 have hbb:=(HB2.out.grown (st4_grown w2 (w.heap.size+1) (.slice none 0 0) (.int .i64 0) (.slice none 0 0) (.slice none 0 0)) HB2.out.size (fun k hk=>by have:=Option.some.inj hk;omega)).alloc (Nat.le_trans HB2.out.size (st4_grown w2 (w.heap.size+1) (.slice none 0 0) (.int .i64 0) (.slice none 0 0) (.slice none 0 0)).size) (.cells #[.slice none 0 0,.int .i64 0,.slice none 0 0,.slice none 0 0] 41)
 exact bodyPost_ret (v:=.tuple #[.agg #[.slice none 0 0,.int .i64 0,.slice none 0 0,.slice none 0 0],.int .i64 7]) (by simp[results,Tryz.results17,go_sem,x0,x1,x2,x3]) rfl ⟨rfl,hbb⟩
theorem flat_bad (hFR : FaceRingsOk) (v : Value) (C : List Cr) (loops : Int) (w : World) (hm : mayD C loops = true) (hp : planarB C = false) (h : Crs w w.heap.size v C) :
    Calls Tryz.prog 17 #[.agg #[v,.int .i64 loops]] w fun e w'=>e=.returned (.tuple #[noDrawing,.int .i64 5])/\Below w.heap.size w w':=by
 have HC:Hid (Crs w w.heap.size v C):=h
 have HFA:Hid FaceRingsOk:=hFR
 have HM:Hid (mayD C loops=true):=hm
 have HP:Hid (planarB C=false):=hp
 obtain⟨a,cap,rfl,hn,-⟩:=h
 have HB1:Hid (Below w.heap.size w ((w.alloc (.cells #[.slice a C.length cap,.int .i64 loops] 24)).alloc (.cells #[.slice none 0 0,.int .i64 0,.slice none 0 0,.slice none 0 0] 41))):=below2 _ _ _
 go_enter Tryz.func17,Tryz.ntmps17
 go_wp2_with (go_at_call 38;refine(of_any _ C loops _ (HC.out.up HB1.out)).mono ?_;rw[hm];rintro e9 w2 ⟨d,rfl,hb2,hd⟩;obtain⟨gF,cF,gT,cT,rfl,hdr⟩:=hd.dr HM.out hb2 (HC.out.up HB1.out);refine Hid.out ?_)
 refine Lib.hid ?_
 have HDR:Hid (Dr w2 a cap C gF gT):=hdr
 unfold drV
 have HB2:Hid (Below w.heap.size w w2):=HB1.out.trans (hb2.mono (by simp;omega))
 have hR:w2.heap[w.heap.size+1]?=some (.cells #[.slice none 0 0,.int .i64 0,.slice none 0 0,.slice none 0 0] 41 (0,0)):=(hb2.block _ (by simp)).trans (alloc_at (by simp))
 have hs2:w.heap.size+2<=w2.heap.size:=by have:=hb2.size;simpa using this
 have HR:Hid (w2.heap[w.heap.size+1]?=some (.cells #[.slice none 0 0,.int .i64 0,.slice none 0 0,.slice none 0 0] 41 (0,0))):=hR
 have HBA:Hid (Below w2.heap.size w2 (w2.alloc (.cells #[.slice a C.length cap,.int .i64 loops,.slice (some ⟨gF,0,none⟩) (2*C.length+1) cF,.slice (some ⟨gT,0,none⟩) (2*C.length+1) cT] 41))):=(Below.refl _ _).alloc (Nat.le_refl _) _
 clear hb2 hd hdr hm hR hp
 go_wp2_with (go_at_call 39;refine(onSphere_any HFA.out a cap C loops gF cF gT cT _ HM.out (HDR.out.on HBA.out)).mono ?_;rw[HP.out];rintro e9 w3 ⟨rfl,hb3⟩;refine Hid.out ?_)
 refine Lib.hid ?_
 have HB23:Hid (Below w2.heap.size w2 w3):=HBA.out.trans (hb3.mono (by simp))
 have HB3:Hid (Below w.heap.size w w3):=HB2.out.trans (HB23.out.mono HB2.out.size)
 have hR:w3.heap[w.heap.size+1]?=some (.cells #[.slice none 0 0,.int .i64 0,.slice none 0 0,.slice none 0 0] 41 (0,0)):=(HB23.out.block _ (by omega)).trans HR.out
 have hQ:w3.heap[w2.heap.size]?=some (.cells #[.slice a C.length cap,.int .i64 loops,.slice (some ⟨gF,0,none⟩) (2*C.length+1) cF,.slice (some ⟨gT,0,none⟩) (2*C.length+1) cT] 41 (0,0)):=(hb3.block _ (by simp)).trans (alloc_at rfl)
 have hs3:w2.heap.size+1<=w3.heap.size:=by have:=hb3.size;simpa using this
 have HR3:Hid (w3.heap[w.heap.size+1]?=some (.cells #[.slice none 0 0,.int .i64 0,.slice none 0 0,.slice none 0 0] 41 (0,0))):=hR
 have c0:w3.cell? ⟨w.heap.size+1,0,none⟩=some (.slice none 0 0):=block_cell hR rfl
 have c1:w3.cell? ⟨w.heap.size+1,1,none⟩=some (.int .i64 0):=block_cell hR rfl
 have c2:w3.cell? ⟨w.heap.size+1,2,none⟩=some (.slice none 0 0):=block_cell hR rfl
 have c3:w3.cell? ⟨w.heap.size+1,3,none⟩=some (.slice none 0 0):=block_cell hR rfl
 have f0:w3.frozen? ⟨w.heap.size+1,0,none⟩=false:=block_frozen hR
 have f1:w3.frozen? ⟨w.heap.size+1,1,none⟩=false:=block_frozen hR
 have f2:w3.frozen? ⟨w.heap.size+1,2,none⟩=false:=block_frozen hR
 have f3:w3.frozen? ⟨w.heap.size+1,3,none⟩=false:=block_frozen hR
 have d0:w3.cell? ⟨w2.heap.size,0,none⟩=some (.slice a C.length cap):=block_cell hQ rfl
 have d1:w3.cell? ⟨w2.heap.size,1,none⟩=some (.int .i64 loops):=block_cell hQ rfl
 have d2:w3.cell? ⟨w2.heap.size,2,none⟩=some (.slice (some ⟨gF,0,none⟩) (2*C.length+1) cF):=block_cell hQ rfl
 have d3:w3.cell? ⟨w2.heap.size,3,none⟩=some (.slice (some ⟨gT,0,none⟩) (2*C.length+1) cT):=block_cell hQ rfl
 have l2:w.heap.size+1<w3.heap.size:=by omega
 have l3:w2.heap.size<w3.heap.size:=by omega
 clear hb3 hR hQ
 go_wp2
 have hG:=st4_grown w3 (w.heap.size+1) (.slice none 0 0) (.int .i64 0) (.slice none 0 0) (.slice none 0 0)
 have hX:=st4_block (a:=.slice none 0 0) (b:=.int .i64 0) (c:=.slice none 0 0) (d:=.slice none 0 0) HR3.out
 have x0:=block_cell (i:=0) (v:=.slice none 0 0) hX rfl
 have x1:=block_cell (i:=1) (v:=.int .i64 0) hX rfl
 have x2:=block_cell (i:=2) (v:=.slice none 0 0) hX rfl
 have x3:=block_cell (i:=3) (v:=.slice none 0 0) hX rfl
 have hbb:=HB3.out.grown hG HB3.out.size (fun k hk=>by have:=Option.some.inj hk;omega)
 unfold st4 at x0 x1 x2 x3
 exact bodyPost_ret (v:=.tuple #[.agg #[.slice none 0 0,.int .i64 0,.slice none 0 0,.slice none 0 0],.int .i64 5]) (by simp[results,Tryz.results17,go_sem,x0,x1,x2,x3]) rfl ⟨rfl,hbb⟩
theorem flat_yesB (hFR : FaceRingsOk) (a : Option Addr) (cap : Nat) (C : List Cr) (loops : Int) (w : World) (hm : mayD C loops = true) (hp : planarB C = true) (h : Crs w w.heap.size (.slice a C.length cap) C) :
    Calls Tryz.prog 17 #[.agg #[.slice a C.length cap,.int .i64 loops]] w fun e w'=>∃ gF cF gT cT,e=.returned (.tuple #[drV a cap C loops gF cF gT cT,.int .i64 0])/\(Dr w' a cap C gF gT/\w.heap.size<=gF/\w.heap.size<=gT)/\Below w.heap.size w w':=by
 have HC:Hid (Crs w w.heap.size (.slice a C.length cap) C):=h
 have HFA:Hid FaceRingsOk:=hFR
 have HM:Hid (mayD C loops=true):=hm
 have HP:Hid (planarB C=true):=hp
 have HB1:Hid (Below w.heap.size w ((w.alloc (.cells #[.slice a C.length cap,.int .i64 loops] 24)).alloc (.cells #[.slice none 0 0,.int .i64 0,.slice none 0 0,.slice none 0 0] 41))):=below2 _ _ _
 go_enter Tryz.func17,Tryz.ntmps17
 go_wp2_with (go_at_call 38;refine(of_any _ C loops _ (HC.out.up HB1.out)).mono ?_;rw[hm];rintro e9 w2 ⟨d,rfl,hb2,hd⟩;obtain⟨gF,cF,gT,cT,rfl,hdr,hF,hT⟩:=hd.dr2 HM.out hb2 (HC.out.up HB1.out);refine Hid.out ?_)
 refine Lib.hid ?_
 have HDR:Hid (Dr w2 a cap C gF gT):=hdr
 have HF:Hid (w2.ownsRow (w.heap.size+2) 121 2 (.slice (some ⟨gF,0,none⟩) (2*C.length+1) cF) (2*C.length+1) (flat (ends C false C.length 0))):=own_low hF (by simp)
 have HT:Hid (w2.ownsRow (w.heap.size+2) 121 2 (.slice (some ⟨gT,0,none⟩) (2*C.length+1) cT) (2*C.length+1) (flat (ends C true C.length 0))):=own_low hT (by simp)
 unfold drV
 have HB2:Hid (Below w.heap.size w w2):=HB1.out.trans (hb2.mono (by simp;omega))
 have hR:w2.heap[w.heap.size+1]?=some (.cells #[.slice none 0 0,.int .i64 0,.slice none 0 0,.slice none 0 0] 41 (0,0)):=(hb2.block _ (by simp)).trans (alloc_at (by simp))
 have hs2:w.heap.size+2<=w2.heap.size:=by have:=hb2.size;simpa using this
 have HR:Hid (w2.heap[w.heap.size+1]?=some (.cells #[.slice none 0 0,.int .i64 0,.slice none 0 0,.slice none 0 0] 41 (0,0))):=hR
 have HBA:Hid (Below w2.heap.size w2 (w2.alloc (.cells #[.slice a C.length cap,.int .i64 loops,.slice (some ⟨gF,0,none⟩) (2*C.length+1) cF,.slice (some ⟨gT,0,none⟩) (2*C.length+1) cT] 41))):=(Below.refl _ _).alloc (Nat.le_refl _) _
 clear hb2 hd hdr hm hR hp hF hT
 go_wp2_with (go_at_call 39;refine(onSphere_any HFA.out a cap C loops gF cF gT cT _ HM.out (HDR.out.on HBA.out)).mono ?_;rw[HP.out];rintro e9 w3 ⟨rfl,hb3⟩;refine Hid.out ?_)
 refine Lib.hid ?_
 have HB23:Hid (Below w2.heap.size w2 w3):=HBA.out.trans (hb3.mono (by simp))
 have HB3:Hid (Below w.heap.size w w3):=HB2.out.trans (HB23.out.mono HB2.out.size)
 have hR:w3.heap[w.heap.size+1]?=some (.cells #[.slice none 0 0,.int .i64 0,.slice none 0 0,.slice none 0 0] 41 (0,0)):=(HB23.out.block _ (by omega)).trans HR.out
 have hQ:w3.heap[w2.heap.size]?=some (.cells #[.slice a C.length cap,.int .i64 loops,.slice (some ⟨gF,0,none⟩) (2*C.length+1) cF,.slice (some ⟨gT,0,none⟩) (2*C.length+1) cT] 41 (0,0)):=(hb3.block _ (by simp)).trans (alloc_at rfl)
 have hs3:w2.heap.size+1<=w3.heap.size:=by have:=hb3.size;simpa using this
 have HR3:Hid (w3.heap[w.heap.size+1]?=some (.cells #[.slice none 0 0,.int .i64 0,.slice none 0 0,.slice none 0 0] 41 (0,0))):=hR
 have c0:w3.cell? ⟨w.heap.size+1,0,none⟩=some (.slice none 0 0):=block_cell hR rfl
 have c1:w3.cell? ⟨w.heap.size+1,1,none⟩=some (.int .i64 0):=block_cell hR rfl
 have c2:w3.cell? ⟨w.heap.size+1,2,none⟩=some (.slice none 0 0):=block_cell hR rfl
 have c3:w3.cell? ⟨w.heap.size+1,3,none⟩=some (.slice none 0 0):=block_cell hR rfl
 have f0:w3.frozen? ⟨w.heap.size+1,0,none⟩=false:=block_frozen hR
 have f1:w3.frozen? ⟨w.heap.size+1,1,none⟩=false:=block_frozen hR
 have f2:w3.frozen? ⟨w.heap.size+1,2,none⟩=false:=block_frozen hR
 have f3:w3.frozen? ⟨w.heap.size+1,3,none⟩=false:=block_frozen hR
 have d0:w3.cell? ⟨w2.heap.size,0,none⟩=some (.slice a C.length cap):=block_cell hQ rfl
 have d1:w3.cell? ⟨w2.heap.size,1,none⟩=some (.int .i64 loops):=block_cell hQ rfl
 have d2:w3.cell? ⟨w2.heap.size,2,none⟩=some (.slice (some ⟨gF,0,none⟩) (2*C.length+1) cF):=block_cell hQ rfl
 have d3:w3.cell? ⟨w2.heap.size,3,none⟩=some (.slice (some ⟨gT,0,none⟩) (2*C.length+1) cT):=block_cell hQ rfl
 have l2:w.heap.size+1<w3.heap.size:=by omega
 have l3:w2.heap.size<w3.heap.size:=by omega
 clear hb3 hR hQ
 go_wp2
 have hG:=st4_grown w3 (w.heap.size+1) (.slice a C.length cap) (.int .i64 loops) (.slice (some ⟨gF,0,none⟩) (2*C.length+1) cF) (.slice (some ⟨gT,0,none⟩) (2*C.length+1) cT)
 have hX:=st4_block (a:=.slice a C.length cap) (b:=.int .i64 loops) (c:=.slice (some ⟨gF,0,none⟩) (2*C.length+1) cF) (d:=.slice (some ⟨gT,0,none⟩) (2*C.length+1) cT) HR3.out
 have x0:=block_cell (i:=0) (v:=.slice a C.length cap) hX rfl
 have x1:=block_cell (i:=1) (v:=.int .i64 loops) hX rfl
 have x2:=block_cell (i:=2) (v:=.slice (some ⟨gF,0,none⟩) (2*C.length+1) cF) hX rfl
 have x3:=block_cell (i:=3) (v:=.slice (some ⟨gT,0,none⟩) (2*C.length+1) cT) hX rfl
 have hbb:=HB3.out.grown hG HB3.out.size (fun k hk=>by have:=Option.some.inj hk;omega)
 unfold st4 at x0 x1 x2 x3
 refine bodyPost_ret (v:=.tuple #[.agg #[.slice a C.length cap,.int .i64 loops,.slice (some ⟨gF,0,none⟩) (2*C.length+1) cF,.slice (some ⟨gT,0,none⟩) (2*C.length+1) cT],.int .i64 0]) (by simp[results,Tryz.results17,go_sem,x0,x1,x2,x3]) rfl ⟨gF,cF,gT,cT,rfl,⟨?_,by have h1:=(HF.out.lt gF rfl).1;omega,by have h1:=(HT.out.lt gT rfl).1;omega⟩,hbb⟩
 have hn:=grown_below HB23.out none
 have gF2:=(own_any HF.out hn).kept hG (Or.inr (fun e=>by have h1:=(HF.out.lt gF rfl).1;have h2:gF=w.heap.size+1:=Option.some.inj e;omega))
 have gT2:=(own_any HT.out hn).kept hG (Or.inr (fun e=>by have h1:=(HT.out.lt gT rfl).1;have h2:gT=w.heap.size+1:=Option.some.inj e;omega))
 exact⟨HC.out.up hbb,(gF2.lt gF rfl).2,(gT2.lt gT rfl).2,own_terms gF2 (ends_length _ _ _ _),own_terms gT2 (ends_length _ _ _ _)⟩
theorem flat_yes (hFR : FaceRingsOk) (v : Value) (C : List Cr) (loops : Int) (w : World) (hm : mayD C loops = true) (hp : planarB C = true) (h : Crs w w.heap.size v C) :
    Calls Tryz.prog 17 #[.agg #[v,.int .i64 loops]] w fun e w'=>∃ a cap gF cF gT cT,e=.returned (.tuple #[drV a cap C loops gF cF gT cT,.int .i64 0])/\Dr w' a cap C gF gT/\Below w.heap.size w w':=by
 obtain⟨a,cap,rfl,-,-⟩:=id h
 exact(flat_yesB hFR a cap C loops w hm hp h).mono fun e w' ⟨gF,cF,gT,cT,he,hd,hb⟩=>⟨a,cap,gF,cF,gT,cT,he,hd.1,hb⟩
theorem noN_zero {C:List Cr} {loops:Int} (h:noN C loops=0):mayD C loops=true/\planarB C=true:=by
 unfold noN at h
 by_cases hm:mayD C loops=true
 · rw[if_pos hm]at h
   by_cases hp:planarB C=true
   · exact⟨hm,hp⟩
   · rw[if_neg hp]at h;omega
 · rw[if_neg hm]at h;omega
end Go.Proofs.YtmnejkaihjpejaaGreatDoor
/- The walks of wind.sign, ref.signOf, wind.Writhe and ref.WritheOf. -/
namespace Go.Proofs.YtmnejkaihjpejaaGreatDoor
open Go.RowKit
set_option maxHeartbeats 4000000
set_option maxRecDepth 100000
def sgn (p:Bool):Int:=if p=true then 1 else -1
theorem sgn_bound (p:Bool):sgn p=1∨sgn p = -1:=by cases p<;>simp[sgn]
def wrM (C:List Cr):Nat->Int
 |0=>0
 |k+1=>wrM C k+sgn (C.getD k Cr.none).plus
theorem wrM_bound (C:List Cr) (k:Nat) : -(k:Int)<=wrM C k/\wrM C k<=(k:Int):=by
 induction k with
 |zero=>simp[wrM]
 |succ k ih=>
  have:=sgn_bound (C.getD k Cr.none).plus
  simp only[wrM]
  omega
theorem signW_any (x : Cr) (w : World) :
    Calls Tryz.prog 21 #[.agg #[.int .i64 x.a,.int .i64 x.b,.int .i64 x.c,.int .i64 x.d,.bool x.plus]] w fun e w'=>e=.returned (.int .i64 (sgn x.plus))/\Below w.heap.size w w':=by
 obtain⟨xa,xb,xc,xd,xp⟩:=x
 cases xp<;>
 · go_enter Tryz.func21,Tryz.ntmps21
   go_wp2
   go_ret
   exact⟨rfl,(Below.refl _ _).alloc (Nat.le_refl _) _⟩
theorem writhe_yes (hFR : FaceRingsOk) (v : Value) (C : List Cr) (loops : Int) (w : World) (hn : noN C loops = 0) (h : Crs w w.heap.size v C) :
    Calls Tryz.prog 10 #[.agg #[v,.int .i64 loops]] w fun e w'=>e=.returned (.tuple #[.int .i64 (wrM C C.length),.int .i64 0])/\Below w.heap.size w w':=by
 have HC:Hid (Crs w w.heap.size v C):=h
 obtain⟨hm,hp⟩:=noN_zero hn
 have HM:Hid (mayD C loops=true):=hm
 have HP:Hid (planarB C=true):=hp
 have HFA:Hid FaceRingsOk:=hFR
 obtain⟨s1,s2,s3,s4⟩:=sizeB_iff (may_size hm)
 obtain⟨a,cap,rfl,-,-⟩:=h
 have HB1:Hid (Below w.heap.size w (w.alloc (.cells #[.slice a C.length cap,.int .i64 loops] 24))):=(Below.refl _ _).alloc (Nat.le_refl _) _
 clear hm hp hn hFR
 go_enter Tryz.func10,Tryz.ntmps10
 go_wp2_with (go_at_call 17;refine(flat_yes HFA.out _ C loops _ HM.out HP.out (HC.out.up HB1.out)).mono ?_;rintro e9 w2 ⟨a',cap',gF,cF,gT,cT,rfl,hdr,hb2⟩;refine Hid.out ?_)
 refine Lib.hid ?_
 have HDR:Hid (Dr w2 a' cap' C gF gT):=hdr
 unfold drV
 have HB2:Hid (Below w.heap.size w w2):=HB1.out.trans (hb2.mono HB1.out.size)
 have hs2:=HB2.out.size
 have HBA:Hid (Below w2.heap.size w2 (w2.alloc (.cells #[.slice a' C.length cap',.int .i64 loops,.slice (some ⟨gF,0,none⟩) (2*C.length+1) cF,.slice (some ⟨gT,0,none⟩) (2*C.length+1) cT] 41))):=(Below.refl _ _).alloc (Nat.le_refl _) _
 clear hb2 hdr
 go_wp2
 go_loopw [6,21] (fun v6 v21 wr=>∃ i:Nat,i<=C.length/\v21=.int .i64 (i:Nat)/\v6=.int .i64 (wrM C i)/\Hid (Below w2.heap.size w2 wr)) (fun _ v21 _=>C.length-(intOf v21).toNat)
 case atStart=>exact⟨0,Nat.zero_le _,rfl,rfl,HBA.out⟩
 case round=>
  rename World=>W1
  obtain⟨i,hin,rfl,rfl,hb⟩:=hrel
  have hsW:=hb.out.size
  by_cases hil:i<C.length
  · obtain⟨b,off,ea,hbw,hC⟩:=HDR.out.cross (by omega)
    obtain rfl:=ea
    obtain⟨e0,e1,e2,e3,e4⟩:=(hC.on hb.out hbw) i hil
    have hbW:b<W1.heap.size:=by omega
    have hii:(i:Int)<(C.length:Int):=by omega
    have HWN:Hid (wrM C (i+1)=wrM C i+sgn (C.getD i Cr.none).plus):=(rfl:wrM C (i+1)=wrM C i+sgn (C.getD i Cr.none).plus)
    have hwb:=wrM_bound C i
    obtain⟨x,hx⟩:∃ x,C.getD i Cr.none=x:=⟨_,rfl⟩
    rw[hx]at HWN e0 e1 e2 e3 e4
    obtain⟨z,hz⟩:∃ z,wrM C i=z:=⟨_,rfl⟩
    rw[hz]at HWN hwb ⊢
    obtain⟨sg',hsg⟩:∃ sg',sgn x.plus=sg':=⟨_,rfl⟩
    have HSG:Hid (sgn x.plus=sg'):=hsg
    have hsb:=sgn_bound x.plus
    rw[hsg]at HWN hsb
    have hsb2 : -1<=sg'/\sg'<=1:=by omega
    have ew:IntKind.i64.wrap (z+sg')=z+sg':=IntWalk.i64_in _ (by omega)
    clear hx hz hsg hsb hC
    go_wp2_with (go_at_call 21;refine(signW_any x _).mono ?_;rw[HSG.out];rintro e9 w5 ⟨rfl,hb5⟩;have HB5:Hid (Below W1.heap.size W1 w5):=((Below.refl _ _).alloc (Nat.le_refl _) _).trans (hb5.mono (by simp));clear hb5)
    go_roundw
    case rel=>exact⟨i+1,by omega,by go_num,by rw[HWN.out],hb.out.trans (HB5.out.mono hsW)⟩
    case measure=>simp only[intOf];omega
  · obtain rfl:i=C.length:=by omega
    go_wp2
    go_ret2
    exact⟨rfl,HB2.out.trans (hb.out.mono hs2)⟩
end Go.Proofs.YtmnejkaihjpejaaGreatDoor
