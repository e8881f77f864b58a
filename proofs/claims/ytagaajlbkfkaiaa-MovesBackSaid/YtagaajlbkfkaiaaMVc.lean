/- Moves: the walk of bench.curled. Made by genmvc.py. -/
import Derived.Test.YtagaajlbkfkaiaaTkhP
import Derived.Test.YtagaajlbkfkaiaaMV7
import Derived.Test.YtagaajlbkfkaiaaF2P
import Derived.Deep.RegionHeld
import Derived.BigRegion
namespace Go.Proofs.Ytagaajlbkfkaiaa
open Go.RowKit
set_option maxHeartbeats 8000000
set_option maxRecDepth 100000
def crlB (C:List Cr) (k x:Nat):Bool:=(decide (enC C x false=k)&&decide (enC C x true=k))&&!decide ((enS C x false+2)%4=enS C x true)
theorem eqSpot (a c b d:Int) (w:World):(Op.equalIn 10000 120 (.agg #[.int .i64 a,.int .i64 b]) (.agg #[.int .i64 c,.int .i64 d])).run Try.prog w=.ok (a==c&&b==d) w:=by
 have u3:=Try.underlying3
 have a3:=Try.isAgg3
 have z3:=Try.sizeOf3
 have hS:Try.prog.underlying 120=some (.struct (Try.prog.fieldsOf 120)):=by kernel_rfl
 have hp:Try.prog.stoodInHeld 120=false:=by kernel_rfl
 rw[show(10000:Nat)=9999+1 from rfl,run_equalIn_agg w 9999 120 _ _ hS hp]
 simp only[Program.fieldsOf,Try.underlying120]
 go_simp
 by_cases h1:a=c<;>by_cases h2:b=d<;>simp[h1,h2]
structure CuAt (Z W:World) (cf sf ct st:Nat) (g6 g7:Nat):Prop where
 b6:W.heap[g6]?=some (.cells #[.int .i64 (cf:Nat),.int .i64 (sf:Nat)] 120 (0,0))
 b7:W.heap[g7]?=some (.cells #[.int .i64 (ct:Nat),.int .i64 (st:Nat)] 120 (0,0))
 ne:g6≠g7
 bel:Below Z.heap.size Z W
theorem curled_any (a:Option Addr) (cap:Nat) (C:List Cr) (loops:Int) (gF cF gT cT:Nat) (k:Nat) (b:Bool) (w:World) (hm:mayD C loops=true) (hd:Dr w a cap C gF gT) (hb:b=true↔∃ x,1<=x/\x<=2*C.length/\crlB C k x=true):
    Calls Try.prog 108 #[drV a cap C loops gF cF gT cT,.int .i64 (k:Nat)] w fun e w'=>e=.returned (.bool b)/\Below w.heap.size w w':=by
 have HD:=QQ1 hd
 have HM:=QQ1 hm
 have HB:=QQ1 hb
 have hl16:=QK4 hm
 have HHA:=QQ1 (fun(z:Int) (W:World)=>has_any a cap C loops gF cF gT cT z W hl16)
 unfold drV at HHA ⊢
 obtain⟨V,hV⟩:∃ V,V=w.alloc (.cells #[.slice a C.length cap,.int .i64 loops,.slice (some ⟨gF,0,none⟩) (2*C.length+1) cF,.slice (some ⟨gT,0,none⟩) (2*C.length+1) cT] 63):=⟨_,rfl⟩
 have HV:=QQ1 hV
 have HBV:Hid (Below w.heap.size w V):=(by rw[hV];exact(Below.refl _ _).alloc (Nat.le_refl _) _)
 have HT0:Hid (V.heap[w.heap.size]?=some (.cells #[.slice a C.length cap,.int .i64 loops,.slice (some ⟨gF,0,none⟩) (2*C.length+1) cF,.slice (some ⟨gT,0,none⟩) (2*C.length+1) cT] 63 (0,0))):=(by rw[hV];exact alloc_at rfl)
 have hsV:V.heap.size=w.heap.size+1:=by rw[hV];simp
 clear hV hd hm hb
 go_enter Try.func108,Try.ntmps108
 go_wp2
 rw[<-HV.out]
 go_loopw [5] (fun v5 wr=>∃ x:Nat,1<=x/\x<=2*C.length+1/\v5=.int .i64 (x:Nat)/\Hid (∀ y,1<=y->y<x->crlB C k y=false)/\Hid (Below V.heap.size V wr)) (fun v5 _=>2*C.length+1-(intOf v5).toNat)
 case atStart=>exact⟨1,by omega,by omega,rfl,(fun y h1 h2=>by omega),Below.refl _ _⟩
 case round=>
  rename World=>W1
  obtain⟨x,hx1,hx2,rfl,hN,hB⟩:=hrel
  have hsW:=hB.out.size
  have HBW:=QQ1 hB.out
  have HN:=QQ1 hN.out
  have k0:=(HBW.out.block _ (by omega)).trans HT0.out
  have b0:=QQ0 (i:=0) k0 rfl
  have b1:=QQ0 (i:=1) k0 rfl
  have b2:=QQ0 (i:=2) k0 rfl
  have b3:=QQ0 (i:=3) k0 rfl
  have lw:w.heap.size<W1.heap.size:=by omega
  clear hN hB k0
  by_cases hxl:x<=2*C.length
  · have hh:hasB C (x:Nat)=true:=by simp[hasB];omega
    have HH:=QQ1 hh
    clear hh
    go_wp2_with (go_at_call 104;refine(HHA.out _ _).mono ?_;rw[HH.out];rintro e9 Z ⟨rfl,hbZ⟩;refine Hid.out ?_)
    refine Lib.hid ?_
    have HBZ:=QQ1 hbZ
    have hsZ:=hbZ.size
    have HZV:=hidB (HBW.out.trans (hbZ.mono (by omega)))
    have hBA:Below w.heap.size w Z:=HBV.out.trans (HZV.out.mono (by omega))
    have hDr:=HD.out.on hBA
    have hen:=hDr.endAt HM.out x (by omega) (by omega)
    have hes0:=(QJ9 HM.out x false (by omega) (by omega)).2.2.1
    obtain⟨p,hp⟩:∃ p,crlB C k x=p:=⟨_,rfl⟩
    have HPX:=QQ1 hp
    unfold crlB at hp
    obtain⟨cf,ef⟩:∃ q,enC C x false=q:=⟨_,rfl⟩
    obtain⟨sf,fs⟩:∃ q,enS C x false=q:=⟨_,rfl⟩
    obtain⟨ct,et⟩:∃ q,enC C x true=q:=⟨_,rfl⟩
    obtain⟨st,ts⟩:∃ q,enS C x true=q:=⟨_,rfl⟩
    rw[ef,fs,et,ts]at hen hp
    rw[fs]at hes0
    have HPE:=QQ1 hp
    have HES:=QQ1 hes0
    have HEN:=QQ1 hen
    have hltT:=hDr.ltT
    have hltF:=hDr.ltF
    have hxi:((x:Nat):Int)<2*(C.length:Int)+1:=by omega
    have hxn:x<2*C.length+1:=by omega
    have HSV:Hid (∀ W,Below Z.heap.size Z W->(fun X:World=>X.cell? ⟨w.heap.size,2,none⟩=some (.slice (some ⟨gF,0,none⟩) (2*C.length+1) cF)/\X.cell? ⟨w.heap.size,3,none⟩=some (.slice (some ⟨gT,0,none⟩) (2*C.length+1) cT)/\X.cell? ⟨gF,x*2,none⟩=some (.int .i64 (cf:Nat))/\X.cell? ⟨gF,x*2+1,none⟩=some (.int .i64 (sf:Nat))/\X.cell? ⟨gT,x*2,none⟩=some (.int .i64 (ct:Nat))/\X.cell? ⟨gT,x*2+1,none⟩=some (.int .i64 (st:Nat))) W):=fun W hW=>by
     have k0:=(hW.block _ (by omega)).trans ((HZV.out.block _ (by omega)).trans HT0.out)
     obtain⟨q1,q2,q3,q4⟩:=HEN.out
     exact⟨QQ0 k0 rfl,QQ0 k0 rfl,bcell hW hltF q3,bcell hW hltF q4,bcell hW hltT q1,bcell hW hltT q2⟩
    have HDZ:Hid (Below Z.heap.size Z Z.drew):=(Below.refl _ _).drew
    have HI0:Hid (CuAt Z ((Z.alloc (.cells #[.int .i64 (cf:Nat),.int .i64 (sf:Nat)] 120)).alloc (.cells #[.int .i64 (ct:Nat),.int .i64 (st:Nat)] 120)).drew cf sf ct st Z.heap.size (Z.heap.size+1)):=⟨alloc_old (alloc_at rfl),alloc_at (by simp),by omega,(QJ3 _ _ _).drew⟩
    have HI1:Hid (CuAt Z ((Z.alloc (.cells #[.int .i64 (ct:Nat),.int .i64 (st:Nat)] 120)).alloc (.cells #[.int .i64 (cf:Nat),.int .i64 (sf:Nat)] 120)).drew cf sf ct st (Z.heap.size+1) Z.heap.size):=⟨alloc_at (by simp),alloc_old (alloc_at rfl),by omega,(QJ3 _ _ _).drew⟩
    clear hbZ hDr hen hes0 hp ef fs et ts hBA b0 b1 b2 b3
    go_wp2
    apply cut_one
    case h=>
     intro key
     refine rhd HSV HDZ.out (fun hHeld=>?_)
     refine tk 0 (h:=?_)
     refine tk 1 (h:=?_)
     refine tk 2 (h:=?_)
     refine tk 3 (h:=?_)
     refine tk 4 (h:=?_)
     refine tk 5 (h:=?_)
     refine tk 6 (h:=?_)
     refine tk 7 (h:=?_)
     refine tk 8 (h:=?_)
     refine tk 9 (h:=?_)
     refine tk 10 (h:=?_)
     refine tk 11 (h:=?_)
     try simp only[Act.put]
     refine rd2 12 13 (fun K hK=>?_) (fun K hK=>?_)
     · go_simp
       refine hK.out _ _ (HSV.out _ ((Below.refl _ _).alloc (Nat.le_refl _) _).drew) (fun hHeld=>?_)
       clear hK K
       try simp only[Act.put]
       refine rd1 13 (fun K hK=>?_)
       go_simp
       refine hK.out _ _ (HSV.out _ (QJ3 _ _ _).drew) (fun hHeld=>?_)
       clear hK K
       try simp only[Act.put]
       refine rd1 14 (fun K hK=>?_)
       go_simp
       refine hK.out _ _ (HSV.out _ (QJ3 _ _ _).drew) (fun hHeld=>?_)
       clear hK K
       try simp only[Act.put]
       refine rd1 15 (fun K hK=>?_)
       go_simp
       refine hK.out _ _ (HSV.out _ (QJ3 _ _ _).drew) (fun hHeld=>?_)
       clear hK K
       try simp only[Act.put]
       refine wpAnyH_done (by kernel_rfl) ?_ _
       have hA:=HI0
       revert hA
       generalize ((Z.alloc (.cells #[.int .i64 (cf:Nat),.int .i64 (sf:Nat)] 120)).alloc (.cells #[.int .i64 (ct:Nat),.int .i64 (st:Nat)] 120)).drew=Wz
       generalize Z.heap.size+1=g7
       generalize Z.heap.size=g6
       revert Wz g7 g6
       exact key.out
     · go_simp
       refine hK.out _ _ (HSV.out _ ((Below.refl _ _).alloc (Nat.le_refl _) _).drew) (fun hHeld=>?_)
       clear hK K
       try simp only[Act.put]
       refine rd1 12 (fun K hK=>?_)
       go_simp
       refine hK.out _ _ (HSV.out _ (QJ3 _ _ _).drew) (fun hHeld=>?_)
       clear hK K
       try simp only[Act.put]
       refine rd1 14 (fun K hK=>?_)
       go_simp
       refine hK.out _ _ (HSV.out _ (QJ3 _ _ _).drew) (fun hHeld=>?_)
       clear hK K
       try simp only[Act.put]
       refine rd1 15 (fun K hK=>?_)
       go_simp
       refine hK.out _ _ (HSV.out _ (QJ3 _ _ _).drew) (fun hHeld=>?_)
       clear hK K
       try simp only[Act.put]
       refine wpAnyH_done (by kernel_rfl) ?_ _
       exact key.out _ _ _ HI1
    intro W4 g7 g6 HC4
    clear HI0 HI1 HSV HEN HDZ
    have HXB:=hidB (HZV.out.trans (HC4.out.bel.mono (by omega)))
    have c0:=QQ0 (i:=0) HC4.out.b6 rfl
    have c1:=QQ0 (i:=1) HC4.out.b6 rfl
    have c2:=QQ0 (i:=0) HC4.out.b7 rfl
    have c3:=QQ0 (i:=1) HC4.out.b7 rfl
    have l6:g6<W4.heap.size:=(Array.getElem?_eq_some_iff.1 HC4.out.b6).1
    have l7:g7<W4.heap.size:=(Array.getElem?_eq_some_iff.1 HC4.out.b7).1
    have HNN:Hid (p=false->∀ y,1<=y->y<x+1->crlB C k y=false):=fun hp y h1 h2=>by
     by_cases e:y=x
     · rw[e,HPX.out,hp]
     · exact HN.out y h1 (by omega)
    by_cases h1:cf=k
    · by_cases h2:ct=k
      · have d1:(((cf:Nat):Int)==((k:Nat):Int))=true:=by simp[h1]
        have d2:(((ct:Nat):Int)==((k:Nat):Int))=true:=by simp[h2]
        have d3:decide (((cf:Nat):Int)=((k:Nat):Int))=true:=by simp[h1]
        have d4:decide (((ct:Nat):Int)=((k:Nat):Int))=true:=by simp[h2]
        have d5:(cf==k)=true:=by simp[h1]
        have d6:(ct==k)=true:=by simp[h2]
        have d7:decide (cf=k)=true:=by simp[h1]
        have d8:decide (ct=k)=true:=by simp[h2]
        obtain⟨s2,hs2⟩:∃ s2,(sf+2)%4=s2:=⟨_,rfl⟩
        have HAC:=QQ1 (fun W=>across_any (cf:Int) sf W HES.out)
        rw[hs2]at HAC
        have HSV:Hid (∀ W,Below W4.heap.size W4 W->(fun X:World=>X.cell? ⟨g6,0,none⟩=some (.int .i64 (cf:Nat))/\X.cell? ⟨g6,1,none⟩=some (.int .i64 (sf:Nat))/\X.cell? ⟨g7,0,none⟩=some (.int .i64 (ct:Nat))/\X.cell? ⟨g7,1,none⟩=some (.int .i64 (st:Nat))) W):=fun W hW=>by
         have q6:=(hW.block _ l6).trans HC4.out.b6
         have q7:=(hW.block _ l7).trans HC4.out.b7
         exact⟨QQ0 q6 rfl,QQ0 q6 rfl,QQ0 q7 rfl,QQ0 q7 rfl⟩
        have HD4:Hid (Below W4.heap.size W4 W4.drew):=(Below.refl _ _).drew
        by_cases h3:s2=st
        · have HP:=QQ1 (show p=false by rw[<-HPE.out,hs2];simp[h3])
          have hq:∀ W,(Op.equalIn 10000 120 (.agg #[.int .i64 (cf:Nat),.int .i64 (s2:Nat)]) (.agg #[.int .i64 (ct:Nat),.int .i64 (st:Nat)])).run Try.prog W=.ok true W:=fun W=>by rw[eqSpot];simp[h1,h2,h3]
          clear h1 h2 h3 hs2
          go_wp2
          go_region_with (go_at_call 116;refine(HAC.out _).mono ?_;rintro e9 w5 ⟨rfl,hb5⟩;have B5:Hid (Below W4.heap.size W4 w5):=HD4.out.trans (hb5.mono HD4.out.size);obtain⟨r0,r1,r2,r3⟩:=HSV.out w5 B5.out;clear hb5)
          all_goals
           go_wp2
           go_roundw
           case rel=>exact⟨x+1,by omega,by omega,by go_num,HNN.out HP.out,HXB.out.trans ((B5.out.trans (by first|exact Below.refl _ _|exact(Below.refl _ _).drew)).mono (by have:=HXB.out.size;omega))⟩
           case measure=>simp only[intOf];omega
        · have HP:=QQ1 (show p=true by rw[<-HPE.out,hs2];simp[h1,h2,h3])
          have hq:∀ W,(Op.equalIn 10000 120 (.agg #[.int .i64 (cf:Nat),.int .i64 (s2:Nat)]) (.agg #[.int .i64 (ct:Nat),.int .i64 (st:Nat)])).run Try.prog W=.ok false W:=fun W=>by rw[eqSpot];simp[h1,h2];omega
          have HF:=hidB (HB.out.2 ⟨x,hx1,hxl,HPX.out.trans HP.out⟩)
          clear h1 h2 h3 hs2
          go_wp2
          go_region_with (go_at_call 116;refine(HAC.out _).mono ?_;rintro e9 w5 ⟨rfl,hb5⟩;have B5:Hid (Below W4.heap.size W4 w5):=HD4.out.trans (hb5.mono HD4.out.size);obtain⟨r0,r1,r2,r3⟩:=HSV.out w5 B5.out;clear hb5)
          all_goals
           have HBF:=QQ1 (HBV.out.trans ((HXB.out.trans (B5.out.mono (by have:=HXB.out.size;omega))).mono (by omega)))
           go_wp2
           go_ret
           exact⟨QX8 HF.out,HBF.out⟩
      · have HP:=QQ1 (show p=false by rw[<-HPE.out];simp[h2])
        have d1:(((cf:Nat):Int)==((k:Nat):Int))=true:=by simp[h1]
        have d2:(((ct:Nat):Int)==((k:Nat):Int))=false:=by simp;omega
        clear h1 h2
        go_wp2
        go_big_region
        go_wp2
        go_roundw
        case rel=>exact⟨x+1,by omega,by omega,by go_num,HNN.out HP.out,HXB.out.drew⟩
        case measure=>simp only[intOf];omega
    · have HP:=QQ1 (show p=false by rw[<-HPE.out];simp[h1])
      have d1:(((cf:Nat):Int)==((k:Nat):Int))=false:=by simp;omega
      clear h1
      go_wp2
      go_big_region
      go_wp2
      go_roundw
      case rel=>exact⟨x+1,by omega,by omega,by go_num,HNN.out HP.out,HXB.out.drew⟩
      case measure=>simp only[intOf];omega
  · have HXE:=QQ1 (show x=2*C.length+1 by omega)
    have hh:hasB C (x:Nat)=false:=by simp[hasB];omega
    have HH:=QQ1 hh
    have HF:Hid (b=false):=(by
     cases hb:b with
     |false=>rfl
     |true=>
      obtain⟨y,h1,h2,h3⟩:=HB.out.1 hb
      have:=HN.out y h1 (by have:=HXE.out;omega)
      rw[h3]at this
      cases this)
    clear hh
    go_wp2_with (go_at_call 104;refine(HHA.out _ _).mono ?_;rw[HH.out];rintro e9 Z ⟨rfl,hbZ⟩;have HZB:=QQ1 (HBV.out.trans ((HBW.out.trans (hbZ.mono (by omega))).mono (by omega)));clear hbZ)
    go_ret
    exact⟨QX8 HF.out,HZB.out⟩
end Go.Proofs.Ytagaajlbkfkaiaa
