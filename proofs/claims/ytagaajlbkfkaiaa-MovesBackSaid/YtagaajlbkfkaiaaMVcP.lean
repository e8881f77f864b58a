/- Several texts of the proof, one behind the other. -/
import Derived.Test.YtagaajlbkfkaiaaTkhP
import Derived.Test.YtagaajlbkfkaiaaMV7P
import Derived.Test.YtagaajlbkfkaiaaF2P
import Derived.Deep.RegionHeld
import Derived.BigRegion
import Derived.Test.YtagaajlbkfkaiaaF9P
import Derived.Test.YtagaajlbkfkaiaaJ3h
import Derived.Test.YtagaajlbkfkaiaaMV1
import Derived.Test.YtagaajlbkfkaiaaMV5P
import Derived.Test.YtagaajlbkfkaiaaJ8
import Derived.Test.YtagaajlbkfkaiaaF5P
import Derived.Test.YtagaajlbkfkaiaaF1P
/- Moves: the walk of bench.curled. Made by genmvc.py. -/
namespace Go.Proofs.Ytagaajlbkfkaiaa
open Go.RowKit
set_option maxHeartbeats 8000000
set_option maxRecDepth 100000
def crlB (C:List Cr) (k x:Nat):Bool:=(decide (enC C x false=k)&&decide (enC C x true=k))&&!decide ((enS C x false+2)%4=enS C x true)
theorem eqSpot (a c b d:Int) (w:World):(Op.equalIn 10000 120 (.agg #[.int .i64 a,.int .i64 b]) (.agg #[.int .i64 c,.int .i64 d])).run Try.prog w=.ok (a==c&&b==d) w:=by
 have u3:=Try.underlying3
 have a3:=Try.isAgg3
 have z3:=Try.sizeOf3
 have hS:Try.prog.underlying 120=some (.struct (Try.prog.fieldsOf 120)):=by kernel_rfl
 have hp:Try.prog.stoodInHeld 120=false:=by kernel_rfl
 rw[show(10000:Nat)=9999+1 from rfl,run_equalIn_agg w 9999 120 _ _ hS hp]
 simp only[Program.fieldsOf,Try.underlying120]
 go_simp
 by_cases h1:a=c<;>by_cases h2:b=d<;>simp[h1,h2]
structure CuAt (Z W:World) (cf sf ct st:Nat) (g6 g7:Nat):Prop where
 b6:W.heap[g6]?=some (.cells #[.int .i64 (cf:Nat),.int .i64 (sf:Nat)] 120 (0,0))
 b7:W.heap[g7]?=some (.cells #[.int .i64 (ct:Nat),.int .i64 (st:Nat)] 120 (0,0))
 ne:g6≠g7
 bel:Below Z.heap.size Z W
theorem curled_any (a:Option Addr) (cap:Nat) (C:List Cr) (loops:Int) (gF cF gT cT:Nat) (k:Nat) (b:Bool) (w:World) (hm:mayD C loops=true) (hd:Dr w a cap C gF gT) (hb:b=true↔∃ x,1<=x/\x<=2*C.length/\crlB C k x=true):
    Calls Try.prog 108 #[drV a cap C loops gF cF gT cT,.int .i64 (k:Nat)] w fun e w'=>e=.returned (.bool b)/\Below w.heap.size w w':=by
 have HD:=hid_of hd
 have HM:=hid_of hm
 have HB:=hid_of hb
 have hl16:=may_len hm
 have HHA:=hid_of (fun(z:Int) (W:World)=>has_any a cap C loops gF cF gT cT z W hl16)
 unfold drV at HHA ⊢
 obtain⟨V,hV⟩:∃ V,V=w.alloc (.cells #[.slice a C.length cap,.int .i64 loops,.slice (some ⟨gF,0,none⟩) (2*C.length+1) cF,.slice (some ⟨gT,0,none⟩) (2*C.length+1) cT] 63):=⟨_,rfl⟩
 have HV:=hid_of hV
 have HBV:Hid (Below w.heap.size w V):=(by rw[hV];exact(Below.refl _ _).alloc (Nat.le_refl _) _)
 have HT0:Hid (V.heap[w.heap.size]?=some (.cells #[.slice a C.length cap,.int .i64 loops,.slice (some ⟨gF,0,none⟩) (2*C.length+1) cF,.slice (some ⟨gT,0,none⟩) (2*C.length+1) cT] 63 (0,0))):=(by rw[hV];exact alloc_at rfl)
 have hsV:V.heap.size=w.heap.size+1:=by rw[hV];simp
 clear hV hd hm hb
 go_enter Try.func108,Try.ntmps108
 go_wp2
 rw[<-HV.out]
 go_loopw [5] (fun v5 wr=>∃ x:Nat,1<=x/\x<=2*C.length+1/\v5=.int .i64 (x:Nat)/\Hid (∀ y,1<=y->y<x->crlB C k y=false)/\Hid (Below V.heap.size V wr)) (fun v5 _=>2*C.length+1-(intOf v5).toNat)
 case atStart=>exact⟨1,by omega,by omega,rfl,(fun y h1 h2=>by omega),Below.refl _ _⟩
 case round=>
  rename World=>W1
  obtain⟨x,hx1,hx2,rfl,hN,hB⟩:=hrel
  have hsW:=hB.out.size
  have HBW:=hid_of hB.out
  have HN:=hid_of hN.out
  have k0:=(HBW.out.block _ (by omega)).trans HT0.out
  have b0:=block_cell (i:=0) k0 rfl
  have b1:=block_cell (i:=1) k0 rfl
  have b2:=block_cell (i:=2) k0 rfl
  have b3:=block_cell (i:=3) k0 rfl
  have lw:w.heap.size<W1.heap.size:=by omega
  clear hN hB k0
  by_cases hxl:x<=2*C.length
  · have hh:hasB C (x:Nat)=true:=by simp[hasB];omega
    have HH:=hid_of hh
    clear hh
    go_wp2_with (go_at_call 104;refine(HHA.out _ _).mono ?_;rw[HH.out];rintro e9 Z ⟨rfl,hbZ⟩;refine Hid.out ?_)
    refine Lib.hid ?_
    have HBZ:=hid_of hbZ
    have hsZ:=hbZ.size
    have HZV:=hidB (HBW.out.trans (hbZ.mono (by omega)))
    have hBA:Below w.heap.size w Z:=HBV.out.trans (HZV.out.mono (by omega))
    have hDr:=HD.out.on hBA
    have hen:=hDr.endAt HM.out x (by omega) (by omega)
    have hes0:=(en_may HM.out x false (by omega) (by omega)).2.2.1
    obtain⟨p,hp⟩:∃ p,crlB C k x=p:=⟨_,rfl⟩
    have HPX:=hid_of hp
    unfold crlB at hp
    obtain⟨cf,ef⟩:∃ q,enC C x false=q:=⟨_,rfl⟩
    obtain⟨sf,fs⟩:∃ q,enS C x false=q:=⟨_,rfl⟩
    obtain⟨ct,et⟩:∃ q,enC C x true=q:=⟨_,rfl⟩
    obtain⟨st,ts⟩:∃ q,enS C x true=q:=⟨_,rfl⟩
    rw[ef,fs,et,ts]at hen hp
    rw[fs]at hes0
    have HPE:=hid_of hp
    have HES:=hid_of hes0
    have HEN:=hid_of hen
    have hltT:=hDr.ltT
    have hltF:=hDr.ltF
    have hxi:((x:Nat):Int)<2*(C.length:Int)+1:=by omega
    have hxn:x<2*C.length+1:=by omega
    have HSV:Hid (∀ W,Below Z.heap.size Z W->(fun X:World=>X.cell? ⟨w.heap.size,2,none⟩=some (.slice (some ⟨gF,0,none⟩) (2*C.length+1) cF)/\X.cell? ⟨w.heap.size,3,none⟩=some (.slice (some ⟨gT,0,none⟩) (2*C.length+1) cT)/\X.cell? ⟨gF,x*2,none⟩=some (.int .i64 (cf:Nat))/\X.cell? ⟨gF,x*2+1,none⟩=some (.int .i64 (sf:Nat))/\X.cell? ⟨gT,x*2,none⟩=some (.int .i64 (ct:Nat))/\X.cell? ⟨gT,x*2+1,none⟩=some (.int .i64 (st:Nat))) W):=fun W hW=>by
     have k0:=(hW.block _ (by omega)).trans ((HZV.out.block _ (by omega)).trans HT0.out)
     obtain⟨q1,q2,q3,q4⟩:=HEN.out
     exact⟨block_cell k0 rfl,block_cell k0 rfl,bcell hW hltF q3,bcell hW hltF q4,bcell hW hltT q1,bcell hW hltT q2⟩
    have HDZ:Hid (Below Z.heap.size Z Z.drew):=(Below.refl _ _).drew
    have HI0:Hid (CuAt Z ((Z.alloc (.cells #[.int .i64 (cf:Nat),.int .i64 (sf:Nat)] 120)).alloc (.cells #[.int .i64 (ct:Nat),.int .i64 (st:Nat)] 120)).drew cf sf ct st Z.heap.size (Z.heap.size+1)):=⟨alloc_old (alloc_at rfl),alloc_at (by simp),by omega,(below2 _ _ _).drew⟩
    have HI1:Hid (CuAt Z ((Z.alloc (.cells #[.int .i64 (ct:Nat),.int .i64 (st:Nat)] 120)).alloc (.cells #[.int .i64 (cf:Nat),.int .i64 (sf:Nat)] 120)).drew cf sf ct st (Z.heap.size+1) Z.heap.size):=⟨alloc_at (by simp),alloc_old (alloc_at rfl),by omega,(below2 _ _ _).drew⟩
    clear hbZ hDr hen hes0 hp ef fs et ts hBA b0 b1 b2 b3
    go_wp2
    apply cut_one
    case h=>
     intro key
     refine rhd HSV HDZ.out (fun hHeld=>?_)
     refine tk 0 (h:=?_)
     refine tk 1 (h:=?_)
     refine tk 2 (h:=?_)
     refine tk 3 (h:=?_)
     refine tk 4 (h:=?_)
     refine tk 5 (h:=?_)
     refine tk 6 (h:=?_)
     refine tk 7 (h:=?_)
     refine tk 8 (h:=?_)
     refine tk 9 (h:=?_)
     refine tk 10 (h:=?_)
     refine tk 11 (h:=?_)
     try simp only[Act.put]
     refine rd2 12 13 (fun K hK=>?_) (fun K hK=>?_)
     · go_simp
       refine hK.out _ _ (HSV.out _ ((Below.refl _ _).alloc (Nat.le_refl _) _).drew) (fun hHeld=>?_)
       clear hK K
       try simp only[Act.put]
       refine rd1 13 (fun K hK=>?_)
       go_simp
       refine hK.out _ _ (HSV.out _ (below2 _ _ _).drew) (fun hHeld=>?_)
       clear hK K
       try simp only[Act.put]
       refine rd1 14 (fun K hK=>?_)
       go_simp
       refine hK.out _ _ (HSV.out _ (below2 _ _ _).drew) (fun hHeld=>?_)
       clear hK K
       try simp only[Act.put]
       refine rd1 15 (fun K hK=>?_)
       go_simp
       refine hK.out _ _ (HSV.out _ (below2 _ _ _).drew) (fun hHeld=>?_)
       clear hK K
       try simp only[Act.put]
       refine wpAnyH_done (by kernel_rfl) ?_ _
       have hA:=HI0
       revert hA
       generalize ((Z.alloc (.cells #[.int .i64 (cf:Nat),.int .i64 (sf:Nat)] 120)).alloc (.cells #[.int .i64 (ct:Nat),.int .i64 (st:Nat)] 120)).drew=Wz
       generalize Z.heap.size+1=g7
       generalize Z.heap.size=g6
       revert Wz g7 g6
       exact key.out
     · go_simp
       refine hK.out _ _ (HSV.out _ ((Below.refl _ _).alloc (Nat.le_refl _) _).drew) (fun hHeld=>?_)
       clear hK K
       try simp only[Act.put]
       refine rd1 12 (fun K hK=>?_)
       go_simp
       refine hK.out _ _ (HSV.out _ (below2 _ _ _).drew) (fun hHeld=>?_)
       clear hK K
       try simp only[Act.put]
       refine rd1 14 (fun K hK=>?_)
       go_simp
       refine hK.out _ _ (HSV.out _ (below2 _ _ _).drew) (fun hHeld=>?_)
       clear hK K
       try simp only[Act.put]
       refine rd1 15 (fun K hK=>?_)
       go_simp
       refine hK.out _ _ (HSV.out _ (below2 _ _ _).drew) (fun hHeld=>?_)
       clear hK K
       try simp only[Act.put]
       refine wpAnyH_done (by kernel_rfl) ?_ _
       exact key.out _ _ _ HI1
    intro W4 g7 g6 HC4
    clear HI0 HI1 HSV HEN HDZ
    have HXB:=hidB (HZV.out.trans (HC4.out.bel.mono (by omega)))
    have c0:=block_cell (i:=0) HC4.out.b6 rfl
    have c1:=block_cell (i:=1) HC4.out.b6 rfl
    have c2:=block_cell (i:=0) HC4.out.b7 rfl
    have c3:=block_cell (i:=1) HC4.out.b7 rfl
    have l6:g6<W4.heap.size:=(Array.getElem?_eq_some_iff.1 HC4.out.b6).1
    have l7:g7<W4.heap.size:=(Array.getElem?_eq_some_iff.1 HC4.out.b7).1
    have HNN:Hid (p=false->∀ y,1<=y->y<x+1->crlB C k y=false):=fun hp y h1 h2=>by
     by_cases e:y=x
     · rw[e,HPX.out,hp]
     · exact HN.out y h1 (by omega)
    by_cases h1:cf=k
    · by_cases h2:ct=k
      · have d1:(((cf:Nat):Int)==((k:Nat):Int))=true:=by simp[h1]
        have d2:(((ct:Nat):Int)==((k:Nat):Int))=true:=by simp[h2]
        have d3:decide (((cf:Nat):Int)=((k:Nat):Int))=true:=by simp[h1]
        have d4:decide (((ct:Nat):Int)=((k:Nat):Int))=true:=by simp[h2]
        have d5:(cf==k)=true:=by simp[h1]
        have d6:(ct==k)=true:=by simp[h2]
        have d7:decide (cf=k)=true:=by simp[h1]
        have d8:decide (ct=k)=true:=by simp[h2]
        obtain⟨s2,hs2⟩:∃ s2,(sf+2)%4=s2:=⟨_,rfl⟩
        have HAC:=hid_of (fun W=>across_any (cf:Int) sf W HES.out)
        rw[hs2]at HAC
        have HSV:Hid (∀ W,Below W4.heap.size W4 W->(fun X:World=>X.cell? ⟨g6,0,none⟩=some (.int .i64 (cf:Nat))/\X.cell? ⟨g6,1,none⟩=some (.int .i64 (sf:Nat))/\X.cell? ⟨g7,0,none⟩=some (.int .i64 (ct:Nat))/\X.cell? ⟨g7,1,none⟩=some (.int .i64 (st:Nat))) W):=fun W hW=>by
         have q6:=(hW.block _ l6).trans HC4.out.b6
         have q7:=(hW.block _ l7).trans HC4.out.b7
         exact⟨block_cell q6 rfl,block_cell q6 rfl,block_cell q7 rfl,block_cell q7 rfl⟩
        have HD4:Hid (Below W4.heap.size W4 W4.drew):=(Below.refl _ _).drew
        by_cases h3:s2=st
        · have HP:=hid_of (show p=false by rw[<-HPE.out,hs2];simp[h3])
          have hq:∀ W,(Op.equalIn 10000 120 (.agg #[.int .i64 (cf:Nat),.int .i64 (s2:Nat)]) (.agg #[.int .i64 (ct:Nat),.int .i64 (st:Nat)])).run Try.prog W=.ok true W:=fun W=>by rw[eqSpot];simp[h1,h2,h3]
          clear h1 h2 h3 hs2
          go_wp2
          go_region_with (go_at_call 116;refine(HAC.out _).mono ?_;rintro e9 w5 ⟨rfl,hb5⟩;have B5:Hid (Below W4.heap.size W4 w5):=HD4.out.trans (hb5.mono HD4.out.size);obtain⟨r0,r1,r2,r3⟩:=HSV.out w5 B5.out;clear hb5)
          all_goals
           go_wp2
           go_roundw
           case rel=>exact⟨x+1,by omega,by omega,by go_num,HNN.out HP.out,HXB.out.trans ((B5.out.trans (by first|exact Below.refl _ _|exact(Below.refl _ _).drew)).mono (by have:=HXB.out.size;omega))⟩
           case measure=>simp only[intOf];omega
        · have HP:=hid_of (show p=true by rw[<-HPE.out,hs2];simp[h1,h2,h3])
          have hq:∀ W,(Op.equalIn 10000 120 (.agg #[.int .i64 (cf:Nat),.int .i64 (s2:Nat)]) (.agg #[.int .i64 (ct:Nat),.int .i64 (st:Nat)])).run Try.prog W=.ok false W:=fun W=>by rw[eqSpot];simp[h1,h2];omega
          have HF:=hidB (HB.out.2 ⟨x,hx1,hxl,HPX.out.trans HP.out⟩)
          clear h1 h2 h3 hs2
          go_wp2
          go_region_with (go_at_call 116;refine(HAC.out _).mono ?_;rintro e9 w5 ⟨rfl,hb5⟩;have B5:Hid (Below W4.heap.size W4 w5):=HD4.out.trans (hb5.mono HD4.out.size);obtain⟨r0,r1,r2,r3⟩:=HSV.out w5 B5.out;clear hb5)
          all_goals
           have HBF:=hid_of (HBV.out.trans ((HXB.out.trans (B5.out.mono (by have:=HXB.out.size;omega))).mono (by omega)))
           go_wp2
           go_ret
           exact⟨ret_bool HF.out,HBF.out⟩
      · have HP:=hid_of (show p=false by rw[<-HPE.out];simp[h2])
        have d1:(((cf:Nat):Int)==((k:Nat):Int))=true:=by simp[h1]
        have d2:(((ct:Nat):Int)==((k:Nat):Int))=false:=by simp;omega
        clear h1 h2
        go_wp2
        go_big_region
        go_wp2
        go_roundw
        case rel=>exact⟨x+1,by omega,by omega,by go_num,HNN.out HP.out,HXB.out.drew⟩
        case measure=>simp only[intOf];omega
    · have HP:=hid_of (show p=false by rw[<-HPE.out];simp[h1])
      have d1:(((cf:Nat):Int)==((k:Nat):Int))=false:=by simp;omega
      clear h1
      go_wp2
      go_big_region
      go_wp2
      go_roundw
      case rel=>exact⟨x+1,by omega,by omega,by go_num,HNN.out HP.out,HXB.out.drew⟩
      case measure=>simp only[intOf];omega
  · have HXE:=hid_of (show x=2*C.length+1 by omega)
    have hh:hasB C (x:Nat)=false:=by simp[hasB];omega
    have HH:=hid_of hh
    have HF:Hid (b=false):=(by
     cases hb:b with
     |false=>rfl
     |true=>
      obtain⟨y,h1,h2,h3⟩:=HB.out.1 hb
      have:=HN.out y h1 (by have:=HXE.out;omega)
      rw[h3]at this
      cases this)
    clear hh
    go_wp2_with (go_at_call 104;refine(HHA.out _ _).mono ?_;rw[HH.out];rintro e9 Z ⟨rfl,hbZ⟩;have HZB:=hid_of (HBV.out.trans ((HBW.out.trans (hbZ.mono (by omega))).mono (by omega)));clear hbZ)
    go_ret
    exact⟨ret_bool HF.out,HZB.out⟩
end Go.Proofs.Ytagaajlbkfkaiaa
/- The walk of (bench).without: crossings taken out, their strands going on. -/
namespace Go.Proofs.Ytagaajlbkfkaiaa
open Go.RowKit
set_option maxHeartbeats 4000000
set_option maxRecDepth 100000
def takL (C:List Cr) (loops:Int) (G:List Nat):Int:=loops+(cntB (lfB (uniM C (nx C) G) (stB C G (uniM C (nx C) G) (2*C.length+1))) (2*C.length+1):Nat)
def takC (C:List Cr) (G:List Nat):List Cr:=reTo C G (numM (uniM C (nx C) G) (ltB (uniM C (nx C) G) (stB C G (uniM C (nx C) G) (2*C.length+1)))) C.length
theorem st2D {W:World} {z:Nat} {a b c d:Value} {t:TypeId} {fz:Nat×Nat} (h:W.heap[z]?=some (.cells #[c,d] t fz)):((W.setCell ⟨z,0,none⟩ a).setCell ⟨z,1,none⟩ b).heap[z]?=some (.cells #[a,b] t fz):=set_block (set_block h)
theorem own_two {W:World} {B e s n z:Nat} {v:Value} {xs:List Value} (h:W.ownsRow B e s v n xs) (hz:z<B) (a b:Value):((W.setCell ⟨z,0,none⟩ a).setCell ⟨z,1,none⟩ b).ownsRow B e s v n xs:=by
 refine h.kept (grown_trans (set_grown W z 0 a) (set_grown (W.setCell ⟨z,0,none⟩ a) z 1 b)) ?_
 cases hv:v.ownBlock with
 |none=>exact Or.inl rfl
 |some k=>exact Or.inr (fun e=>by have h1:=(h.lt k hv).1;have h2:=Option.some.inj e;omega)
theorem without_yes (a:Option Addr) (cap:Nat) (C:List Cr) (loops:Int) (gF cF gT cT:Nat) (bG cG:Nat) (G:List Nat) (w:World) (hm:mayD C loops=true) (hD:Dr w a cap C gF gT) (hG1:G.length<=16) (hG:GonAt w bG G) (hL:takL C loops G<=16):
    Calls Try.prog 109 #[drV a cap C loops gF cF gT cT, .slice (some ⟨bG, 0, none⟩) G.length cG] w fun e w' => ∃ a2 c2, e = .returned (.agg #[.slice a2 (takC C G).length c2, .int .i64 (takL C loops G)]) ∧ w'.ownsRow w.heap.size 71 5 (.slice a2 (takC C G).length c2) (takC C G).length (crossCells (takC C G)) ∧ Below w.heap.size w w' := by
 have HW:Hid (∀ W,Below w.heap.size w W->Calls Try.prog 124 #[drV a cap C loops gF cF gT cT,.func (.func 97) #[drV a cap C loops gF cF gT cT] #[],.slice (some ⟨bG,0,none⟩) G.length cG] W fun e w'=>∃ a2 c2,e=.returned (.agg #[.slice a2 (takC C G).length c2,.int .i64 (takL C loops G)])/\w'.ownsRow W.heap.size 71 5 (.slice a2 (takC C G).length c2) (takC C G).length (crossCells (takC C G))/\Below W.heap.size W w'):=fun W hW=>
  (without_ahead a cap C loops gF cF gT cT bG cG G W hm (hD.on hW) hG1 (hG.on hW)).mono fun e w' h=>by
   obtain⟨v,h1,h2,h3⟩:=h
   obtain⟨a2,c2,rfl⟩:=own_capS h2
   exact⟨a2,c2,h1,h2,h3⟩
 generalize takC C G=D at HW ⊢
 generalize takL C loops G=lo at HW hL ⊢
 obtain⟨Y,hY⟩:∃ Y,(w.alloc (.cells #[.slice a C.length cap,.int .i64 loops,.slice (some ⟨gF,0,none⟩) (2*C.length+1) cF,.slice (some ⟨gT,0,none⟩) (2*C.length+1) cT] 63)).alloc (.cells #[.slice none 0 0,.int .i64 0] 24)=Y:=⟨_,rfl⟩
 have hBY:Below w.heap.size w Y:=by rw[<-hY];exact((Below.refl _ _).alloc (Nat.le_refl _) _).alloc (by simp) _
 have HBY:=hid_of hBY
 have HT0:Hid (Y.heap[w.heap.size]?=some (.cells #[.slice a C.length cap,.int .i64 loops,.slice (some ⟨gF,0,none⟩) (2*C.length+1) cF,.slice (some ⟨gT,0,none⟩) (2*C.length+1) cT] 63 (0,0))):=(by rw[<-hY];exact alloc_old (alloc_at rfl):Y.heap[w.heap.size]?=_)
 have HT1:Hid (Y.heap[w.heap.size+1]?=some (.cells #[.slice none 0 0,.int .i64 0] 24 (0,0))):=(by rw[<-hY];exact alloc_at (by simp):Y.heap[w.heap.size+1]?=_)
 have hsY:w.heap.size+2<=Y.heap.size:=by rw[<-hY];simp
 have HWY:=hid_of (HW.out Y hBY)
 unfold drV at HWY ⊢
 have hL2:lo<=16:=hL
 have HY:=hid_of hY
 have b0:Y.cell? ⟨w.heap.size,0,none⟩=some (.slice a C.length cap):=block_cell HT0.out rfl
 have b1:Y.cell? ⟨w.heap.size,1,none⟩=some (.int .i64 loops):=block_cell HT0.out rfl
 have b2:Y.cell? ⟨w.heap.size,2,none⟩=some (.slice (some ⟨gF,0,none⟩) (2*C.length+1) cF):=block_cell HT0.out rfl
 have b3:Y.cell? ⟨w.heap.size,3,none⟩=some (.slice (some ⟨gT,0,none⟩) (2*C.length+1) cT):=block_cell HT0.out rfl
 clear HW hm hD hG1 hG hBY
 go_enter Try.func109,Try.ntmps109
 go_wp2_with (first
  | (go_at_call 124; refine HWY.out.mono ?_; rintro e9 w3 ⟨a2, c2, rfl, ho3, hb3⟩
     have HO3:=hid_of ho3
     have HB3:=hid_of hb3
     have hs3:=hb3.size
     have q1:=(hb3.block _ (by omega)).trans HT1.out
     have HQ1:=hid_of q1
     have k0:w3.cell? ⟨w.heap.size+1,0,none⟩=some (.slice none 0 0):=block_cell q1 rfl
     have k1:w3.cell? ⟨w.heap.size+1,1,none⟩=some (.int .i64 0):=block_cell q1 rfl
     have f0:w3.frozen? ⟨w.heap.size+1,0,none⟩=false:=block_frozen q1
     have f1:w3.frozen? ⟨w.heap.size+1,1,none⟩=false:=block_frozen q1
     have lb:w.heap.size+1<w3.heap.size:=by omega
     clear ho3 hb3 q1)
  |(go_at_call 41;refine(need_ok 2 _).mono ?_;rintro e9 w4 ⟨rfl,e4⟩;obtain rfl:=e4.symm))
 have hZ:=alloc_old (o:=.cells #[.slice a2 D.length c2,.int .i64 lo] 24) (st2D (a:=.slice a2 D.length c2) (b:=.int .i64 lo) HQ1.out)
 have x0:=block_cell (i:=0) (v:=.slice a2 D.length c2) hZ rfl
 have x1:=block_cell (i:=1) (v:=.int .i64 lo) hZ rfl
 refine bodyPost_ret (v:=.agg #[.slice a2 D.length c2,.int .i64 lo]) (by simp[results,Try.results109,go_sem,x0,x1]) rfl ⟨a2,c2,rfl,?_,?_⟩
 · exact own_low ((own_two HO3.out (by omega) _ _).alloc _) (by omega)
 · exact(((HBY.out.trans (HB3.out.mono (by omega))).setCell (p:=⟨w.heap.size+1,0,none⟩) (by simp) _).setCell (p:=⟨w.heap.size+1,1,none⟩) (by simp) _).alloc (by simp;omega) _
theorem without_no (a:Option Addr) (cap:Nat) (C:List Cr) (loops:Int) (gF cF gT cT:Nat) (bG cG:Nat) (G:List Nat) (w:World) (hm:mayD C loops=true) (hD:Dr w a cap C gF gT) (hG1:G.length<=16) (hG:GonAt w bG G) (hL:16<takL C loops G):
    Calls Try.prog 109 #[drV a cap C loops gF cF gT cT, .slice (some ⟨bG, 0, none⟩) G.length cG] w fun e w' => e = .panicked (gaveUp 2) ∧ Below w.heap.size w w' := by
 have HW:Hid (∀ W,Below w.heap.size w W->Calls Try.prog 124 #[drV a cap C loops gF cF gT cT,.func (.func 97) #[drV a cap C loops gF cF gT cT] #[],.slice (some ⟨bG,0,none⟩) G.length cG] W fun e w'=>∃ a2 c2,e=.returned (.agg #[.slice a2 (takC C G).length c2,.int .i64 (takL C loops G)])/\w'.ownsRow W.heap.size 71 5 (.slice a2 (takC C G).length c2) (takC C G).length (crossCells (takC C G))/\Below W.heap.size W w'):=fun W hW=>
  (without_ahead a cap C loops gF cF gT cT bG cG G W hm (hD.on hW) hG1 (hG.on hW)).mono fun e w' h=>by
   obtain⟨v,h1,h2,h3⟩:=h
   obtain⟨a2,c2,rfl⟩:=own_capS h2
   exact⟨a2,c2,h1,h2,h3⟩
 generalize takC C G=D at HW
 generalize takL C loops G=lo at HW hL
 obtain⟨Y,hY⟩:∃ Y,(w.alloc (.cells #[.slice a C.length cap,.int .i64 loops,.slice (some ⟨gF,0,none⟩) (2*C.length+1) cF,.slice (some ⟨gT,0,none⟩) (2*C.length+1) cT] 63)).alloc (.cells #[.slice none 0 0,.int .i64 0] 24)=Y:=⟨_,rfl⟩
 have hBY:Below w.heap.size w Y:=by rw[<-hY];exact((Below.refl _ _).alloc (Nat.le_refl _) _).alloc (by simp) _
 have HBY:=hid_of hBY
 have HT0:Hid (Y.heap[w.heap.size]?=some (.cells #[.slice a C.length cap,.int .i64 loops,.slice (some ⟨gF,0,none⟩) (2*C.length+1) cF,.slice (some ⟨gT,0,none⟩) (2*C.length+1) cT] 63 (0,0))):=(by rw[<-hY];exact alloc_old (alloc_at rfl):Y.heap[w.heap.size]?=_)
 have HT1:Hid (Y.heap[w.heap.size+1]?=some (.cells #[.slice none 0 0,.int .i64 0] 24 (0,0))):=(by rw[<-hY];exact alloc_at (by simp):Y.heap[w.heap.size+1]?=_)
 have hsY:w.heap.size+2<=Y.heap.size:=by rw[<-hY];simp
 have HWY:=hid_of (HW.out Y hBY)
 unfold drV at HWY ⊢
 have d1:decide (lo<=16)=false:=decide_eq_false (by omega)
 have HY:=hid_of hY
 have b0:Y.cell? ⟨w.heap.size,0,none⟩=some (.slice a C.length cap):=block_cell HT0.out rfl
 have b1:Y.cell? ⟨w.heap.size,1,none⟩=some (.int .i64 loops):=block_cell HT0.out rfl
 have b2:Y.cell? ⟨w.heap.size,2,none⟩=some (.slice (some ⟨gF,0,none⟩) (2*C.length+1) cF):=block_cell HT0.out rfl
 have b3:Y.cell? ⟨w.heap.size,3,none⟩=some (.slice (some ⟨gT,0,none⟩) (2*C.length+1) cT):=block_cell HT0.out rfl
 clear HW hm hD hG1 hG hBY
 go_enter Try.func109,Try.ntmps109
 go_wp2_with (first
  | (go_at_call 41; try rw [d1]
     refine(need_no 2 _).mono ?_;rintro e9 w4 ⟨rfl,e4⟩;obtain rfl:=e4.symm)
  | (go_at_call 124; refine HWY.out.mono ?_; rintro e9 w3 ⟨a2, c2, rfl, ho3, hb3⟩
     have HO3:=hid_of ho3
     have HB3:=hid_of hb3
     have hs3:=hb3.size
     have q1:=(hb3.block _ (by omega)).trans HT1.out
     have HQ1:=hid_of q1
     have k0:w3.cell? ⟨w.heap.size+1,0,none⟩=some (.slice none 0 0):=block_cell q1 rfl
     have k1:w3.cell? ⟨w.heap.size+1,1,none⟩=some (.int .i64 0):=block_cell q1 rfl
     have f0:w3.frozen? ⟨w.heap.size+1,0,none⟩=false:=block_frozen q1
     have f1:w3.frozen? ⟨w.heap.size+1,1,none⟩=false:=block_frozen q1
     have lb:w.heap.size+1<w3.heap.size:=by omega
     clear ho3 hb3 q1))
 exact⟨rfl,rfl,(HBY.out.trans (HB3.out.mono (by omega))).alloc (by omega) _⟩
end Go.Proofs.Ytagaajlbkfkaiaa
/- Moves: the walks of means and of bench.moved. Made by genmw5.py. -/
namespace Go.Proofs.Ytagaajlbkfkaiaa
open Go.RowKit
set_option maxHeartbeats 4000000
set_option maxRecDepth 100000
def KF (k:Int) (fn:Nat):Prop:=(k=1/\fn=88)∨(k=2/\fn=89)∨(k=3/\fn=90)∨(k=4/\fn=91)∨(k=5/\fn=92)
theorem kf1:KF 1 88:=by unfold KF;simp
theorem kf2:KF 2 89:=by unfold KF;simp
theorem kf3:KF 3 90:=by unfold KF;simp
theorem kf4:KF 4 91:=by unfold KF;simp
theorem kf5:KF 5 92:=by unfold KF;simp
theorem means_of {k:Int} {fn:Nat} (hk:KF k fn) (w:World):Calls Try.prog 59 #[.int .i64 k] w fun e w'=>e=.returned (.func (.func fn) #[] #[])/\w'=w:=by
 rcases hk with⟨rfl,rfl⟩|⟨rfl,rfl⟩|⟨rfl,rfl⟩|⟨rfl,rfl⟩|⟨rfl,rfl⟩
 all_goals
  go_enter Try.func59,Try.ntmps59
  go_wp2
  go_ret
  exact⟨rfl,rfl⟩
theorem means_no (k:Int) (w:World) (h1:k≠1) (h2:k≠2) (h3:k≠3) (h4:k≠4) (h5:k≠5):Calls Try.prog 59 #[.int .i64 k] w fun e w'=>e=.panicked (gaveUp 6)/\w'=w:=by
 have e1:(k==1)=false:=beq_eq_false_iff_ne.2 h1
 have e2:(k==2)=false:=beq_eq_false_iff_ne.2 h2
 have e3:(k==3)=false:=beq_eq_false_iff_ne.2 h3
 have e4:(k==4)=false:=beq_eq_false_iff_ne.2 h4
 have e5:(k==5)=false:=beq_eq_false_iff_ne.2 h5
 go_enter Try.func59,Try.ntmps59
 go_wp2
 exact⟨rfl,rfl,rfl⟩
theorem moved_kind (a:Option Addr) (cap:Nat) (C:List Cr) (loops:Int) (gF cF gT cT:Nat) (k x y ua va:Int) (ub vb ov:Bool) (w:World) (h1:k≠1) (h2:k≠2) (h3:k≠3) (h4:k≠4) (h5:k≠5):
    Calls Try.prog 30 #[drV a cap C loops gF cF gT cT,mvV k x y ua ub va vb ov] w fun e w'=>e=.panicked (gaveUp 6)/\Below w.heap.size w w':=by
 have HME:Hid (∀ W,Calls Try.prog 59 #[.int .i64 k] W fun e w'=>e=.panicked (gaveUp 6)/\w'=W):=fun W=>means_no k W h1 h2 h3 h4 h5
 unfold mvV
 obtain⟨Y,hY,hBY,hTY,hsY⟩:=bm_ex w a cap C loops gF cF gT cT k x y ua va ub vb ov
 have HBY:=hid_of hBY
 have HCE:=hid_of (bm_ce hTY)
 clear hBY hTY
 unfold drV
 have HDY:Hid (Below Y.heap.size Y Y.drew):=(Below.refl _ _).drew
 have HSV:Hid (∀ W,Below Y.heap.size Y W->(fun X:World=>X.cell? ⟨w.heap.size,0,none⟩=some (.slice a C.length cap)/\X.cell? ⟨w.heap.size,1,none⟩=some (.int .i64 loops)/\X.cell? ⟨w.heap.size,2,none⟩=some (.slice (some ⟨gF,0,none⟩) (2*C.length+1) cF)/\X.cell? ⟨w.heap.size,3,none⟩=some (.slice (some ⟨gT,0,none⟩) (2*C.length+1) cT)/\X.cell? ⟨w.heap.size+1,0,none⟩=some (.int .i64 k)/\X.cell? ⟨w.heap.size+1,1,none⟩=some (.int .i64 x)/\X.cell? ⟨w.heap.size+1,2,none⟩=some (.int .i64 y)/\X.cell? ⟨w.heap.size+1,3,none⟩=some (.int .i64 ua)/\X.cell? ⟨w.heap.size+1,4,none⟩=some (.bool ub)/\X.cell? ⟨w.heap.size+1,5,none⟩=some (.int .i64 va)/\X.cell? ⟨w.heap.size+1,6,none⟩=some (.bool vb)/\X.cell? ⟨w.heap.size+1,7,none⟩=some (.bool ov)) W):=fun W hW=>by
  obtain⟨⟨px,py,-⟩,-⟩:=HCE.out W hW
  exact⟨block_cell px rfl,block_cell px rfl,block_cell px rfl,block_cell px rfl,block_cell py rfl,block_cell py rfl,block_cell py rfl,block_cell py rfl,block_cell py rfl,block_cell py rfl,block_cell py rfl,block_cell py rfl⟩
 clear h1 h2 h3 h4 h5
 have HY:=hid_of hY
 clear hY
 go_enter Try.func30,Try.ntmps30
 go_wp2
 rw[HY.out]
 refine rhd HSV HDY.out (fun hHeld=>?_)
 refine tk 0 (h:=?_)
 refine tk 1 (h:=?_)
 refine tk 3 (h:=?_)
 refine tk 4 (h:=?_)
 try simp only[Act.put]
 refine rd1 2 (fun K hK=>?_)
 go_simp
 go_wp2_with (go_at_call 59;refine(HME.out _).mono ?_;rintro e9 w4 ⟨rfl,e4⟩;obtain rfl:=e4.symm)
 exact⟨rfl,rfl,HBY.out.drew⟩
theorem moved_no {k:Int} {fn:Nat} (hk:KF k fn) (a:Option Addr) (cap:Nat) (C:List Cr) (loops:Int) (gF cF gT cT:Nat) (why x y ua va:Int) (ub vb ov:Bool) (w:World) (hF:∀ W,Below w.heap.size w W->Calls Try.prog fn #[drV a cap C loops gF cF gT cT,mvV k x y ua ub va vb ov] W fun e w'=>e=.panicked (gaveUp why)/\Below W.heap.size W w'):
    Calls Try.prog 30 #[drV a cap C loops gF cF gT cT,mvV k x y ua ub va vb ov] w fun e w'=>e=.panicked (gaveUp why)/\Below w.heap.size w w':=by
 have HF:=hid_of hF
 have HMN:=hid_of (means_of hk)
 have HKF:=hid_of hk
 clear hF hk
 unfold mvV at HF ⊢
 obtain⟨Y,hY,hBY,hTY,hsY⟩:=bm_ex w a cap C loops gF cF gT cT k x y ua va ub vb ov
 have HBY:=hid_of hBY
 have HCE:=hid_of (bm_ce hTY)
 clear hBY hTY
 unfold drV at HF ⊢
 have HDY:Hid (Below Y.heap.size Y Y.drew):=(Below.refl _ _).drew
 have HSV:Hid (∀ W,Below Y.heap.size Y W->(fun X:World=>X.cell? ⟨w.heap.size,0,none⟩=some (.slice a C.length cap)/\X.cell? ⟨w.heap.size,1,none⟩=some (.int .i64 loops)/\X.cell? ⟨w.heap.size,2,none⟩=some (.slice (some ⟨gF,0,none⟩) (2*C.length+1) cF)/\X.cell? ⟨w.heap.size,3,none⟩=some (.slice (some ⟨gT,0,none⟩) (2*C.length+1) cT)/\X.cell? ⟨w.heap.size+1,0,none⟩=some (.int .i64 k)/\X.cell? ⟨w.heap.size+1,1,none⟩=some (.int .i64 x)/\X.cell? ⟨w.heap.size+1,2,none⟩=some (.int .i64 y)/\X.cell? ⟨w.heap.size+1,3,none⟩=some (.int .i64 ua)/\X.cell? ⟨w.heap.size+1,4,none⟩=some (.bool ub)/\X.cell? ⟨w.heap.size+1,5,none⟩=some (.int .i64 va)/\X.cell? ⟨w.heap.size+1,6,none⟩=some (.bool vb)/\X.cell? ⟨w.heap.size+1,7,none⟩=some (.bool ov)) W):=fun W hW=>by
  obtain⟨⟨px,py,-⟩,-⟩:=HCE.out W hW
  exact⟨block_cell px rfl,block_cell px rfl,block_cell px rfl,block_cell px rfl,block_cell py rfl,block_cell py rfl,block_cell py rfl,block_cell py rfl,block_cell py rfl,block_cell py rfl,block_cell py rfl,block_cell py rfl⟩
 have HY:=hid_of hY
 clear hY
 go_enter Try.func30,Try.ntmps30
 go_wp2
 rw[HY.out]
 refine rhd HSV HDY.out (fun hHeld=>?_)
 refine tk 0 (h:=?_)
 refine tk 1 (h:=?_)
 refine tk 3 (h:=?_)
 refine tk 4 (h:=?_)
 try simp only[Act.put]
 refine rd1 2 (fun K hK=>?_)
 go_simp
 go_wp2_with (go_at_call 59;refine(HMN.out _).mono ?_;rintro e9 w4 ⟨rfl,e4⟩;obtain rfl:=e4.symm)
 refine hK.out _ _ (HSV.out _ HDY.out) (fun hHeld=>?_)
 clear hK K
 try simp only[Act.put]
 have hk:=HKF.out
 clear HKF
 rcases hk with⟨rfl,rfl⟩|⟨rfl,rfl⟩|⟨rfl,rfl⟩|⟨rfl,rfl⟩|⟨rfl,rfl⟩
 all_goals
  refine rd1 5 (fun K hK=>?_)
  go_simp
  go_wp2_with ((first|go_at_call 88|go_at_call 89|go_at_call 90|go_at_call 91|go_at_call 92);refine(HF.out _ HBY.out.drew).mono ?_;rintro e9 w5 ⟨rfl,hb5⟩)
  exact⟨rfl,rfl,HBY.out.drew.trans (hb5.mono HBY.out.drew.size)⟩
theorem moved_yes {k:Int} {fn:Nat} (hk:KF k fn) (a:Option Addr) (cap:Nat) (C:List Cr) (loops:Int) (gF cF gT cT:Nat) (x y ua va:Int) (ub vb ov:Bool) (w:World) (lo:Int) (D:List Cr) (hF:∀ W,Below w.heap.size w W->Calls Try.prog fn #[drV a cap C loops gF cF gT cT,mvV k x y ua ub va vb ov] W fun e w'=>∃ a2 c2,e=.returned (.agg #[.slice a2 D.length c2,.int .i64 lo])/\w'.ownsRow W.heap.size 71 5 (.slice a2 D.length c2) D.length (crossCells D)/\Below W.heap.size W w'):
    Calls Try.prog 30 #[drV a cap C loops gF cF gT cT,mvV k x y ua ub va vb ov] w fun e w'=>∃ a2 c2,e=.returned (.agg #[.slice a2 D.length c2,.int .i64 lo])/\w'.ownsRow w.heap.size 71 5 (.slice a2 D.length c2) D.length (crossCells D)/\Below w.heap.size w w':=by
 have HF:=hid_of hF
 have HMN:=hid_of (means_of hk)
 have HKF:=hid_of hk
 clear hF hk
 unfold mvV at HF ⊢
 obtain⟨Y,hY,hBY,hTY,hsY⟩:=bm_ex w a cap C loops gF cF gT cT k x y ua va ub vb ov
 have HBY:=hid_of hBY
 have HCE:=hid_of (bm_ce hTY)
 clear hBY hTY
 unfold drV at HF ⊢
 have HDY:Hid (Below Y.heap.size Y Y.drew):=(Below.refl _ _).drew
 have HSV:Hid (∀ W,Below Y.heap.size Y W->(fun X:World=>X.cell? ⟨w.heap.size,0,none⟩=some (.slice a C.length cap)/\X.cell? ⟨w.heap.size,1,none⟩=some (.int .i64 loops)/\X.cell? ⟨w.heap.size,2,none⟩=some (.slice (some ⟨gF,0,none⟩) (2*C.length+1) cF)/\X.cell? ⟨w.heap.size,3,none⟩=some (.slice (some ⟨gT,0,none⟩) (2*C.length+1) cT)/\X.cell? ⟨w.heap.size+1,0,none⟩=some (.int .i64 k)/\X.cell? ⟨w.heap.size+1,1,none⟩=some (.int .i64 x)/\X.cell? ⟨w.heap.size+1,2,none⟩=some (.int .i64 y)/\X.cell? ⟨w.heap.size+1,3,none⟩=some (.int .i64 ua)/\X.cell? ⟨w.heap.size+1,4,none⟩=some (.bool ub)/\X.cell? ⟨w.heap.size+1,5,none⟩=some (.int .i64 va)/\X.cell? ⟨w.heap.size+1,6,none⟩=some (.bool vb)/\X.cell? ⟨w.heap.size+1,7,none⟩=some (.bool ov)) W):=fun W hW=>by
  obtain⟨⟨px,py,-⟩,-⟩:=HCE.out W hW
  exact⟨block_cell px rfl,block_cell px rfl,block_cell px rfl,block_cell px rfl,block_cell py rfl,block_cell py rfl,block_cell py rfl,block_cell py rfl,block_cell py rfl,block_cell py rfl,block_cell py rfl,block_cell py rfl⟩
 have HY:=hid_of hY
 clear hY
 go_enter Try.func30,Try.ntmps30
 go_wp2
 rw[HY.out]
 refine rhd HSV HDY.out (fun hHeld=>?_)
 refine tk 0 (h:=?_)
 refine tk 1 (h:=?_)
 refine tk 3 (h:=?_)
 refine tk 4 (h:=?_)
 try simp only[Act.put]
 refine rd1 2 (fun K hK=>?_)
 go_simp
 go_wp2_with (go_at_call 59;refine(HMN.out _).mono ?_;rintro e9 w4 ⟨rfl,e4⟩;obtain rfl:=e4.symm)
 refine hK.out _ _ (HSV.out _ HDY.out) (fun hHeld=>?_)
 clear hK K
 try simp only[Act.put]
 have HZS:=hid_of (fun(w5:World) (v0 v1:Value) (hB5:Below Y.heap.size Y w5)=>show(fun X:World=>X.cell? ⟨w.heap.size,0,none⟩=some (.slice a C.length cap)/\X.cell? ⟨w.heap.size,1,none⟩=some (.int .i64 loops)/\X.cell? ⟨w.heap.size,2,none⟩=some (.slice (some ⟨gF,0,none⟩) (2*C.length+1) cF)/\X.cell? ⟨w.heap.size,3,none⟩=some (.slice (some ⟨gT,0,none⟩) (2*C.length+1) cT)/\X.cell? ⟨w.heap.size+1,0,none⟩=some (.int .i64 k)/\X.cell? ⟨w.heap.size+1,1,none⟩=some (.int .i64 x)/\X.cell? ⟨w.heap.size+1,2,none⟩=some (.int .i64 y)/\X.cell? ⟨w.heap.size+1,3,none⟩=some (.int .i64 ua)/\X.cell? ⟨w.heap.size+1,4,none⟩=some (.bool ub)/\X.cell? ⟨w.heap.size+1,5,none⟩=some (.int .i64 va)/\X.cell? ⟨w.heap.size+1,6,none⟩=some (.bool vb)/\X.cell? ⟨w.heap.size+1,7,none⟩=some (.bool ov)) ((w5.setCell ⟨w.heap.size+1+1,0,none⟩ v0).setCell ⟨w.heap.size+1+1,1,none⟩ v1) by
  have hg:=grown_trans (set_grown w5 (w.heap.size+1+1) 0 v0) (set_grown (w5.setCell ⟨w.heap.size+1+1,0,none⟩ v0) (w.heap.size+1+1) 1 v1)
  obtain⟨⟨px,py,-⟩,-⟩:=HCE.out w5 hB5
  have px':=(hg.block _ (Array.getElem?_eq_some_iff.1 px).1 (fun e=>by have:=Option.some.inj e;omega)).trans px
  have py':=(hg.block _ (Array.getElem?_eq_some_iff.1 py).1 (fun e=>by have:=Option.some.inj e;omega)).trans py
  exact⟨block_cell px' rfl,block_cell px' rfl,block_cell px' rfl,block_cell px' rfl,block_cell py' rfl,block_cell py' rfl,block_cell py' rfl,block_cell py' rfl,block_cell py' rfl,block_cell py' rfl,block_cell py' rfl,block_cell py' rfl⟩)
 have hk:=HKF.out
 clear HKF
 rcases hk with⟨rfl,rfl⟩|⟨rfl,rfl⟩|⟨rfl,rfl⟩|⟨rfl,rfl⟩|⟨rfl,rfl⟩
 all_goals
  refine rd1 5 (fun K hK=>?_)
  go_simp
  go_wp2_with ((first|go_at_call 88|go_at_call 89|go_at_call 90|go_at_call 91|go_at_call 92);refine(HF.out _ HBY.out.drew).mono ?_;rintro e9 w5 ⟨a2,c2,rfl,ho5,hb5⟩)
  have HO5:=hid_of ho5
  have HB5:=hid_of (HDY.out.trans (hb5.mono HDY.out.size))
  have hs5:=hb5.size
  refine hK.out _ _ (HSV.out _ HB5.out) (fun hHeld=>?_)
  clear hK K ho5 hb5
  try simp only[Act.put]
  refine rd1 6 (fun K hK=>?_)
  have cql0:=bm_cells (HCE.out w5 (HB5.out))
  have qZ:=hid_of (HCE.out w5 (HB5.out)).1.2.2
  have HZ:=hid_of (st2D (a:=.slice a2 D.length c2) (b:=.int .i64 lo) qZ.out)
  go_simp
  refine hK.out _ _ (HZS.out _ _ _ HB5.out) (fun hHeld=>?_)
  clear hK K HZS
  try simp only[Act.put]
  refine wpAnyH_done (by kernel_rfl) ?_ _
  clear hHeld
  go_wp2
  have x0:=block_cell (i:=0) (v:=.slice a2 D.length c2) HZ.out rfl
  have x1:=block_cell (i:=1) (v:=.int .i64 lo) HZ.out rfl
  refine bodyPost_ret (v:=.agg #[.slice a2 D.length c2,.int .i64 lo]) (by simp[results,Try.results30,go_sem,x0,x1]) rfl ⟨a2,c2,rfl,?_,?_⟩
  · exact own_low (own_two HO5.out (by show w.heap.size+1+1<Y.heap.size;omega) _ _) (by show w.heap.size<=Y.heap.size;omega)
  · exact((HBY.out.trans (HB5.out.mono (by omega))).setCell (p:=⟨w.heap.size+1+1,0,none⟩) (by simp only;omega) _).setCell (p:=⟨w.heap.size+1+1,1,none⟩) (by simp only;omega) _
end Go.Proofs.Ytagaajlbkfkaiaa
/- The walk of ref.takenOut. Made by genmt1.py. -/
namespace Go.Proofs.Ytagaajlbkfkaiaa
open Go.RowKit
end Go.Proofs.Ytagaajlbkfkaiaa
