/- Several texts of the proof, one behind the other. -/
import Derived.Test.YtookanmeflbdlaaGreatDoorTkhP
import Derived.Test.YtookanmeflbdlaaGreatDoorBK5P
import Derived.Test.YtookanmeflbdlaaGreatDoorF12P
import Derived.Deep.CutRange
import Derived.Test.YtookanmeflbdlaaGreatDoorBKsP
import Derived.Test.YtookanmeflbdlaaGreatDoorPB4P
import Derived.Test.YtookanmeflbdlaaGreatDoorPA10P
import Derived.Test.YtookanmeflbdlaaGreatDoorQ4P
/- The walk of bracket.bracketOf. -/
namespace Go.Proofs.YtookanmeflbdlaaGreatDoor.Poly
open Go.RowKit Go.Maps
set_option maxHeartbeats 8000000
set_option maxRecDepth 100000
theorem JJ1 (C:List Cr) (c0:Nat) (T:List Nat):(if T=List.range 26 then dlN c0 QU9 else fun _=>0)=mS C c0 0 T:=by
 funext y
 show _=0+(if List.range 26=T then shA 0 (dlN (c0+0) QU9) y else 0)
 by_cases e:T=List.range 26
 · rw[if_pos e,if_pos e.symm,Zk1];simp
 · rw[if_neg e,if_neg (fun h=>e h.symm)];rfl
def lpN (C:List Cr) (lo:Nat):Nat:=if C.length=0 then lo-1 else lo
theorem ZZ2 {C:List Cr} {l:Int} (hm:QQ6 C l=true) {k s:Nat} (hk:k<C.length) (hs:s<4):(C.getD k Cr.none).arc s=(arN C k s:Nat):=by
 have:=QV2 hm hk hs
 unfold arN;omega
theorem XC4 (a : Option Addr) (cap : Nat) (C : List Cr) (loops : Int) (lo gF cF gT cT : Nat) (w : World) (hm : QQ6 C loops = true) (hlo : loops = (lo : Nat)) (h12 : C.length ≤ 12) (hC : Crs w w.heap.size (.slice a C.length cap) C) (hR : RingAt w) :
    Calls Tryz.prog 38 #[drV a cap C loops gF cF gT cT] w fun e w'=>∃ c:Nat,e=.returned (.map (some c))/\WkV w' w'.heap.size (.map (some c)) 185 92 (brS C lo)/\Below w.heap.size w w':=by
 obtain⟨s1,s2,s3,s4⟩:=QX5 (QZ6 hm)
 have HBR:Hid (JU0 C (lpN C lo) C.length=brS C lo):=Xd6 hm hlo h12
 have HM:=QQ2 hm
 have HC:=QQ2 hC
 have HR:=QQ2 hR
 have hl0:lpN C lo<=16:=by unfold lpN;split<;>omega
 have HLN:Hid (lpN C lo=if C.length=0 then lo-1 else lo):=(rfl:lpN C lo=if C.length=0 then lo-1 else lo)
 obtain⟨c0,hc0⟩:∃ X,lpN C lo=X:=⟨_,rfl⟩
 rw[hc0]at HBR hl0 HLN
 clear hc0 hm hC hR
 subst hlo
 have hlo0:C.length=0->1<=lo:=fun h=>by omega
 unfold drV
 obtain⟨V,hV⟩:∃ V,w.alloc (.cells #[.slice a C.length cap,.int .i64 (lo:Nat),.slice (some ⟨gF,0,none⟩) (2*C.length+1) cF,.slice (some ⟨gT,0,none⟩) (2*C.length+1) cT] 49)=V:=⟨_,rfl⟩
 have BV:=hidB (show Below w.heap.size w V by rw[<-hV];exact(Below.refl _ _).alloc (Nat.le_refl _) _)
 have kV:V.heap[w.heap.size]?=some (.cells #[.slice a C.length cap,.int .i64 (lo:Nat),.slice (some ⟨gF,0,none⟩) (2*C.length+1) cF,.slice (some ⟨gT,0,none⟩) (2*C.length+1) cT] 49 (0,0)):=by rw[<-hV];exact heap_alloc_new _ _
 have sV:w.heap.size<V.heap.size:=by rw[<-hV];simp
 have HV:=QQ2 hV
 have HKV:=QQ2 kV
 have d0:=QQ0 (i:=0) kV rfl
 have d1:=QQ0 (i:=1) kV rfl
 have hmm:∀ w:World,(Instr.makeMap 115 none).run Tryz.prog w=.ok (.map (some w.heap.size)) (w.alloc (.map #[] 0)):=fun _=>rfl
 clear hV kV
 go_enter Tryz.func38,Tryz.ntmps38
 go_upto_region 1 with(fail)
 rw[HV.out]
 go_upto_if 15 with(fail)
 go_cut [3] from 4 (fun v3 W=>v3=.int .i64 (c0:Nat)/\Hid (W=V))
 case first=>
  by_cases h0:C.length=0
  · have h1:=hlo0 h0
    have hd:((C.length:Int)==0)=true:=by rw[beq_iff_eq];omega
    have hc:c0=lo-1:=by rw[HLN.out,if_pos h0]
    have hw:IntKind.i64.wrap ((lo:Int)-1)=((c0:Nat):Int):=by rw[IntWalk.i64_in _ (by omega)];omega
    clear h0 h1 hc
    go_wp2
    go_meet
    exact⟨rfl,(rfl:V=V)⟩
  · have hd:((C.length:Int)==0)=false:=by rw[beq_eq_false_iff_ne];omega
    have hc:c0=lo:=by rw[HLN.out,if_neg h0]
    subst hc
    clear h0
    go_wp2
    go_meet
    exact⟨rfl,(rfl:V=V)⟩
 case rest=>
  obtain⟨rfl,hcut⟩:=hcut
  obtain rfl:=hcut.out
  clear hcut d1 HV hlo0 HLN
  rename World=>V1
  obtain⟨R,hRR⟩:∃ R,R=List.range 26:=⟨_,rfl⟩
  have HRR:=QQ2 hRR
  have HGR:=hidB (show GoodK R by rw[hRR];exact GoodK.first)
  have HUT:Hid (∀ W,Calls Tryz.prog 61 #[] W fun e w'=>e=.returned (.agg (tiA R))/\Below W.heap.size W w'):=fun W=>by rw[hRR];exact ZY8 W
  clear hRR
  have SM:=QQ2 (SumD.made V1 (V1.heap.size+1) (V1.heap.size+1) (2*c0) (2*(2*c0)+1))
  have BM:Hid (Below V1.heap.size V1 (V1.alloc (.map #[] 0))):=(Below.refl _ _).alloc (Nat.le_refl _) _
  have sM:(V1.alloc (.map #[] 0)).heap.size=V1.heap.size+1:=by simp
  have HSM:=QQ2 sM
  clear sM
  go_upto_region 5 with (first
   | (go_at_call 61; refine (HUT.out _).mono ?_; rintro e9 x2 ⟨rfl, hb2⟩
      have HX2:=QQ2 hb2
      clear hb2)
   | (go_at_call 62; refine (XX4 c0 _ hl0 (HR.out.on (BV.out.trans ((BM.out.trans (HX2.out.mono BM.out.size)).mono BV.out.size)) HR.out.lt)).mono ?_; rintro e9 x3 ⟨c3, rfl, hc3, hw3, hb3⟩
      have HX3:=QQ2 ((BM.out.trans (HX2.out.mono BM.out.size)).trans (hb3.mono (BM.out.trans (HX2.out.mono BM.out.size)).size))
      have h23:V1.heap.size+1<=x2.heap.size:=by have:=HX2.out.size;rw[HSM.out]at this;exact this
      have hbb:Below (V1.heap.size+1) (V1.alloc (.map #[] 0)) x3:=by rw[<-HSM.out];exact HX2.out.trans (hb3.mono HX2.out.size)
      have hS3:=(SM.out.on hbb (by omega)).mono (Nat.le_refl _) (Nat.le_trans h23 hb3.size) (Nat.le_refl _) (Nat.le_refl _) (Nat.le_refl _)
      obtain⟨x4,D4,hrun,hS4,hg4,hk4,-⟩:=hS3.put HGR.out (by omega) (by omega) (c:=c3) (f:=dlN c0 QU9) (by omega) hw3
      unfold tiV at hrun
      have HS4:=QQ2 hS4
      have HG4:=QQ2 hg4
      have HK4:=QQ2 hk4
      clear hS3 hS4 hg4 hk4 hw3 hb3 hbb))
  have hs4:=HG4.out.size
  have B4:Hid (Below w.heap.size w x4):=(BV.out.trans (HX3.out.mono BV.out.size)).grown HG4.out (BV.out.trans (HX3.out.mono BV.out.size)).size (fun j hj=>by cases hj;omega)
  have S4:Hid (SumD x4 0 x4.heap.size V1.heap.size (2 ^ 0) (2*c0+5*0) (2*(2*c0+5*0)+1) (mS C c0 0) D4):=((HS4.out.mono (Nat.zero_le _) (Nat.le_refl _) (Nat.le_refl _) (Nat.le_refl _) (Nat.le_refl _)).congr fun T _=>by rw[HRR.out];exact JJ1 C c0 T:SumD x4 0 x4.heap.size V1.heap.size (2 ^ 0) (2*c0+5*0) (2*(2*c0+5*0)+1) (mS C c0 0) D4)
  have C4:Hid (∀ s l,s<2 ^ 0->keyOf Tryz.prog 112 (tiV (kyS C s 0))=some l->Maps.has D4 l=true):=fun s l _ hl=>HK4.out l (by rw[HRR.out];exact hl)
  have d0:=QQ0 (i:=0) ((HG4.out.block _ (by have:=HX3.out.size;omega) (fun e=>by have:=Option.some.inj e;omega)).trans ((HX3.out.block _ sV).trans HKV.out)) rfl
  have sx4:w.heap.size<x4.heap.size:=by have:=HX3.out.size;omega
  clear HS4 HG4 HK4 hrun HX2 HX3 SM BM HSM HUT HGR HRR hc3 h23 hmm hs4
  go_wp2
  go_loopw [4,5,6,7,27] (fun v4 _ _ _ v27 wr=>∃ (i b:Nat) (D:DataW Unit),i<=C.length/\v27=.int .i64 (i:Nat)/\v4=.map (some b)/\Hid (SumD wr 0 wr.heap.size b (2 ^ i) (2*c0+5*i) (2*(2*c0+5*i)+1) (mS C c0 i) D)/\Hid (∀ s l,s<2 ^ i->keyOf Tryz.prog 112 (tiV (kyS C s i))=some l->Maps.has D l=true)/\Hid (Below w.heap.size w wr)) (fun _ _ _ _ v27 _=>C.length-(intOf v27).toNat)
  case atStart=>exact⟨0,V1.heap.size,D4,Nat.zero_le _,rfl,rfl,S4.out,C4.out,B4.out⟩
  case round=>
   clear S4 C4 B4 d0 sx4
   rename World=>W1
   obtain⟨i,b,D,hin,rfl,rfl,hSi,hCi,hb⟩:=hrel
   have hsW:=hb.out.size
   by_cases hil:i<C.length
   · obtain⟨a',cap',ea,-,kc⟩:=HC.out
     injection ea with ea1 ea2 ea3
     subst ea1 ea3
     obtain⟨bb,off,rfl,hbw,hCA⟩:=kc (by omega)
     obtain⟨e0,e1,e2,e3,e4⟩:=(hCA.on hb.out hbw) i hil
     have hbW:bb<W1.heap.size:=by omega
     have hii:(i:Int)<(C.length:Int):=by omega
     have x0:(C.getD i Cr.none).a=((arN C i 0:Nat):Int):=ZZ2 HM.out hil (s:=0) (by omega)
     have x1:(C.getD i Cr.none).b=((arN C i 1:Nat):Int):=ZZ2 HM.out hil (s:=1) (by omega)
     have x2:(C.getD i Cr.none).c=((arN C i 2:Nat):Int):=ZZ2 HM.out hil (s:=2) (by omega)
     have x3:(C.getD i Cr.none).d=((arN C i 3:Nat):Int):=ZZ2 HM.out hil (s:=3) (by omega)
     have y0:=QV2 HM.out hil (s:=0) (by omega)
     have y1:=QV2 HM.out hil (s:=1) (by omega)
     have y2:=QV2 HM.out hil (s:=2) (by omega)
     have y3:=QV2 HM.out hil (s:=3) (by omega)
     have hq0:arN C i 0<=24:=by omega
     have hq1:arN C i 1<=24:=by omega
     have hq2:arN C i 2<=24:=by omega
     have hq3:arN C i 3<=24:=by omega
     rw[x0]at e0
     rw[x1]at e1
     rw[x2]at e2
     rw[x3]at e3
     obtain⟨q0,z0⟩:∃ q,arN C i 0=q:=⟨_,rfl⟩
     obtain⟨q1,z1⟩:∃ q,arN C i 1=q:=⟨_,rfl⟩
     obtain⟨q2,z2⟩:∃ q,arN C i 2=q:=⟨_,rfl⟩
     obtain⟨q3,z3⟩:∃ q,arN C i 3=q:=⟨_,rfl⟩
     obtain⟨pl,zp⟩:∃ q,(C.getD i Cr.none).plus=q:=⟨_,rfl⟩
     have HQ:Hid (arN C i 0=q0/\arN C i 1=q1/\arN C i 2=q2/\arN C i 3=q3):=⟨z0,z1,z2,z3⟩
     rw[z0]at e0 hq0
     rw[z1]at e1 hq1
     rw[z2]at e2 hq2
     rw[z3]at e3 hq3
     rw[zp]at e4
     clear x0 x1 x2 x3 y0 y1 y2 y3 z0 z1 z2 z3 zp hCA kc ea2
     by_cases hi0:i=0
     · have hd:((i:Int)==0)=true:=by rw[beq_iff_eq];omega
       have HUN:Hid (∀ W,Below W1.heap.size W1 W->Calls Tryz.prog 64 #[.map (some b),.agg #[.int .i64 (25:Nat),.int .i64 (q1:Nat),.int .i64 (q2:Nat),.int .i64 (q3:Nat)]] W fun e w'=>∃ (c:Nat) (D':DataW Unit),e=.returned (.map (some c))/\SumD w' 0 w'.heap.size c (2*2 ^ i) (2*c0+5*i+5) (2*(2*c0+5*i+5)+1) (mS C c0 (i+1)) D'/\(∀ s l,s<2 ^ (i+1)->keyOf Tryz.prog 112 (tiV (kyS C s (i+1)))=some l->Maps.has D' l=true)/\Below W.heap.size W w'):=fun W hW=>XU6 C c0 i b (2 ^ i) (2*c0+5*i) D 25 q1 q2 q3 W hl0 (by omega) (Nat.le_trans (Nat.pow_le_pow_right (by omega) (by omega:i<=12)) (by decide)) rfl (by unfold arQ;rw[if_pos ⟨hi0,rfl⟩]) (by rw[<-HQ.out.2.1];unfold arQ;rw[if_neg (fun h=>by omega)]) (by rw[<-HQ.out.2.2.1];unfold arQ;rw[if_neg (fun h=>by omega)]) (by rw[<-HQ.out.2.2.2];unfold arQ;rw[if_neg (fun h=>by omega)]) (by omega) (by omega) (by omega) (by omega) (HR.out.on (hb.out.trans (hW.mono hb.out.size)) HR.out.lt) ((hSi.out.on hW hSi.out.own.lt).mono (Nat.le_refl _) hW.size (Nat.le_refl _) (Nat.le_refl _) (Nat.le_refl _)) hCi.out
       clear hi0
       go_wp2_with (first
        | (go_at_call 63; refine (Qv3 ⟨(q0 : Nat), (q1 : Nat), (q2 : Nat), (q3 : Nat), pl⟩ _).mono ?_; rintro e9 w5 ⟨rfl, hb5⟩
           have HB5:=hidB (((Below.refl _ _).alloc (Nat.le_refl _) _).trans (hb5.mono (by simp)))
           clear hb5)
        | (go_at_call 64; refine (HUN.out _ (HB5.out.alloc HB5.out.size _)).mono ?_; rintro e9 w6 ⟨c6, D6, rfl, hs6, hc6, hb6⟩
           have HS6:=QQ2 hs6
           have HC6:=QQ2 hc6
           have HB6:=hidB (hb.out.trans (((HB5.out.alloc HB5.out.size _).trans (hb6.mono (HB5.out.alloc HB5.out.size _).size)).mono hb.out.size))
           clear hs6 hc6 hb6))
       go_roundw
       case rel=>exact⟨i+1,c6,D6,by omega,by go_num,rfl,HS6.out.mono (Nat.le_refl _) (Nat.le_refl _) (by rw[Nat.pow_succ];omega) (by omega) (by omega),HC6.out,HB6.out⟩
       case measure=>simp only[intOf];omega
     · have hd:((i:Int)==0)=false:=by rw[beq_eq_false_iff_ne];omega
       have HUN:Hid (∀ W,Below W1.heap.size W1 W->Calls Tryz.prog 64 #[.map (some b),.agg #[.int .i64 (q0:Nat),.int .i64 (q1:Nat),.int .i64 (q2:Nat),.int .i64 (q3:Nat)]] W fun e w'=>∃ (c:Nat) (D':DataW Unit),e=.returned (.map (some c))/\SumD w' 0 w'.heap.size c (2*2 ^ i) (2*c0+5*i+5) (2*(2*c0+5*i+5)+1) (mS C c0 (i+1)) D'/\(∀ s l,s<2 ^ (i+1)->keyOf Tryz.prog 112 (tiV (kyS C s (i+1)))=some l->Maps.has D' l=true)/\Below W.heap.size W w'):=fun W hW=>XU6 C c0 i b (2 ^ i) (2*c0+5*i) D q0 q1 q2 q3 W hl0 (by omega) (Nat.le_trans (Nat.pow_le_pow_right (by omega) (by omega:i<=12)) (by decide)) rfl (by rw[<-HQ.out.1];unfold arQ;rw[if_neg (fun h=>hi0 h.1)]) (by rw[<-HQ.out.2.1];unfold arQ;rw[if_neg (fun h=>by omega)]) (by rw[<-HQ.out.2.2.1];unfold arQ;rw[if_neg (fun h=>by omega)]) (by rw[<-HQ.out.2.2.2];unfold arQ;rw[if_neg (fun h=>by omega)]) (by omega) (by omega) (by omega) (by omega) (HR.out.on (hb.out.trans (hW.mono hb.out.size)) HR.out.lt) ((hSi.out.on hW hSi.out.own.lt).mono (Nat.le_refl _) hW.size (Nat.le_refl _) (Nat.le_refl _) (Nat.le_refl _)) hCi.out
       clear hi0
       go_wp2_with (first
        | (go_at_call 63; refine (Qv3 ⟨(q0 : Nat), (q1 : Nat), (q2 : Nat), (q3 : Nat), pl⟩ _).mono ?_; rintro e9 w5 ⟨rfl, hb5⟩
           have HB5:=hidB (((Below.refl _ _).alloc (Nat.le_refl _) _).trans (hb5.mono (by simp)))
           clear hb5)
        | (go_at_call 64; refine (HUN.out _ (HB5.out.alloc HB5.out.size _)).mono ?_; rintro e9 w6 ⟨c6, D6, rfl, hs6, hc6, hb6⟩
           have HS6:=QQ2 hs6
           have HC6:=QQ2 hc6
           have HB6:=hidB (hb.out.trans (((HB5.out.alloc HB5.out.size _).trans (hb6.mono (HB5.out.alloc HB5.out.size _).size)).mono hb.out.size))
           clear hs6 hc6 hb6))
       go_roundw
       case rel=>exact⟨i+1,c6,D6,by omega,by go_num,rfl,HS6.out.mono (Nat.le_refl _) (Nat.le_refl _) (by rw[Nat.pow_succ];omega) (by omega) (by omega),HC6.out,HB6.out⟩
       case measure=>simp only[intOf];omega
   · obtain rfl:i=C.length:=by omega
     have hAL:=QQ2 (Kg2 C c0 C.length b (2 ^ C.length) (2*c0+5*C.length) D W1 hl0 (by omega) (by omega) hSi.out hCi.out)
     go_wp2_with (go_at_call 65;refine hAL.out.mono ?_;rintro e9 w6 ⟨c6,rfl,hw6,hb6⟩)
     go_ret
     rw[HBR.out]at hw6
     exact⟨c6,rfl,hw6.mono (Nat.le_refl _) (by omega) (by omega),hb.out.trans (hb6.mono hsW)⟩
end Go.Proofs.YtookanmeflbdlaaGreatDoor.Poly
/- The walk of ref.BracketOf. -/
namespace Go.Proofs.YtookanmeflbdlaaGreatDoor.Poly
open Go.RowKit Go.Maps
structure BoSt (w:World) (a:Option Addr) (cap:Nat) (C:List Cr) (lo M:Nat) (L:List Nat) (W:World):Prop where
 box:W.heap[w.heap.size]?=some (.cells #[.slice a C.length cap,.int .i64 (lo:Nat)] 24 (0,0))
 own:W.ownsRow (w.heap.size+1) 3 1 (.slice (some ⟨w.heap.size+1,0,none⟩) M M) M (QJ7 L)
 bel:Below w.heap.size w W
theorem BoSt.any {w W W':World} {a:Option Addr} {cap:Nat} {C:List Cr} {lo M:Nat} {L:List Nat} (h:BoSt w a cap C lo M L W) (hb:Below W.heap.size W W'):BoSt w a cap C lo M L W':=
 ⟨(hb.block _ (Array.getElem?_eq_some_iff.1 h.box).1).trans h.box,Go.Proofs.YtookanmeflbdlaaGreatDoor.own_any h.own (grown_below hb none),h.bel.trans (hb.mono h.bel.size)⟩
theorem BoSt.put {w W W':World} {a:Option Addr} {cap:Nat} {C:List Cr} {lo M:Nat} {L L':List Nat} (h:BoSt w a cap C lo M L W) (ho:W'.ownsRow (w.heap.size+1) 3 1 (.slice (some ⟨w.heap.size+1,0,none⟩) M M) M (QJ7 L')) (hg:W.grownBy W' (some (w.heap.size+1))):BoSt w a cap C lo M L' W':=
 ⟨(hg.block _ (Array.getElem?_eq_some_iff.1 h.box).1 (fun e=>by have:=Option.some.inj e;omega)).trans h.box,ho,h.bel.grown hg h.bel.size (fun j hj=>by cases hj;omega)⟩
end Go.Proofs.YtookanmeflbdlaaGreatDoor.Poly
/- The walks of ref.JonesOf, bracket.Bracket, bracket.Jones. -/
namespace Go.Proofs.YtookanmeflbdlaaGreatDoor.Poly
open Go.RowKit Go.Maps
set_option maxHeartbeats 4000000
set_option maxRecDepth 100000
def sgJ (z:Int):Int:=if z%2=0 then 1 else -1
def jnF (C:List Cr) (lo:Nat):Int->Int:=fun y=>sgJ (wrM C C.length)*brS C lo (y+3*wrM C C.length)
theorem JD3 {C:List Cr} {lo:Nat} (hm:QQ6 C (lo:Nat)=true) (h12:C.length<=12) (y:Int):(brS C lo y).natAbs<=4503599627370496:=by
 obtain⟨s1,s2,s3,s4⟩:=QX5 (QZ6 hm)
 rw[<-Xd6 hm rfl h12]
 have h:=Zw7 C (if C.length=0 then lo-1 else lo) C.length (fun _=>true) y
 rw[XA3 C _ _ fun _ _=>rfl]at h
 refine Nat.le_trans h ?_
 have:2 ^ ((if C.length=0 then lo-1 else lo)+3*C.length)<=2 ^ 52:=Nat.pow_le_pow_right (by omega) (by split<;>omega)
 exact Nat.le_trans this (by decide)
theorem Zh8 (c n K : Nat) (f : Int → Int) (w : World) (hK : K ≤ 1000) (h : WkV w w.heap.size (.map (some c)) n K f) :
    Calls Tryz.prog 40 #[.map (some c)] w fun e w'=>∃ u l,e=.returned u/\PolyC w' w'.heap.size u l/\Canon l f/\Below w.heap.size w w':=by
 rcases h with⟨e,-⟩|⟨b,D,e,hlt,ho,hk,hc⟩
 · cases e
 · cases e
   exact(Xh0 c n D w ho (fun left acc hC=>Nat.le_trans (Xj3 hC K hk) (by omega))).mono fun e w' ⟨u,l,h1,h2,h3,h4⟩=>⟨u,l,h1,PolyC.ofRow h2,canon_congr h3 hc,h4⟩
theorem jones_yes (hFR : QQ8) (v : Value) (C : List Cr) (loops : Int) (lo : Nat) (w : World) (hl : loops = (lo : Nat)) (hn : noN C loops = 0) (h12 : C.length ≤ 12) (h : Crs w w.heap.size v C) (hR : RingAt w) :
    Calls Tryz.prog 15 #[.agg #[v,.int .i64 loops]] w fun e w'=>∃ v l,e=.returned (.tuple #[v,.int .i64 0])/\PolyC w' w'.heap.size v l/\Canon l (jnF C lo)/\Below w.heap.size w w':=by
 obtain⟨a,cap,rfl,-,-⟩:=id h
 have hm:=(QU7 hn).1
 have hm2:QQ6 C (lo:Nat)=true:=by rw[<-hl];exact hm
 have HDR:=QQ2 (fun W hW=>KX3 hFR a cap C loops W hn h12 hW)
 have HBO:=QQ2 (fun gF cF gT cT W hW hRW=>XC4 a cap C loops lo gF cF gT cT W hm hl h12 hW hRW)
 have HWR:=QQ2 (fun W hW=>XU4 hFR (.slice a C.length cap) C loops W hn hW)
 have HBD:=QQ2 (fun y=>JD3 hm2 h12 y)
 have hwb:=Xx0 C C.length
 have HJ:Hid (jnF C lo=fun y=>sgJ (wrM C C.length)*brS C lo (y+3*wrM C C.length)):=(rfl:jnF C lo=_)
 obtain⟨z,hz⟩:∃ z,wrM C C.length=z:=⟨_,rfl⟩
 rw[hz]at HWR hwb HJ
 have HCU:=QQ2 (fun W=>KX8 (-z) W (by omega))
 have en:IntKind.i64.wrap (-z) = -z:=IntWalk.i64_in _ (by omega)
 have HC:=QQ2 h
 have HR:=QQ2 hR
 obtain⟨W0,hW0⟩:∃ W0,w.alloc (.cells #[.slice a C.length cap,.int .i64 loops] 24)=W0:=⟨_,rfl⟩
 have HB1:=hidB (show Below w.heap.size w W0 by rw[<-hW0];exact(Below.refl _ _).alloc (Nat.le_refl _) _)
 have HT0:=hidB (show W0.heap[w.heap.size]?=some (.cells #[.slice a C.length cap,.int .i64 loops] 24 (0,0)) by rw[<-hW0];exact heap_alloc_new _ _)
 have HW0:=QQ2 hW0
 have HF:Hid (∀ W,Below W0.heap.size W0 W->W.cell? ⟨w.heap.size,0,none⟩=some (.slice a C.length cap)/\W.cell? ⟨w.heap.size,1,none⟩=some (.int .i64 loops)/\w.heap.size<W.heap.size):=fun W hW=>by
  have g0:=(hW.block _ (Array.getElem?_eq_some_iff.1 HT0.out).1).trans HT0.out
  exact⟨QQ0 g0 rfl,QQ0 g0 rfl,(Array.getElem?_eq_some_iff.1 g0).1⟩
 clear hn hm h hR hl hFR hz hW0 hm2
 unfold drV at HDR HBO
 go_enter Tryz.func15,Tryz.ntmps15
 go_upto_region 1 with(fail)
 rw[HW0.out]
 obtain⟨p0,p1,p2⟩:=HF.out W0 (Below.refl _ _)
 go_upto_region 4 with (first
  | (go_at_call 37; refine (HDR.out _ (HC.out.up HB1.out)).mono ?_; rintro e9 w2 ⟨⟨gF, cF, gT, cT, rfl⟩, hb2⟩
     have HB02:=QQ2 hb2
     clear hb2))
 clear p0 p1 p2
 obtain⟨X2,hX2⟩:∃ X,w2.alloc (.cells #[.slice a C.length cap,.int .i64 loops,.slice (some ⟨gF,0,none⟩) (2*C.length+1) cF,.slice (some ⟨gT,0,none⟩) (2*C.length+1) cT] 49)=X:=⟨_,rfl⟩
 rw[hX2]
 have BX2:=hidB (show Below W0.heap.size W0 X2 by rw[<-hX2];exact HB02.out.alloc HB02.out.size _)
 have KX2:=hidB (show X2.heap[w2.heap.size]?=some (.cells #[.slice a C.length cap,.int .i64 loops,.slice (some ⟨gF,0,none⟩) (2*C.length+1) cF,.slice (some ⟨gT,0,none⟩) (2*C.length+1) cT] 49 (0,0)) by rw[<-hX2];exact heap_alloc_new _ _)
 clear hX2
 obtain⟨p0,p1,p2⟩:=HF.out X2 BX2.out
 go_upto_region 7 with (first
  | (go_at_call 12; refine (HWR.out _ (HC.out.up (HB1.out.trans (BX2.out.mono HB1.out.size)))).mono ?_; rintro e9 w3 ⟨rfl, hb3⟩
     have HB23:=QQ2 hb3
     clear hb3))
 clear p0 p1 p2
 have k3:=(HB23.out.block _ (Array.getElem?_eq_some_iff.1 KX2.out).1).trans KX2.out
 have hl3:=(Array.getElem?_eq_some_iff.1 k3).1
 have r0:=QQ0 (i:=0) k3 rfl
 have r1:=QQ0 (i:=1) k3 rfl
 have r2:=QQ0 (i:=2) k3 rfl
 have r3:=QQ0 (i:=3) k3 rfl
 have HB3:=hidB (HB1.out.trans ((BX2.out.trans (HB23.out.mono BX2.out.size)).mono HB1.out.size))
 clear k3
 go_wp2_with (first
  | (go_at_call 38; refine (HBO.out _ _ _ _ _ (HC.out.up HB3.out) (HR.out.any HB3.out)).mono ?_; rintro e9 w4 ⟨c4, rfl, hw4, hb4⟩
     have HB4:=QQ2 (HB3.out.trans (hb4.mono HB3.out.size))
     have HW4:=QQ2 hw4
     clear hb4 hw4)
  | (go_at_call 39; refine (HCU.out _).mono ?_; rintro e9 w5 ⟨c5, rfl, hw5, hb5⟩
     have HB5:=QQ2 (HB4.out.trans (hb5.mono HB4.out.size))
     have HW5:=QQ2 hw5
     have HP5:=QQ2 ((HW4.out.on hb5).mono hb5.size (Nat.le_refl _) (Nat.le_refl _))
     clear hb5 hw5)
  | (go_at_call 22; refine (QY1 (.map (some c4)) (.map (some c5)) 185 1 92 48 4503599627370496 1 [(3 * -z, if -z % 2 = 0 then 1 else -1)] (brS C lo) (coefL [(3 * -z, if -z % 2 = 0 then 1 else -1)]) _ (by decide) (by decide) (by decide) (by decide) HBD.out (fun y => by rw [Qq8]; split <;> (try split) <;> decide) HP5.out HW5.out (by simp) (fun y => rfl)).mono ?_; rintro e9 w6 ⟨rfl, hw6, hb6⟩
     have HB6:=QQ2 (HB5.out.trans (hb6.mono HB5.out.size))
     have HW6:=QQ2 hw6
     clear hb6 hw6)
  | (go_at_call 40; refine (Zh8 _ _ _ _ _ (by decide) HW6.out).mono ?_; rintro e9 w7 ⟨u7, l7, rfl, hP7, hC7, hb7⟩
     have HP7:=QQ2 hP7
     have HC7:=QQ2 hC7
     have HB7:=QQ2 (HB6.out.trans (hb7.mono HB6.out.size))
     clear hb7 hP7 hC7))
 go_ret2
 refine⟨_,l7,rfl,HP7.out,canon_congr HC7.out fun y=>?_,HB7.out⟩
 rw[HJ.out]
 show(if -z%2=0 then(1:Int) else -1)*brS C lo (y-3 * -z)+0=sgJ z*brS C lo (y+3*z)
 unfold sgJ
 rw[show y-3 * -z=y+3*z by omega,Int.add_zero]
 congr 1
 by_cases e:z%2=0
 · rw[if_pos e,if_pos (by omega)]
 · rw[if_neg e,if_neg (by omega)]
end Go.Proofs.YtookanmeflbdlaaGreatDoor.Poly
/- Brackets and Jones's polynomials reckoned: the ties one behind the other, as lists. -/
namespace Go.Proofs.YtookanmeflbdlaaGreatDoor.Poly
def ins (e c:Int):List (Int×Int)->List (Int×Int)
 |[]=>[(e,c)]
 |t::r=>if t.1=e then(e,t.2+c)::r else if e<t.1 then(e,c)::t::r else t::ins e c r
theorem KB9 (e c:Int) (l:List (Int×Int)) (y:Int):coefL (ins e c l) y=coefL l y+(if e=y then c else 0):=by
 induction l with
 |nil=>simp[ins,coefL]
 |cons t r ih=>
  unfold ins
  split
  · rename_i h
    simp only[coefL,h]
    split<;>omega
  · split
    · simp only[coefL];omega
    · simp only[coefL,ih];omega
def Kh3 (p q:List (Int×Int)):List (Int×Int):=q.foldl (fun r t=>ins t.1 t.2 r) p
theorem XK5 (p q:List (Int×Int)) (y:Int):coefL (Kh3 p q) y=coefL p y+coefL q y:=by
 unfold Kh3
 induction q generalizing p with
 |nil=>simp[coefL]
 |cons t r ih=>rw[List.foldl_cons,ih,KB9];simp only[coefL];omega
def mpP (e g:Int) (p:List (Int×Int)):List (Int×Int):=p.map fun t=>(t.1+e,g*t.2)
theorem Qg3 (e g:Int) (p:List (Int×Int)) (y:Int):coefL (mpP e g p) y=g*coefL p (y-e):=by
 unfold mpP
 induction p with
 |nil=>simp[coefL]
 |cons t r ih=>
  simp only[List.map_cons,coefL,ih,Int.mul_add]
  by_cases h:t.1=y-e
  · rw[if_pos (by omega),if_pos h]
  · rw[if_neg (by omega),if_neg h,Int.mul_zero]
def dlP (p:List (Int×Int)):List (Int×Int):=Kh3 (mpP (-2) (-1) p) (mpP 2 (-1) p)
theorem KF4 (p:List (Int×Int)):coefL (dlP p)=dlA (coefL p):=by
 funext y
 unfold dlP dlA
 rw[XK5,Qg3,Qg3,show y - -2=y+2 by omega]
 omega
def Kk2:Nat->List (Int×Int)->List (Int×Int)
 |0,p=>p
 |n+1,p=>dlP (Kk2 n p)
theorem XZ9 (n:Nat) (p:List (Int×Int)):coefL (Kk2 n p)=dlN n (coefL p):=by
 induction n with
 |zero=>rfl
 |succ n ih=>show coefL (dlP (Kk2 n p))=dlA (dlN n (coefL p));rw[KF4,ih]
theorem ZK8 (e:Int) (p:List (Int×Int)):coefL (mpP e 1 p)=shA e (coefL p):=by
 funext y
 rw[Qg3,Int.one_mul];rfl
abbrev TSt:=List (List Nat×List (Int×Int))
def ZC6 (T:List Nat) (p:List (Int×Int)):TSt->TSt
 |[]=>[(T,p)]
 |x::r=>if x.1=T then(T,Kh3 x.2 p)::r else x::ZC6 T p r
def ZQ2:TSt->List Nat->Int->Int
 |[],_,_=>0
 |x::r,T,y=>(if x.1=T then coefL x.2 y else 0)+ZQ2 r T y
theorem ZJ7 (T:List Nat) (p:List (Int×Int)) (S:TSt) (U:List Nat) (y:Int):ZQ2 (ZC6 T p S) U y=ZQ2 S U y+(if T=U then coefL p y else 0):=by
 induction S with
 |nil=>simp[ZC6,ZQ2]
 |cons x r ih=>
  unfold ZC6
  split
  · rename_i h
    simp only[ZQ2,h,XK5]
    split<;>omega
  · simp only[ZQ2,ih];omega
theorem Qq3 (T:List Nat) (p:List (Int×Int)) (S:TSt) (U:List Nat):(∃ x∈ZC6 T p S,x.1=U)↔(U=T∨∃ x∈S,x.1=U):=by
 induction S with
 |nil=>simp[ZC6,eq_comm]
 |cons x r ih=>
  unfold ZC6
  split
  · rename_i h
    simp only[List.mem_cons,exists_eq_or_imp,h]
    constructor
    · rintro(e|e)
      · exact Or.inl e.symm
      · exact Or.inr (Or.inr e)
    · rintro(e|e|e)
      · exact Or.inl e.symm
      · exact Or.inl e
      · exact Or.inr e
  · simp only[List.mem_cons,exists_eq_or_imp,ih]
    constructor
    · rintro(e|e|e)
      · exact Or.inr (Or.inl e)
      · exact Or.inl e
      · exact Or.inr (Or.inr e)
    · rintro(e|e|e)
      · exact Or.inr (Or.inl e)
      · exact Or.inl e
      · exact Or.inr (Or.inr e)
def ZY3 (S:TSt):Prop:=S.Pairwise fun a b=>a.1≠b.1
theorem KC8 {T:List Nat} {p:List (Int×Int)} {S:TSt} (h:ZY3 S):ZY3 (ZC6 T p S):=by
 induction S with
 |nil=>simp[ZC6,ZY3]
 |cons x r ih=>
  unfold ZY3 at h ih ⊢
  rw[List.pairwise_cons]at h
  unfold ZC6
  split
  · rename_i e
    rw[List.pairwise_cons]
    exact⟨fun b hb=>by rw[<-e];exact h.1 b hb,h.2⟩
  · rename_i e
    rw[List.pairwise_cons]
    refine⟨fun b hb hbe=>?_,ih h.2⟩
    rcases(Qq3 T p r b.1).1 ⟨b,hb,rfl⟩ with q|⟨x',hx',q⟩
    · exact e (hbe.trans q)
    · exact h.1 x' hx' (hbe.trans q.symm)
theorem Zu5 {S:TSt} {T:List Nat} (h:∀ x∈S,x.1≠T) (y:Int):ZQ2 S T y=0:=by
 induction S with
 |nil=>rfl
 |cons x r ih=>
  unfold ZQ2
  rw[if_neg (h x (.head _)),ih fun z hz=>h z (List.mem_cons_of_mem _ hz)];rfl
theorem Zz3 {S:TSt} (h:ZY3 S) {x:List Nat×List (Int×Int)} (hx:x∈S) (y:Int):coefL x.2 y=ZQ2 S x.1 y:=by
 induction S with
 |nil=>cases hx
 |cons z r ih=>
  unfold ZY3 at h ih
  rw[List.pairwise_cons]at h
  unfold ZQ2
  rcases List.mem_cons.1 hx with rfl|hm
  · rw[if_pos rfl,Zu5 fun b hb=>(h.1 b hb).symm];omega
  · rw[if_neg (h.1 x hm),ih h.2 hm];omega
def KK2 (C:List Cr) (k:Nat) (R:TSt) (x:List Nat×List (Int×Int)):TSt:=ZC6 (tB C k x.1) (Kk2 (cB C k x.1) (mpP (-1) 1 x.2)) (ZC6 (tA C k x.1) (Kk2 (cA C k x.1) (mpP 1 1 x.2)) R)
def KA3 (C:List Cr) (c0:Nat):Nat->TSt
 |0=>[(List.range 26,Kk2 c0 [(0,1)])]
 |k+1=>(KA3 C c0 k).foldl (KK2 C k) []
structure RunAt (C:List Cr) (c0 k:Nat) (S:TSt):Prop where
 dist:ZY3 S
 worth:∀ T y,ZQ2 S T y=mS C c0 k T y
 all:∀ s,s<2 ^ k->∃ x∈S,x.1=kyS C s k
theorem Zv3 (C : List Cr) (c0 k : Nat) (S : TSt) (h : RunAt C c0 k S) : ∀ (L D : TSt) (R : TSt), D ++ L = S → ZY3 R → (∀ U y, ZQ2 R U y = XD1 C c0 k (fun T => decide (∃ x ∈ D, x.1 = T)) U y) → (∀ x ∈ D, (∃ z ∈ R, z.1 = tA C k x.1) ∧ (∃ z ∈ R, z.1 = tB C k x.1)) →
    ZY3 (L.foldl (KK2 C k) R)/\(∀ U y,ZQ2 (L.foldl (KK2 C k) R) U y=XD1 C c0 k (fun T=>decide (∃ x∈S,x.1=T)) U y)/\(∀ x∈S,(∃ z∈L.foldl (KK2 C k) R,z.1=tA C k x.1)/\(∃ z∈L.foldl (KK2 C k) R,z.1=tB C k x.1))
 |[],D,R,e,h1,h2,h3=>by
  rw[List.append_nil]at e
  subst e
  exact⟨h1,h2,h3⟩
 |x::L,D,R,e,h1,h2,h3=>by
  rw[List.foldl_cons]
  have hxS:x∈S:=by rw[<-e];simp
  have hdS:=h.dist
  rw[<-e]at hdS
  unfold ZY3 at hdS
  have hn:∀ z∈D,z.1≠x.1:=fun z hz=>(List.pairwise_append.1 hdS).2.2 z hz x (.head _)
  refine Zv3 C c0 k S h L (D++[x]) (KK2 C k R x) (by rw[List.append_assoc];exact e) (KC8 (KC8 h1)) (fun U y=>?_) (fun z hz=>?_)
  · unfold KK2
    rw[ZJ7,ZJ7,h2]
    have hw:coefL x.2=mS C c0 k x.1:=by funext y;rw[Zz3 h.dist hxS,h.worth]
    rw[XZ9,XZ9,ZK8,ZK8,hw]
    rw [Xx5 C c0 k U x.1 (dn := fun T => decide (∃ z ∈ D, z.1 = T)) (dn' := fun T => decide (∃ z ∈ D ++ [x], z.1 = T)) (decide_eq_false fun ⟨z, hz, q⟩ => hn z hz q) (fun s => by
     simp only[decide_eq_true_eq,List.mem_append,List.mem_singleton]
     constructor
     · rintro⟨z,hz|rfl,q⟩
       · exact Or.inl ⟨z,hz,q⟩
       · exact Or.inr q.symm
     · rintro(⟨z,hz,q⟩|q)
       · exact⟨z,Or.inl hz,q⟩
       · exact⟨x,Or.inr rfl,q.symm⟩) y]
  · unfold KK2
    rw[Qq3,Qq3,Qq3,Qq3]
    rcases List.mem_append.1 hz with hz|hz
    · have:=h3 z hz
      exact⟨Or.inr (Or.inr this.1),Or.inr (Or.inr this.2)⟩
    · obtain rfl:=List.mem_singleton.1 hz
      exact⟨Or.inr (Or.inl rfl),Or.inl rfl⟩
theorem Zq3 (C:List Cr) (c0:Nat):∀ k,RunAt C c0 k (KA3 C c0 k)
 |0=>by
  refine⟨by simp[KA3,ZY3],fun T y=>?_,fun s _=>⟨_,.head _,rfl⟩⟩
  have e1:coefL [((0:Int),(1:Int))]=QU9:=by funext y;exact ZV4 y
  show(if List.range 26=T then coefL (Kk2 c0 [(0,1)]) y else 0)+0=(0:Int)+(if List.range 26=T then shA 0 (dlN (c0+0) QU9) y else 0)
  rw[XZ9,e1,Zk1]
  simp
 |k+1=>by
  have h:=Zq3 C c0 k
  obtain⟨h1,h2,h3⟩:=Zv3 C c0 k _ h (KA3 C c0 k) [] [] rfl (by simp[ZY3]) (fun U y=>by rw[Xx6 C c0 k U (fun s _=>by simp)];rfl) (fun x hx=>by cases hx)
  refine⟨h1,fun T y=>?_,fun s hs=>?_⟩
  · show ZQ2 ((KA3 C c0 k).foldl (KK2 C k) []) T y=_
    rw[h2,ZZ9 C c0 k T fun s hs=>decide_eq_true (h.all s hs)]
  · show ∃ x∈(KA3 C c0 k).foldl (KK2 C k) [],_
    have hk:∃ x∈KA3 C c0 k,x.1=kyS C s k:=by
     by_cases hlt:s<2 ^ k
     · exact h.all s hlt
     · rw[Nat.pow_succ]at hs
       have e:s=2 ^ k+(s-2 ^ k):=by omega
       rw[e,ZX6 C (Nat.le_refl k)]
       exact h.all _ (by omega)
    obtain⟨x,hx,q⟩:=hk
    rw[XQ1,<-q]
    split
    · exact(h3 x hx).1
    · exact(h3 x hx).2
def JD7 (S:TSt):List (Int×Int):=S.foldl (fun r x=>Kh3 r x.2) []
theorem KC1 (C : List Cr) (c0 k : Nat) (S : TSt) (h : RunAt C c0 k S) : ∀ (L D : TSt) (p : List (Int × Int)), D ++ L = S → (∀ y, coefL p y = ZC7 C c0 k (fun T => decide (∃ x ∈ D, x.1 = T)) y) →
    ∀ y,coefL (L.foldl (fun r x=>Kh3 r x.2) p) y=ZC7 C c0 k (fun T=>decide (∃ x∈S,x.1=T)) y
 |[],D,p,e,h1=>by
  rw[List.append_nil]at e
  subst e
  exact h1
 |x::L,D,p,e,h1=>by
  intro y
  rw[List.foldl_cons]
  have hxS:x∈S:=by rw[<-e];simp
  have hdS:=h.dist
  rw[<-e]at hdS
  unfold ZY3 at hdS
  have hn:∀ z∈D,z.1≠x.1:=fun z hz=>(List.pairwise_append.1 hdS).2.2 z hz x (.head _)
  refine KC1 C c0 k S h L (D++[x]) _ (by rw[List.append_assoc];exact e) (fun y=>?_) y
  rw[XK5,h1,Zz3 h.dist hxS,h.worth]
  rw [Xj8 C c0 k x.1 (dn := fun T => decide (∃ z ∈ D, z.1 = T)) (dn' := fun T => decide (∃ z ∈ D ++ [x], z.1 = T)) (decide_eq_false fun ⟨z, hz, q⟩ => hn z hz q) (fun s => by
   simp only[decide_eq_true_eq,List.mem_append,List.mem_singleton]
   constructor
   · rintro⟨z,hz|rfl,q⟩
     · exact Or.inl ⟨z,hz,q⟩
     · exact Or.inr q.symm
   · rintro(⟨z,hz,q⟩|q)
     · exact⟨z,Or.inl hz,q⟩
     · exact⟨x,Or.inr rfl,q.symm⟩) y]
def jnE (C:List Cr) (lo:Nat):List (Int×Int):=(mpP (-(3*wrM C C.length)) (sgJ (wrM C C.length)) (JD7 (KA3 C (if C.length=0 then lo-1 else lo) C.length))).filter fun t=>t.2 != 0
theorem KQ7 (l:List (Int×Int)) (y:Int):coefL (l.filter fun t=>t.2 != 0) y=coefL l y:=by
 induction l with
 |nil=>rfl
 |cons t r ih=>
  rw[List.filter_cons]
  split
  · simp only[coefL,ih]
  · rename_i h
    have h0:t.2=0:=by simpa using h
    simp only[coefL,ih,h0]
    split<;>omega
theorem jnE_is {C:List Cr} {lo:Nat} (hm:QQ6 C (lo:Nat)=true) (h12:C.length<=12):jnF C lo=coefL (jnE C lo):=by
 funext y
 unfold jnE jnF
 rw[KQ7,Qg3,<-Xd6 hm rfl h12]
 have h:=KC1 C (if C.length=0 then lo-1 else lo) C.length _ (Zq3 C _ C.length) _ [] [] rfl (fun y=>by rw[Xj9 C _ _ (fun s _=>by simp)];rfl)
 have h2:=h (y - -(3*wrM C C.length))
 rw[XA3 C _ _ fun s hs=>decide_eq_true ((Zq3 C _ C.length).all s hs)]at h2
 unfold JD7
 rw[h2,show y - -(3*wrM C C.length)=y+3*wrM C C.length by omega]
end Go.Proofs.YtookanmeflbdlaaGreatDoor.Poly
/- The walk of knotworkkeep.same. -/
namespace Go.Proofs.YtookanmeflbdlaaGreatDoor.Poly
open Go.RowKit Go.Maps
set_option maxHeartbeats 1000000
set_option maxRecDepth 100000
theorem Zb0 (a1 a2 : Option Addr) (n1 n2 c1 c2 : Nat) (w : World) (h : n1 ≠ n2) :
    Calls Tryz.prog 10 #[.slice a1 n1 c1,.slice a2 n2 c2] w fun e w'=>e=.returned (.bool false)/\Below w.heap.size w w':=by
 have hb:((n1:Int) != (n2:Int))=true:=by rw[bne_iff_ne];omega
 go_enter Tryz.func10,Tryz.ntmps10
 go_wp2
 go_ret
 exact⟨rfl,Below.refl _ _⟩
theorem ZB8 (a1 a2 : Option Addr) (c1 c2 : Nat) (w : World) :
    Calls Tryz.prog 10 #[.slice a1 0 c1,.slice a2 0 c2] w fun e w'=>e=.returned (.bool true)/\Below w.heap.size w w':=by
 go_enter Tryz.func10,Tryz.ntmps10
 go_wp2
 go_loopw [5] (fun i wr=>i=.int .i64 0/\Below w.heap.size w wr) (fun _ _=>0)
 case atStart=>exact⟨rfl,Below.refl _ _⟩
 case round=>
  obtain⟨rfl,hb⟩:=hrel
  go_wp2
  go_ret
  exact⟨rfl,hb⟩
theorem ZB7 (b1 off1 c1 b2 off2 c2 n : Nat) (E1 C1 E2 C2 : Nat → Int) (w : World) (hn : n ≤ maxLen) (hb1 : b1 < w.heap.size) (hb2 : b2 < w.heap.size)
    (h1:∀ i,i<n->w.cell? ⟨b1,off1+i*2,none⟩=some (.int .i64 (E1 i))/\w.cell? ⟨b1,off1+i*2+1,none⟩=some (.int .i64 (C1 i)))
    (h2:∀ i,i<n->w.cell? ⟨b2,off2+i*2,none⟩=some (.int .i64 (E2 i))/\w.cell? ⟨b2,off2+i*2+1,none⟩=some (.int .i64 (C2 i))):
    Calls Tryz.prog 10 #[.slice (some ⟨b1,off1,none⟩) n c1,.slice (some ⟨b2,off2,none⟩) n c2] w fun e w'=>∃ r:Bool,e=.returned (.bool r)/\(r=true↔∀ i,i<n->E1 i=E2 i/\C1 i=C2 i)/\Below w.heap.size w w':=by
 unfold maxLen at hn
 have H1:Hid _:=h1
 have H2:Hid _:=h2
 clear h1 h2
 have hne:((n:Int) != (n:Int))=false:=by simp
 go_enter Tryz.func10,Tryz.ntmps10
 go_wp2
 go_loopw [5] (fun i wr=>∃ k:Nat,k<=n/\i=.int .i64 k/\Below w.heap.size w wr/\Hid (∀ i,i<k->E1 i=E2 i/\C1 i=C2 i)) (fun i _=>n-(intOf i).toNat)
 case atStart=>exact⟨0,Nat.zero_le _,rfl,Below.refl _ _,fun i hi=>absurd hi (Nat.not_lt_zero _)⟩
 case round=>
  obtain⟨k,hk,rfl,hb,hall⟩:=hrel
  by_cases hlt:k<n
  · have q0:=bcell hb hb1 (H1.out k hlt).1
    have q1:=bcell hb hb1 (H1.out k hlt).2
    have q2:=bcell hb hb2 (H2.out k hlt).1
    have q3:=bcell hb hb2 (H2.out k hlt).2
    generalize he1:E1 k=e1 at q0
    generalize hc1:C1 k=f1 at q1
    generalize he2:E2 k=e2 at q2
    generalize hc2:C2 k=f2 at q3
    have HH:Hid (E1 k=e1/\C1 k=f1/\E2 k=e2/\C2 k=f2):=⟨he1,hc1,he2,hc2⟩
    clear he1 hc1 he2 hc2
    have hcmp:=fun W=>JB6 e1 f1 e2 f2 W
    by_cases hsame:e1=e2/\f1=f2
    · have hv:(!(e1==e2&&f1==f2))=false:=by simp[hsame]
      rw[hv]at hcmp
      have HS:Hid (e1=e2/\f1=f2):=hsame
      clear hsame hv
      go_wp2
      go_quiet (fail)
      go_wp2
      go_roundw
      case rel => exact ⟨k + 1, by omega, by go_num, below_drewN hb _, fun i hi => by
       by_cases hik:i=k
       · subst hik
         obtain⟨r1,r2,r3,r4⟩:=HH.out
         exact⟨by rw[r1,r3];exact HS.out.1,by rw[r2,r4];exact HS.out.2⟩
       · exact hall.out i (by omega)⟩
      case measure=>simp[intOf];omega
    · have hv : (!(e1 == e2 && f1 == f2)) = true := by
        cases hh:(e1==e2&&f1==f2) with
        |false=>rfl
        |true=>exact absurd (by simpa using hh) hsame
      rw[hv]at hcmp
      have HS:Hid (¬ (e1=e2/\f1=f2)):=hsame
      clear hsame hv
      go_wp2
      go_quiet (fail)
      go_wp2
      go_ret
      refine⟨false,rfl,⟨fun h=>(by cases h),fun h=>?_⟩,below_drewN hb _⟩
      exfalso
      obtain⟨r1,r2,r3,r4⟩:=HH.out
      have:=h k hlt
      rw[r1,r2,r3,r4]at this
      exact HS.out this
  · go_wp2
    go_ret
    obtain rfl:k=n:=by omega
    exact⟨true,rfl,⟨fun _=>hall.out,fun _=>rfl⟩,hb⟩
theorem same_polyK (v1 v2 : Value) (l1 l2 : List (Int × Int)) (w : World) (hl : l1.length ≤ maxLen) (h1 : Poly w w.heap.size v1 l1) (h2 : Poly w w.heap.size v2 l2) :
    Calls Tryz.prog 10 #[v1,v2] w fun e w'=>e=.returned (.bool (decide (l1=l2)))/\Below w.heap.size w w':=by
 obtain⟨a1,c1,rfl,g1⟩:=h1.slice
 obtain⟨a2,c2,rfl,g2⟩:=h2.slice
 by_cases hne:l1.length=l2.length
 · rcases Nat.eq_zero_or_pos l1.length with h0|h0
   · have e1:l1=[]:=List.length_eq_zero_iff.1 h0
     have e2:l2=[]:=List.length_eq_zero_iff.1 (by omega)
     subst e1 e2
     exact ZB8 a1 a2 c1 c2 w
   · obtain⟨b1,off1,rfl,hb1,hT1⟩:=g1 h0
     obtain⟨b2,off2,rfl,hb2,hT2⟩:=g2 (by omega)
     rw[<-hne]
     refine(ZB7 b1 off1 c1 b2 off2 c2 l1.length _ _ _ _ w hl hb1 hb2 hT1 (fun i hi=>hT2 i (by omega))).mono ?_
     rintro e w' ⟨r,rfl,hr,hb⟩
     refine⟨ret_bool ?_,hb⟩
     by_cases h:l1=l2
     · rw[decide_eq_true h];exact(hr.2 (fun i _=>by rw[h];exact⟨rfl,rfl⟩)).symm
     · rw[decide_eq_false h]
       cases r
       · rfl
       · exact absurd (XC0 hne (hr.1 rfl)) h
 · refine(Zb0 a1 a2 l1.length l2.length c1 c2 w hne).mono ?_
   rintro e w' ⟨rfl,hb⟩
   refine⟨ret_bool ?_,hb⟩
   exact decide_eq_false (fun h=>hne (by rw[h]))
end Go.Proofs.YtookanmeflbdlaaGreatDoor.Poly
