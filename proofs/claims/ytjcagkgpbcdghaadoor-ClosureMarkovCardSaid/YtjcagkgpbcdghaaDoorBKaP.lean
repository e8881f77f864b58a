/- Several texts of the proof, one behind the other. -/
import Derived.Test.YtjcagkgpbcdghaaDoorBK7P
import Derived.Test.YtjcagkgpbcdghaaDoorF7P
import Derived.Deep.CutRange
import Derived.Test.YtjcagkgpbcdghaaDoorBKsP
import Derived.Test.YtjcagkgpbcdghaaDoorPA10P
import Derived.Test.YtjcagkgpbcdghaaDoorMoP
/- The walk of bracket.bracketOf. -/
namespace Go.Proofs.YtjcagkgpbcdghaaDoor.Poly
open Go.RowKit Go.Maps
set_option maxHeartbeats 8000000
set_option maxRecDepth 100000
theorem JG5 (C:List Cr) (c0:Nat) (T:List Nat):(if T=List.range 26 then dlN c0 QJ2 else fun _=>0)=mS C c0 0 T:=by
 funext y
 show _=0+(if List.range 26=T then shA 0 (dlN (c0+0) QJ2) y else 0)
 by_cases e:T=List.range 26
 · rw[if_pos e,if_pos e.symm,Kf5];simp
 · rw[if_neg e,if_neg (fun h=>e h.symm)];rfl
def lpN (C:List Cr) (lo:Nat):Nat:=if C.length=0 then lo-1 else lo
theorem ZK3 {C:List Cr} {l:Int} (hm:QX3 C l=true) {k s:Nat} (hk:k<C.length) (hs:s<4):(C.getD k Cr.none).arc s=(arN C k s:Nat):=by
 have:=QK6 hm hk hs
 unfold arN;omega
theorem Xq3 (a : Option Addr) (cap : Nat) (C : List Cr) (loops : Int) (lo gF cF gT cT : Nat) (w : World) (hm : QX3 C loops = true) (hlo : loops = (lo : Nat)) (h12 : C.length ≤ 12) (hC : Crs w w.heap.size (.slice a C.length cap) C) (hR : RingAt w) :
    Calls Tryd.prog 16 #[drV a cap C loops gF cF gT cT] w fun e w'=>∃ c:Nat,e=.returned (.map (some c))/\WkV w' w'.heap.size (.map (some c)) 185 92 (brS C lo)/\Below w.heap.size w w':=by
 obtain⟨s1,s2,s3,s4⟩:=QJ7 (QU6 hm)
 have HBR:Hid (JC4 C (lpN C lo) C.length=brS C lo):=Zd8 hm hlo h12
 have HM:=QQ1 hm
 have HC:=QQ1 hC
 have HR:=QQ1 hR
 have hl0:lpN C lo<=16:=by unfold lpN;split<;>omega
 have HLN:Hid (lpN C lo=if C.length=0 then lo-1 else lo):=(rfl:lpN C lo=if C.length=0 then lo-1 else lo)
 obtain⟨c0,hc0⟩:∃ X,lpN C lo=X:=⟨_,rfl⟩
 rw[hc0]at HBR hl0 HLN
 clear hc0 hm hC hR
 subst hlo
 have hlo0:C.length=0->1<=lo:=fun h=>by omega
 unfold drV
 obtain⟨V,hV⟩:∃ V,w.alloc (.cells #[.slice a C.length cap,.int .i64 (lo:Nat),.slice (some ⟨gF,0,none⟩) (2*C.length+1) cF,.slice (some ⟨gT,0,none⟩) (2*C.length+1) cT] 44)=V:=⟨_,rfl⟩
 have BV:Hid (Below w.heap.size w V):=(by rw[<-hV];exact(Below.refl _ _).alloc (Nat.le_refl _) _:Below w.heap.size w V)
 have kV:V.heap[w.heap.size]?=some (.cells #[.slice a C.length cap,.int .i64 (lo:Nat),.slice (some ⟨gF,0,none⟩) (2*C.length+1) cF,.slice (some ⟨gT,0,none⟩) (2*C.length+1) cT] 44 (0,0)):=by rw[<-hV];exact heap_alloc_new _ _
 have sV:w.heap.size<V.heap.size:=by rw[<-hV];simp
 have HV:=QQ1 hV
 have HKV:=QQ1 kV
 have d0:V.cell? ⟨w.heap.size,0,none⟩=some (.slice a C.length cap):=QQ0 kV rfl
 have d1:V.cell? ⟨w.heap.size,1,none⟩=some (.int .i64 (lo:Nat)):=QQ0 kV rfl
 have hmm:∀ w:World,(Instr.makeMap 81 none).run Tryd.prog w=.ok (.map (some w.heap.size)) (w.alloc (.map #[] 0)):=fun _=>rfl
 clear hV kV
 go_enter Tryd.func16,Tryd.ntmps16
 go_upto_region 1 with(fail)
 rw[HV.out]
 go_upto_if 15 with(fail)
 go_cut [3] from 4 (fun v3 W=>v3=.int .i64 (c0:Nat)/\Hid (W=V))
 case first=>
  by_cases h0:C.length=0
  · have h1:=hlo0 h0
    have hd:((C.length:Int)==0)=true:=by rw[beq_iff_eq];omega
    have hc:c0=lo-1:=by rw[HLN.out,if_pos h0]
    have hw:IntKind.i64.wrap ((lo:Int)-1)=((c0:Nat):Int):=by rw[IntWalk.i64_in _ (by omega)];omega
    clear h0 h1 hc
    go_wp2
    go_meet
    exact⟨rfl,(rfl:V=V)⟩
  · have hd:((C.length:Int)==0)=false:=by rw[beq_eq_false_iff_ne];omega
    have hc:c0=lo:=by rw[HLN.out,if_neg h0]
    subst hc
    clear h0
    go_wp2
    go_meet
    exact⟨rfl,(rfl:V=V)⟩
 case rest=>
  obtain⟨rfl,hcut⟩:=hcut
  obtain rfl:=hcut.out
  clear hcut d1 HV hlo0 HLN
  rename World=>V1
  obtain⟨R,hRR⟩:∃ R,R=List.range 26:=⟨_,rfl⟩
  have HRR:=QQ1 hRR
  have HGR:Hid (GoodK R):=(by rw[hRR];exact GoodK.first:GoodK R)
  have HUT:Hid (∀ W,Calls Tryd.prog 34 #[] W fun e w'=>e=.returned (.agg (tiA R))/\Below W.heap.size W w'):=fun W=>by rw[hRR];exact ZD2 W
  clear hRR
  have SM:=QQ1 (SumD.made V1 (V1.heap.size+1) (V1.heap.size+1) (2*c0) (2*(2*c0)+1))
  have BM:Hid (Below V1.heap.size V1 (V1.alloc (.map #[] 0))):=(Below.refl _ _).alloc (Nat.le_refl _) _
  have sM:(V1.alloc (.map #[] 0)).heap.size=V1.heap.size+1:=by simp
  have HSM:=QQ1 sM
  clear sM
  go_upto_region 5 with (first
   | (go_at_call 34; refine (HUT.out _).mono ?_; rintro e9 x2 ⟨rfl, hb2⟩
      have HX2:=QQ1 hb2
      clear hb2)
   | (go_at_call 35; refine (rings_any c0 _ hl0 (HR.out.on (BV.out.trans ((BM.out.trans (HX2.out.mono BM.out.size)).mono BV.out.size)) HR.out.lt)).mono ?_; rintro e9 x3 ⟨c3, rfl, hc3, hw3, hb3⟩
      have HX3:=QQ1 ((BM.out.trans (HX2.out.mono BM.out.size)).trans (hb3.mono (BM.out.trans (HX2.out.mono BM.out.size)).size))
      have h23:V1.heap.size+1<=x2.heap.size:=by have:=HX2.out.size;rw[HSM.out]at this;exact this
      have hbb:Below (V1.heap.size+1) (V1.alloc (.map #[] 0)) x3:=by rw[<-HSM.out];exact HX2.out.trans (hb3.mono HX2.out.size)
      have hS3:=(SM.out.on hbb (by omega)).mono (Nat.le_refl _) (Nat.le_trans h23 hb3.size) (Nat.le_refl _) (Nat.le_refl _) (Nat.le_refl _)
      obtain⟨x4,D4,hrun,hS4,hg4,hk4,-⟩:=hS3.put HGR.out (by omega) (by omega) (c:=c3) (f:=dlN c0 QJ2) (by omega) hw3
      unfold tiV at hrun
      have HS4:=QQ1 hS4
      have HG4:=QQ1 hg4
      have HK4:=QQ1 hk4
      clear hS3 hS4 hg4 hk4 hw3 hb3 hbb))
  have hs4:=HG4.out.size
  have B4:Hid (Below w.heap.size w x4):=(BV.out.trans (HX3.out.mono BV.out.size)).grown HG4.out (BV.out.trans (HX3.out.mono BV.out.size)).size (fun j hj=>by cases hj;omega)
  have S4:Hid (SumD x4 0 x4.heap.size V1.heap.size (2 ^ 0) (2*c0+5*0) (2*(2*c0+5*0)+1) (mS C c0 0) D4):=((HS4.out.mono (Nat.zero_le _) (Nat.le_refl _) (Nat.le_refl _) (Nat.le_refl _) (Nat.le_refl _)).congr fun T _=>by rw[HRR.out];exact JG5 C c0 T:SumD x4 0 x4.heap.size V1.heap.size (2 ^ 0) (2*c0+5*0) (2*(2*c0+5*0)+1) (mS C c0 0) D4)
  have C4:Hid (∀ s l,s<2 ^ 0->keyOf Tryd.prog 78 (tiV (kyS C s 0))=some l->Maps.has D4 l=true):=fun s l _ hl=>HK4.out l (by rw[HRR.out];exact hl)
  have d0:x4.cell? ⟨w.heap.size,0,none⟩=some (.slice a C.length cap):=QQ0 ((HG4.out.block _ (by have:=HX3.out.size;omega) (fun e=>by have:=Option.some.inj e;omega)).trans ((HX3.out.block _ sV).trans HKV.out)) rfl
  have sx4:w.heap.size<x4.heap.size:=by have:=HX3.out.size;omega
  clear HS4 HG4 HK4 hrun HX2 HX3 SM BM HSM HUT HGR HRR hc3 h23 hmm hs4
  go_wp2
  go_loopw [4,5,6,7,27] (fun v4 _ _ _ v27 wr=>∃ (i b:Nat) (D:DataW Unit),i<=C.length/\v27=.int .i64 (i:Nat)/\v4=.map (some b)/\Hid (SumD wr 0 wr.heap.size b (2 ^ i) (2*c0+5*i) (2*(2*c0+5*i)+1) (mS C c0 i) D)/\Hid (∀ s l,s<2 ^ i->keyOf Tryd.prog 78 (tiV (kyS C s i))=some l->Maps.has D l=true)/\Hid (Below w.heap.size w wr)) (fun _ _ _ _ v27 _=>C.length-(intOf v27).toNat)
  case atStart=>exact⟨0,V1.heap.size,D4,Nat.zero_le _,rfl,rfl,S4.out,C4.out,B4.out⟩
  case round=>
   clear S4 C4 B4 d0 sx4
   rename World=>W1
   obtain⟨i,b,D,hin,rfl,rfl,hSi,hCi,hb⟩:=hrel
   have hsW:=hb.out.size
   by_cases hil:i<C.length
   · obtain⟨a',cap',ea,-,kc⟩:=HC.out
     injection ea with ea1 ea2 ea3
     subst ea1 ea3
     obtain⟨bb,off,rfl,hbw,hCA⟩:=kc (by omega)
     obtain⟨e0,e1,e2,e3,e4⟩:=(hCA.on hb.out hbw) i hil
     have hbW:bb<W1.heap.size:=by omega
     have hii:(i:Int)<(C.length:Int):=by omega
     have x0:(C.getD i Cr.none).a=((arN C i 0:Nat):Int):=ZK3 HM.out hil (s:=0) (by omega)
     have x1:(C.getD i Cr.none).b=((arN C i 1:Nat):Int):=ZK3 HM.out hil (s:=1) (by omega)
     have x2:(C.getD i Cr.none).c=((arN C i 2:Nat):Int):=ZK3 HM.out hil (s:=2) (by omega)
     have x3:(C.getD i Cr.none).d=((arN C i 3:Nat):Int):=ZK3 HM.out hil (s:=3) (by omega)
     have y0:=QK6 HM.out hil (s:=0) (by omega)
     have y1:=QK6 HM.out hil (s:=1) (by omega)
     have y2:=QK6 HM.out hil (s:=2) (by omega)
     have y3:=QK6 HM.out hil (s:=3) (by omega)
     have hq0:arN C i 0<=24:=by omega
     have hq1:arN C i 1<=24:=by omega
     have hq2:arN C i 2<=24:=by omega
     have hq3:arN C i 3<=24:=by omega
     rw[x0]at e0
     rw[x1]at e1
     rw[x2]at e2
     rw[x3]at e3
     obtain⟨q0,z0⟩:∃ q,arN C i 0=q:=⟨_,rfl⟩
     obtain⟨q1,z1⟩:∃ q,arN C i 1=q:=⟨_,rfl⟩
     obtain⟨q2,z2⟩:∃ q,arN C i 2=q:=⟨_,rfl⟩
     obtain⟨q3,z3⟩:∃ q,arN C i 3=q:=⟨_,rfl⟩
     obtain⟨pl,zp⟩:∃ q,(C.getD i Cr.none).plus=q:=⟨_,rfl⟩
     have HQ:Hid (arN C i 0=q0/\arN C i 1=q1/\arN C i 2=q2/\arN C i 3=q3):=⟨z0,z1,z2,z3⟩
     rw[z0]at e0 hq0
     rw[z1]at e1 hq1
     rw[z2]at e2 hq2
     rw[z3]at e3 hq3
     rw[zp]at e4
     clear x0 x1 x2 x3 y0 y1 y2 y3 z0 z1 z2 z3 zp hCA kc ea2
     by_cases hi0:i=0
     · have hd:((i:Int)==0)=true:=by rw[beq_iff_eq];omega
       have HUN:Hid (∀ W,Below W1.heap.size W1 W->Calls Tryd.prog 37 #[.map (some b),.agg #[.int .i64 (25:Nat),.int .i64 (q1:Nat),.int .i64 (q2:Nat),.int .i64 (q3:Nat)]] W fun e w'=>∃ (c:Nat) (D':DataW Unit),e=.returned (.map (some c))/\SumD w' 0 w'.heap.size c (2*2 ^ i) (2*c0+5*i+5) (2*(2*c0+5*i+5)+1) (mS C c0 (i+1)) D'/\(∀ s l,s<2 ^ (i+1)->keyOf Tryd.prog 78 (tiV (kyS C s (i+1)))=some l->Maps.has D' l=true)/\Below W.heap.size W w'):=fun W hW=>XY6 C c0 i b (2 ^ i) (2*c0+5*i) D 25 q1 q2 q3 W hl0 (by omega) (Nat.le_trans (Nat.pow_le_pow_right (by omega) (by omega:i<=12)) (by decide)) rfl (by unfold arQ;rw[if_pos ⟨hi0,rfl⟩]) (by rw[<-HQ.out.2.1];unfold arQ;rw[if_neg (fun h=>by omega)]) (by rw[<-HQ.out.2.2.1];unfold arQ;rw[if_neg (fun h=>by omega)]) (by rw[<-HQ.out.2.2.2];unfold arQ;rw[if_neg (fun h=>by omega)]) (by omega) (by omega) (by omega) (by omega) (HR.out.on (hb.out.trans (hW.mono hb.out.size)) HR.out.lt) ((hSi.out.on hW hSi.out.own.lt).mono (Nat.le_refl _) hW.size (Nat.le_refl _) (Nat.le_refl _) (Nat.le_refl _)) hCi.out
       clear hi0
       go_wp2_with (first
        | (go_at_call 36; refine (Qh5 ⟨(q0 : Nat), (q1 : Nat), (q2 : Nat), (q3 : Nat), pl⟩ _).mono ?_; rintro e9 w5 ⟨rfl, hb5⟩
           have HB5:Hid (Below W1.heap.size W1 w5):=((Below.refl _ _).alloc (Nat.le_refl _) _).trans (hb5.mono (by simp))
           clear hb5)
        | (go_at_call 37; refine (HUN.out _ (HB5.out.alloc HB5.out.size _)).mono ?_; rintro e9 w6 ⟨c6, D6, rfl, hs6, hc6, hb6⟩
           have HS6:=QQ1 hs6
           have HC6:=QQ1 hc6
           have HB6:Hid (Below w.heap.size w w6):=hb.out.trans (((HB5.out.alloc HB5.out.size _).trans (hb6.mono (HB5.out.alloc HB5.out.size _).size)).mono hb.out.size)
           clear hs6 hc6 hb6))
       go_roundw
       case rel=>exact⟨i+1,c6,D6,by omega,by go_num,rfl,HS6.out.mono (Nat.le_refl _) (Nat.le_refl _) (by rw[Nat.pow_succ];omega) (by omega) (by omega),HC6.out,HB6.out⟩
       case measure=>simp only[intOf];omega
     · have hd:((i:Int)==0)=false:=by rw[beq_eq_false_iff_ne];omega
       have HUN:Hid (∀ W,Below W1.heap.size W1 W->Calls Tryd.prog 37 #[.map (some b),.agg #[.int .i64 (q0:Nat),.int .i64 (q1:Nat),.int .i64 (q2:Nat),.int .i64 (q3:Nat)]] W fun e w'=>∃ (c:Nat) (D':DataW Unit),e=.returned (.map (some c))/\SumD w' 0 w'.heap.size c (2*2 ^ i) (2*c0+5*i+5) (2*(2*c0+5*i+5)+1) (mS C c0 (i+1)) D'/\(∀ s l,s<2 ^ (i+1)->keyOf Tryd.prog 78 (tiV (kyS C s (i+1)))=some l->Maps.has D' l=true)/\Below W.heap.size W w'):=fun W hW=>XY6 C c0 i b (2 ^ i) (2*c0+5*i) D q0 q1 q2 q3 W hl0 (by omega) (Nat.le_trans (Nat.pow_le_pow_right (by omega) (by omega:i<=12)) (by decide)) rfl (by rw[<-HQ.out.1];unfold arQ;rw[if_neg (fun h=>hi0 h.1)]) (by rw[<-HQ.out.2.1];unfold arQ;rw[if_neg (fun h=>by omega)]) (by rw[<-HQ.out.2.2.1];unfold arQ;rw[if_neg (fun h=>by omega)]) (by rw[<-HQ.out.2.2.2];unfold arQ;rw[if_neg (fun h=>by omega)]) (by omega) (by omega) (by omega) (by omega) (HR.out.on (hb.out.trans (hW.mono hb.out.size)) HR.out.lt) ((hSi.out.on hW hSi.out.own.lt).mono (Nat.le_refl _) hW.size (Nat.le_refl _) (Nat.le_refl _) (Nat.le_refl _)) hCi.out
       clear hi0
       go_wp2_with (first
        | (go_at_call 36; refine (Qh5 ⟨(q0 : Nat), (q1 : Nat), (q2 : Nat), (q3 : Nat), pl⟩ _).mono ?_; rintro e9 w5 ⟨rfl, hb5⟩
           have HB5:Hid (Below W1.heap.size W1 w5):=((Below.refl _ _).alloc (Nat.le_refl _) _).trans (hb5.mono (by simp))
           clear hb5)
        | (go_at_call 37; refine (HUN.out _ (HB5.out.alloc HB5.out.size _)).mono ?_; rintro e9 w6 ⟨c6, D6, rfl, hs6, hc6, hb6⟩
           have HS6:=QQ1 hs6
           have HC6:=QQ1 hc6
           have HB6:Hid (Below w.heap.size w w6):=hb.out.trans (((HB5.out.alloc HB5.out.size _).trans (hb6.mono (HB5.out.alloc HB5.out.size _).size)).mono hb.out.size)
           clear hs6 hc6 hb6))
       go_roundw
       case rel=>exact⟨i+1,c6,D6,by omega,by go_num,rfl,HS6.out.mono (Nat.le_refl _) (Nat.le_refl _) (by rw[Nat.pow_succ];omega) (by omega) (by omega),HC6.out,HB6.out⟩
       case measure=>simp only[intOf];omega
   · obtain rfl:i=C.length:=by omega
     have hAL:=QQ1 (JV9 C c0 C.length b (2 ^ C.length) (2*c0+5*C.length) D W1 hl0 (by omega) (by omega) hSi.out hCi.out)
     go_wp2_with (go_at_call 38;refine hAL.out.mono ?_;rintro e9 w6 ⟨c6,rfl,hw6,hb6⟩)
     go_ret
     rw[HBR.out]at hw6
     exact⟨c6,rfl,hw6.mono (Nat.le_refl _) (by omega) (by omega),hb.out.trans (hb6.mono hsW)⟩
end Go.Proofs.YtjcagkgpbcdghaaDoor.Poly
/- The walk of ref.BracketOf. -/
namespace Go.Proofs.YtjcagkgpbcdghaaDoor.Poly
open Go.RowKit Go.Maps
def tmT (n:Nat) (y:Int) (r e:Nat):Int:=dlN (r-1) QJ2 (y-((e:Int)-n))
def gY (C:List Cr) (lo wide S R E:Nat):Int->Int:=fun y=>gP C lo wide S (tmT C.length y) R E
structure BoSt (w:World) (a:Option Addr) (cap:Nat) (C:List Cr) (lo M:Nat) (L:List Nat) (W:World):Prop where
 box:W.heap[w.heap.size]?=some (.cells #[.slice a C.length cap,.int .i64 (lo:Nat)] 27 (0,0))
 own:W.ownsRow (w.heap.size+1) 3 1 (.slice (some ⟨w.heap.size+1,0,none⟩) M M) M (QK9 L)
 bel:Below w.heap.size w W
theorem BoSt.any {w W W':World} {a:Option Addr} {cap:Nat} {C:List Cr} {lo M:Nat} {L:List Nat} (h:BoSt w a cap C lo M L W) (hb:Below W.heap.size W W'):BoSt w a cap C lo M L W':=
 ⟨(hb.block _ (Array.getElem?_eq_some_iff.1 h.box).1).trans h.box,Go.Proofs.YtjcagkgpbcdghaaDoor.own_any h.own (grown_below hb none),h.bel.trans (hb.mono h.bel.size)⟩
theorem BoSt.put {w W W':World} {a:Option Addr} {cap:Nat} {C:List Cr} {lo M:Nat} {L L':List Nat} (h:BoSt w a cap C lo M L W) (ho:W'.ownsRow (w.heap.size+1) 3 1 (.slice (some ⟨w.heap.size+1,0,none⟩) M M) M (QK9 L')) (hg:W.grownBy W' (some (w.heap.size+1))):BoSt w a cap C lo M L' W':=
 ⟨(hg.block _ (Array.getElem?_eq_some_iff.1 h.box).1 (fun e=>by have:=Option.some.inj e;omega)).trans h.box,ho,h.bel.grown hg h.bel.size (fun j hj=>by cases hj;omega)⟩
end Go.Proofs.YtjcagkgpbcdghaaDoor.Poly
/- The walks of ref.JonesOf, bracket.Bracket, bracket.Jones. -/
namespace Go.Proofs.YtjcagkgpbcdghaaDoor.Poly
open Go.RowKit Go.Maps
set_option maxHeartbeats 4000000
set_option maxRecDepth 100000
def sgJ (z:Int):Int:=if z%2=0 then 1 else -1
def jnF (C:List Cr) (lo:Nat):Int->Int:=fun y=>sgJ (wrM C C.length)*brS C lo (y+3*wrM C C.length)
theorem JD6 (z:Int):sgJ z=1∨sgJ z = -1:=by unfold sgJ;split<;>omega
theorem Jz6 {C:List Cr} {lo:Nat} (hm:QX3 C (lo:Nat)=true) (h12:C.length<=12) (y:Int):(brS C lo y).natAbs<=4503599627370496:=by
 obtain⟨s1,s2,s3,s4⟩:=QJ7 (QU6 hm)
 rw[<-Zd8 hm rfl h12]
 have h:=Zf1 C (if C.length=0 then lo-1 else lo) C.length (fun _=>true) y
 rw[ZY5 C _ _ fun _ _=>rfl]at h
 refine Nat.le_trans h ?_
 have:2 ^ ((if C.length=0 then lo-1 else lo)+3*C.length)<=2 ^ 52:=Nat.pow_le_pow_right (by omega) (by split<;>omega)
 exact Nat.le_trans this (by decide)
theorem KJ2 (c n K : Nat) (f : Int → Int) (w : World) (hK : K ≤ 1000) (h : WkV w w.heap.size (.map (some c)) n K f) :
    Calls Tryd.prog 19 #[.map (some c)] w fun e w'=>∃ u l,e=.returned u/\PolyC w' w'.heap.size u l/\Canon l f/\Below w.heap.size w w':=by
 rcases h with⟨e,-⟩|⟨b,D,e,hlt,ho,hk,hc⟩
 · cases e
 · cases e
   exact(ZQ8 c n D w ho (fun left acc hC=>Nat.le_trans (Xw3 hC K hk) (by omega))).mono fun e w' ⟨u,l,h1,h2,h3,h4⟩=>⟨u,l,h1,PolyC.ofRow h2,canon_congr h3 hc,h4⟩
theorem XK2 (hFR : QX8) (v : Value) (C : List Cr) (loops : Int) (lo : Nat) (w : World) (hl : loops = (lo : Nat)) (hn : noN C loops = 0) (h12 : C.length ≤ 12) (h : Crs w w.heap.size v C) (hR : RingAt w) :
    Calls Tryd.prog 9 #[.agg #[v,.int .i64 loops]] w fun e w'=>∃ v l,e=.returned (.tuple #[v,.int .i64 0])/\PolyC w' w'.heap.size v l/\Canon l (jnF C lo)/\Below w.heap.size w w':=by
 obtain⟨a,cap,rfl,-,-⟩:=id h
 have hm:=(QD6 hn).1
 have hm2:QX3 C (lo:Nat)=true:=by rw[<-hl];exact hm
 have HDR:=QQ1 (fun W hW=>KV2 hFR a cap C loops W hn h12 hW)
 have HBO:=QQ1 (fun gF cF gT cT W hW hRW=>Xq3 a cap C loops lo gF cF gT cT W hm hl h12 hW hRW)
 have HWR:=QQ1 (fun W hW=>ZB7 hFR (.slice a C.length cap) C loops W hn hW)
 have HBD:=QQ1 (fun y=>Jz6 hm2 h12 y)
 have hwb:=Xz5 C C.length
 have HJ:Hid (jnF C lo=fun y=>sgJ (wrM C C.length)*brS C lo (y+3*wrM C C.length)):=(rfl:jnF C lo=_)
 obtain⟨z,hz⟩:∃ z,wrM C C.length=z:=⟨_,rfl⟩
 rw[hz]at HWR hwb HJ
 have HCU:=QQ1 (fun W=>KV6 (-z) W (by omega))
 have en:IntKind.i64.wrap (-z) = -z:=IntWalk.i64_in _ (by omega)
 have HC:=QQ1 h
 have HR:=QQ1 hR
 obtain⟨W0,hW0⟩:∃ W0,w.alloc (.cells #[.slice a C.length cap,.int .i64 loops] 27)=W0:=⟨_,rfl⟩
 have HB1:Hid (Below w.heap.size w W0):=(by rw[<-hW0];exact(Below.refl _ _).alloc (Nat.le_refl _) _:Below w.heap.size w W0)
 have HT0:Hid (W0.heap[w.heap.size]?=some (.cells #[.slice a C.length cap,.int .i64 loops] 27 (0,0))):=(by rw[<-hW0];exact heap_alloc_new _ _:W0.heap[w.heap.size]?=some (.cells #[.slice a C.length cap,.int .i64 loops] 27 (0,0)))
 have HW0:=QQ1 hW0
 have HF:Hid (∀ W,Below W0.heap.size W0 W->W.cell? ⟨w.heap.size,0,none⟩=some (.slice a C.length cap)/\W.cell? ⟨w.heap.size,1,none⟩=some (.int .i64 loops)/\w.heap.size<W.heap.size):=fun W hW=>by
  have g0:=(hW.block _ (Array.getElem?_eq_some_iff.1 HT0.out).1).trans HT0.out
  exact⟨QQ0 g0 rfl,QQ0 g0 rfl,(Array.getElem?_eq_some_iff.1 g0).1⟩
 clear hn hm h hR hl hFR hz hW0 hm2
 unfold drV at HDR HBO
 go_enter Tryd.func9,Tryd.ntmps9
 go_upto_region 1 with(fail)
 rw[HW0.out]
 obtain⟨p0,p1,p2⟩:=HF.out W0 (Below.refl _ _)
 go_upto_region 4 with (first
  | (go_at_call 14; refine (HDR.out _ (HC.out.up HB1.out)).mono ?_; rintro e9 w2 ⟨⟨gF, cF, gT, cT, rfl⟩, hb2⟩
     have HB02:=QQ1 hb2
     clear hb2))
 clear p0 p1 p2
 obtain⟨X2,hX2⟩:∃ X,w2.alloc (.cells #[.slice a C.length cap,.int .i64 loops,.slice (some ⟨gF,0,none⟩) (2*C.length+1) cF,.slice (some ⟨gT,0,none⟩) (2*C.length+1) cT] 44)=X:=⟨_,rfl⟩
 rw[hX2]
 have BX2:Hid (Below W0.heap.size W0 X2):=(by rw[<-hX2];exact HB02.out.alloc HB02.out.size _:Below W0.heap.size W0 X2)
 have KX2:Hid (X2.heap[w2.heap.size]?=some (.cells #[.slice a C.length cap,.int .i64 loops,.slice (some ⟨gF,0,none⟩) (2*C.length+1) cF,.slice (some ⟨gT,0,none⟩) (2*C.length+1) cT] 44 (0,0))):=(by rw[<-hX2];exact heap_alloc_new _ _:X2.heap[w2.heap.size]?=some (.cells #[.slice a C.length cap,.int .i64 loops,.slice (some ⟨gF,0,none⟩) (2*C.length+1) cF,.slice (some ⟨gT,0,none⟩) (2*C.length+1) cT] 44 (0,0)))
 clear hX2
 obtain⟨p0,p1,p2⟩:=HF.out X2 BX2.out
 go_upto_region 7 with (first
  | (go_at_call 15; refine (HWR.out _ (HC.out.up (HB1.out.trans (BX2.out.mono HB1.out.size)))).mono ?_; rintro e9 w3 ⟨rfl, hb3⟩
     have HB23:=QQ1 hb3
     clear hb3))
 clear p0 p1 p2
 have k3:=(HB23.out.block _ (Array.getElem?_eq_some_iff.1 KX2.out).1).trans KX2.out
 have hl3:=(Array.getElem?_eq_some_iff.1 k3).1
 have r0:w3.cell? ⟨w2.heap.size,0,none⟩=some (.slice a C.length cap):=QQ0 k3 rfl
 have r1:w3.cell? ⟨w2.heap.size,1,none⟩=some (.int .i64 loops):=QQ0 k3 rfl
 have r2:w3.cell? ⟨w2.heap.size,2,none⟩=some (.slice (some ⟨gF,0,none⟩) (2*C.length+1) cF):=QQ0 k3 rfl
 have r3:w3.cell? ⟨w2.heap.size,3,none⟩=some (.slice (some ⟨gT,0,none⟩) (2*C.length+1) cT):=QQ0 k3 rfl
 have HB3:Hid (Below w.heap.size w w3):=HB1.out.trans ((BX2.out.trans (HB23.out.mono BX2.out.size)).mono HB1.out.size)
 clear k3
 go_wp2_with (first
  | (go_at_call 16; refine (HBO.out _ _ _ _ _ (HC.out.up HB3.out) (HR.out.any HB3.out)).mono ?_; rintro e9 w4 ⟨c4, rfl, hw4, hb4⟩
     have HB4:=QQ1 (HB3.out.trans (hb4.mono HB3.out.size))
     have HW4:=QQ1 hw4
     clear hb4 hw4)
  | (go_at_call 18; refine (HCU.out _).mono ?_; rintro e9 w5 ⟨c5, rfl, hw5, hb5⟩
     have HB5:=QQ1 (HB4.out.trans (hb5.mono HB4.out.size))
     have HW5:=QQ1 hw5
     have HP5:=QQ1 ((HW4.out.on hb5).mono hb5.size (Nat.le_refl _) (Nat.le_refl _))
     clear hb5 hw5)
  | (go_at_call 17; refine (QY7 (.map (some c4)) (.map (some c5)) 185 1 92 48 4503599627370496 1 [(3 * -z, if -z % 2 = 0 then 1 else -1)] (brS C lo) (coefL [(3 * -z, if -z % 2 = 0 then 1 else -1)]) _ (by decide) (by decide) (by decide) (by decide) HBD.out (fun y => by rw [QC9]; split <;> (try split) <;> decide) HP5.out HW5.out (by simp) (fun y => rfl)).mono ?_; rintro e9 w6 ⟨rfl, hw6, hb6⟩
     have HB6:=QQ1 (HB5.out.trans (hb6.mono HB5.out.size))
     have HW6:=QQ1 hw6
     clear hb6 hw6)
  | (go_at_call 19; refine (KJ2 _ _ _ _ _ (by decide) HW6.out).mono ?_; rintro e9 w7 ⟨u7, l7, rfl, hP7, hC7, hb7⟩
     have HP7:=QQ1 hP7
     have HC7:=QQ1 hC7
     have HB7:=QQ1 (HB6.out.trans (hb7.mono HB6.out.size))
     clear hb7 hP7 hC7))
 go_ret2
 refine⟨_,l7,rfl,HP7.out,canon_congr HC7.out fun y=>?_,HB7.out⟩
 rw[HJ.out]
 show(if -z%2=0 then(1:Int) else -1)*brS C lo (y-3 * -z)+0=sgJ z*brS C lo (y+3*z)
 unfold sgJ
 rw[show y-3 * -z=y+3*z by omega,Int.add_zero]
 congr 1
 by_cases e:z%2=0
 · rw[if_pos e,if_pos (by omega)]
 · rw[if_neg e,if_neg (by omega)]
end Go.Proofs.YtjcagkgpbcdghaaDoor.Poly
