/- Several texts of the proof, one behind the other. -/
import Derived.Test.YtookanmeflbdlaaGreatDoorSG2P
import Derived.Test.YtookanmeflbdlaaGreatDoorTkhP
import Derived.Test.YtookanmeflbdlaaGreatDoorTabP
/- The walks of sign.chart.corner, worth and places, and of sign.square. -/
namespace Go.Proofs.YtookanmeflbdlaaGreatDoor
open Go.RowKit Go.Maps
set_option maxHeartbeats 8000000
set_option maxRecDepth 100000
theorem JW3 {C:List Cr} {loops:Int} (hm:QQ6 C loops=true) (k s:Nat) (hk:k<C.length) (hs:s<4):(C.getD k Cr.none).arc s=((aAt C k s:Nat):Int):=by
 have h:=(QZ8 hm k s hk hs).2.2.1
 unfold aAt at h ⊢
 omega
theorem Xq9 {C:List Cr} {loops:Int} (hm:QQ6 C loops=true) (k s:Nat) (hk:k<C.length) (hs:s<4):cor C k s<(QQ3 C).length:=by
 have h:=QZ8 hm k s hk hs
 have u:=QC2 (p:=(C.getD k Cr.none).comes s) h.2.2.1 h.2.2.2
 exact Xq3 _ u.1 u.2
theorem ZA4 (a : Option Addr) (cap : Nat) (C : List Cr) (loops : Int) (gF cF gT cT gM gS : Nat) (L : List Int) (c t : Nat) (w : World) (hm : QQ6 C loops = true) (hc : c < C.length) (ht : t < 4) (h : Ch w a cap C gF gT gM gS L) :
    Calls Tryz.prog 80 #[chV a cap C loops gF cF gT cT gM gS,.int .i64 (c:Nat),.int .i64 (t:Nat)] w fun e w'=>e=.returned (.int .i64 (cor C c t:Nat))/\Below w.heap.size w w':=by
 obtain⟨s1,-,-,-⟩:=QX5 (QZ6 hm)
 have hes:=QZ8 hm c t hc ht
 have har:=JW3 hm c t hc ht
 have hmk:=QC2 (p:=(C.getD c Cr.none).comes t) hes.2.2.1 hes.2.2.2
 obtain⟨b,off,rfl,hbw,hCA⟩:=h.dr.cross (by omega)
 have HCH:=hidS h
 have HCR:=hidS hCA
 obtain⟨x,hx⟩:∃ x,mkD (aAt C c t) ((C.getD c Cr.none).comes t)=x:=⟨_,rfl⟩
 obtain⟨xA,hxA⟩:∃ q,aAt C c t=q:=⟨_,rfl⟩
 obtain⟨xB,hxB⟩:∃ q,(C.getD c Cr.none).comes t=q:=⟨_,rfl⟩
 have hdt:dtV x=.agg #[.int .i64 (xA:Nat),.bool xB]:=by unfold dtV;rw[<-hx,XW2 hes.2.2.1,XW1 hes.2.2.1,hxA,hxB]
 have hco:cor C c t=fo C x:=by unfold cor;rw[hx]
 obtain⟨q,hq⟩:∃ q,cor C c t=q:=⟨_,rfl⟩
 rw[hx]at hmk
 have HLV:=hidS (fun(vF vT:Value) (W:World) (hW:Below w.heap.size w W)=>QA6 b off cap C loops vF vT c t W hc ht (Nat.lt_of_lt_of_le hbw hW.size) (hCA.on hW hbw))
 rw[har,hxA,hxB]at HLV
 have HLK:Hid (∀ W,Below w.heap.size w W->(Instr.lookup 73 (.map (some gM)) (.agg #[.int .i64 (xA:Nat),.bool xB]) false).run Tryz.prog W=.ok (.int .i64 (q:Nat)) W):=fun W hW=>by
  have l:=(h.on hW).mp.look x hmk.1 hmk.2 (by omega)
  rw[hdt,<-hco,hq]at l
  exact l
 rw[hq]
 unfold chV
 obtain⟨F,hF⟩:∃ F,(QQ3 C).length=F:=⟨_,rfl⟩
 rw[hF]
 obtain⟨V,hV⟩:∃ V,w.alloc (.cells #[.slice (some ⟨b,off,none⟩) C.length cap,.int .i64 loops,.slice (some ⟨gF,0,none⟩) (2*C.length+1) cF,.slice (some ⟨gT,0,none⟩) (2*C.length+1) cT,.map (some gM),.slice (some ⟨gS,0,none⟩) F F] 75)=V:=⟨_,rfl⟩
 have hB:Below w.heap.size w V:=by rw[<-hV];exact(Below.refl _ _).alloc (Nat.le_refl _) _
 have k0:V.heap[w.heap.size]?=some (.cells #[.slice (some ⟨b,off,none⟩) C.length cap,.int .i64 loops,.slice (some ⟨gF,0,none⟩) (2*C.length+1) cF,.slice (some ⟨gT,0,none⟩) (2*C.length+1) cT,.map (some gM),.slice (some ⟨gS,0,none⟩) F F] 75 (0,0)):=by rw[<-hV];exact alloc_at rfl
 have lV:w.heap.size<V.heap.size:=by rw[<-hV];simp
 have HV:=hidS hV
 have HB:=hidS hB
 have HSV:Hid (∀ W,Below V.heap.size V W->(fun X:World=>X.cell? ⟨w.heap.size,0,none⟩=some (.slice (some ⟨b,off,none⟩) C.length cap)/\X.cell? ⟨w.heap.size,1,none⟩=some (.int .i64 loops)/\X.cell? ⟨w.heap.size,2,none⟩=some (.slice (some ⟨gF,0,none⟩) (2*C.length+1) cF)/\X.cell? ⟨w.heap.size,3,none⟩=some (.slice (some ⟨gT,0,none⟩) (2*C.length+1) cT)/\X.cell? ⟨w.heap.size,4,none⟩=some (.map (some gM))/\(Instr.lookup 73 (.map (some gM)) (.agg #[.int .i64 (xA:Nat),.bool xB]) false).run Tryz.prog X=.ok (.int .i64 (q:Nat)) X) W):=fun W hW=>by
  have k:=(hW.block _ lV).trans k0
  exact⟨QQ0 k rfl,QQ0 k rfl,QQ0 k rfl,QQ0 k rfl,QQ0 k rfl,HLK.out W (HB.out.trans (hW.mono (by omega)))⟩
 have HDV:Hid (Below V.heap.size V V.drew):=(Below.refl _ _).drew
 clear h hCA hx hxA hxB hdt hco hq hmk hes har hV hB k0 hF
 go_enter Tryz.func80,Tryz.ntmps80
 go_upto_region 1 with(fail)
 rw[HV.out]
 refine rhd HSV HDV.out (fun hHeld=>?_)
 refine tk 0 (h:=?_)
 refine tk 1 (h:=?_)
 refine tk 2 (h:=?_)
 refine tk 3 (h:=?_)
 refine tk 4 (h:=?_)
 refine tk 5 (h:=?_)
 refine tk 6 (h:=?_)
 try simp only[Act.put]
 clear hHeld
 refine rd1 7 (fun K hK=>?_)
 go_simp
 go_wp2_with (go_at_call 92;refine(HLV.out _ _ _ (HB.out.trans (HDV.out.mono (by omega)))).mono ?_;rintro e9 w2 ⟨rfl,hb2⟩)
 have HB2:=hidS (HDV.out.trans (hb2.mono HDV.out.size))
 clear hb2
 refine hK.out _ _ (HSV.out _ HB2.out) (fun hHeld=>?_)
 clear hK K
 refine tq 15 8 (h:=?_)
 refine tq 6 9 (h:=?_)
 simp only[List.setIfInBounds_toArray,List.set_cons_succ,List.set_cons_zero]
 refine wpAnyH_done (by kernel_rfl) ?_ _
 clear hHeld
 go_wp2
 go_ret
 exact⟨by first|rfl|simp,HB.out.trans (HB2.out.mono (by omega))⟩
end Go.Proofs.YtookanmeflbdlaaGreatDoor
/- The walk of sign.chart.worth. -/
namespace Go.Proofs.YtookanmeflbdlaaGreatDoor
open Go.RowKit Go.Maps
set_option maxHeartbeats 8000000
set_option maxRecDepth 100000
theorem Kw7 (s:Nat->Nat) (F f:Nat) (h:f<F):(shL s F).getD f 0=((s f:Nat):Int):=by
 simp[shL,List.getD,h]
theorem Kw6 (s:Nat->Nat) (F:Nat):(shL s F).length=F:=by simp[shL]
theorem Ch.shade {w:World} {a:Option Addr} {cap:Nat} {C:List Cr} {gF gT gM gS:Nat} {s:Nat->Nat} (h:Ch w a cap C gF gT gM gS (shL s (QQ3 C).length)) (f:Nat) (hf:f<(QQ3 C).length):w.cell? ⟨gS,f,none⟩=some (.int .i64 (s f:Nat)):=by
 rw[h.sh.cellAt f (by omega),QZ1 _ f (by rw[Kw6];exact hf),Kw7 s _ f hf]
def woM (C:List Cr) (s:Nat->Nat) (c:Nat) (sh:Nat):Int×Nat×Nat:=if s (cor C c 1)=sh then(1,cor C c 1,cor C c 3) else(-1,cor C c 0,cor C c 2)
theorem Zu1 (a : Option Addr) (cap : Nat) (C : List Cr) (loops : Int) (gF cF gT cT gM gS : Nat) (s : Nat → Nat) (c sh : Nat) (w : World) (hm : QQ6 C loops = true) (hc : c < C.length) (h : Ch w a cap C gF gT gM gS (shL s (QQ3 C).length)) :
    Calls Tryz.prog 59 #[chV a cap C loops gF cF gT cT gM gS,.int .i64 (c:Nat),.int .i64 (sh:Nat)] w fun e w'=>e=.returned (.tuple #[.int .i64 (woM C s c sh).1,.int .i64 ((woM C s c sh).2.1:Nat),.int .i64 ((woM C s c sh).2.2:Nat)])/\Below w.heap.size w w':=by
 obtain⟨F,hF⟩:∃ F,(QQ3 C).length=F:=⟨_,rfl⟩
 have HCO:=hidS (fun(t:Nat) (ht:t<4) (W:World) (hW:Below w.heap.size w W)=>ZA4 a cap C loops gF cF gT cT gM gS _ c t W hm hc ht (h.on hW))
 unfold chV at HCO
 rw[hF]at HCO
 have h1:=Xq9 hm c 1 hc (by decide)
 have HSD:=hidS (fun(W:World) (hW:Below w.heap.size w W)=>(h.on hW).shade (cor C c 1) h1)
 obtain⟨q0,e0⟩:∃ q,cor C c 0=q:=⟨_,rfl⟩
 obtain⟨q1,e1⟩:∃ q,cor C c 1=q:=⟨_,rfl⟩
 obtain⟨q2,e2⟩:∃ q,cor C c 2=q:=⟨_,rfl⟩
 obtain⟨q3,e3⟩:∃ q,cor C c 3=q:=⟨_,rfl⟩
 have H0:=hidS (HCO.out 0 (by decide))
 have H1:=hidS (HCO.out 1 (by decide))
 have H2:=hidS (HCO.out 2 (by decide))
 have H3:=hidS (HCO.out 3 (by decide))
 rw[e0]at H0
 rw[e1]at H1
 rw[e2]at H2
 rw[e3]at H3
 have hgl:=h.lt.2.2.2.1
 obtain⟨wo,hwo⟩:∃ wo,woM C s c sh=wo:=⟨_,rfl⟩
 have HWO : Hid ((s q1 = sh → wo = (1, q1, q3)) ∧ (s q1 ≠ sh → wo = (-1, q0, q2))) := (by
  rw[<-hwo]
  unfold woM
  rw[e0,e1,e2,e3]
  exact⟨fun h=>by rw[if_pos h],fun h=>by rw[if_neg h]⟩)
 rw[hwo]
 obtain⟨wv,f1,f2⟩:=wo
 dsimp only
 clear hwo
 rw[e1]at HSD h1
 rw[hF]at h1
 have hqi:(q1:Int)<(F:Int):=by omega
 unfold chV
 rw[hF]
 obtain⟨V,hV⟩:∃ V,w.alloc (.cells #[.slice a C.length cap,.int .i64 loops,.slice (some ⟨gF,0,none⟩) (2*C.length+1) cF,.slice (some ⟨gT,0,none⟩) (2*C.length+1) cT,.map (some gM),.slice (some ⟨gS,0,none⟩) F F] 75)=V:=⟨_,rfl⟩
 have hB:Below w.heap.size w V:=by rw[<-hV];exact(Below.refl _ _).alloc (Nat.le_refl _) _
 have k0:V.heap[w.heap.size]?=some (.cells #[.slice a C.length cap,.int .i64 loops,.slice (some ⟨gF,0,none⟩) (2*C.length+1) cF,.slice (some ⟨gT,0,none⟩) (2*C.length+1) cT,.map (some gM),.slice (some ⟨gS,0,none⟩) F F] 75 (0,0)):=by rw[<-hV];exact alloc_at rfl
 have lV:w.heap.size<V.heap.size:=by rw[<-hV];simp
 have HV:=hidS hV
 have HB:=hidS hB
 have HSV:Hid (∀ W,Below V.heap.size V W->(fun X:World=>X.cell? ⟨w.heap.size,0,none⟩=some (.slice a C.length cap)/\X.cell? ⟨w.heap.size,1,none⟩=some (.int .i64 loops)/\X.cell? ⟨w.heap.size,2,none⟩=some (.slice (some ⟨gF,0,none⟩) (2*C.length+1) cF)/\X.cell? ⟨w.heap.size,3,none⟩=some (.slice (some ⟨gT,0,none⟩) (2*C.length+1) cT)/\X.cell? ⟨w.heap.size,4,none⟩=some (.map (some gM))/\X.cell? ⟨w.heap.size,5,none⟩=some (.slice (some ⟨gS,0,none⟩) F F)) W):=fun W hW=>by
  have k:=(hW.block _ lV).trans k0
  exact⟨QQ0 k rfl,QQ0 k rfl,QQ0 k rfl,QQ0 k rfl,QQ0 k rfl,QQ0 k rfl⟩
 have c0:=HSV.out V (Below.refl _ _)
 clear h hV hB k0 hF HCO
 go_enter Tryz.func59,Tryz.ntmps59
 go_upto_region 1 with(fail)
 rw[HV.out]
 go_upto_region 2 with(go_at_call 80;refine(H1.out _ HB.out).mono ?_;rintro e9 w2 ⟨rfl,hb2⟩;have HB2:=hidS hb2;clear hb2 c0)
 have c0:=HSV.out w2 HB2.out
 have hw2:=HB.out.trans (HB2.out.mono (by omega))
 have c8:=HSD.out w2 hw2
 have l2:w.heap.size<w2.heap.size:=by have:=HB2.out.size;omega
 have ls:gS<w2.heap.size:=by omega
 have HW2:=hidS hw2
 clear hw2
 by_cases hz:s q1=sh
 · have he:=HWO.out.1 hz
   have hze:((s q1:Int)==(sh:Int))=true:=by rw[hz];simp
   have HE:=hidS he
   clear hz he
   go_wp2_with (go_at_call 80;refine(H3.out _ HW2.out).mono ?_;rintro e9 w3 ⟨rfl,hb3⟩;have HB3:=hidS hb3;clear hb3)
   refine bodyPost_ret (v:=.tuple #[.int .i64 1,.int .i64 (q1:Nat),.int .i64 (q3:Nat)]) (by simp[results,Tryz.results59,go_sem]) rfl ?_
   obtain⟨rfl,rfl,rfl⟩:wv=_/\f1=_/\f2=_:=by have h:=HE.out;rw[Prod.mk.injEq,Prod.mk.injEq]at h;exact h
   exact⟨by first|rfl|simp,HW2.out.trans (HB3.out.mono HW2.out.size)⟩
 · have he:=HWO.out.2 hz
   have hze:((s q1:Int)==(sh:Int))=false:=beq_eq_false_iff_ne.2 (by omega)
   have HE:=hidS he
   clear hz he
   have HDV:Hid (Below w2.heap.size w2 w2.drew):=(Below.refl _ _).drew
   have HS2:Hid (∀ W,Below w2.heap.size w2 W->(fun X:World=>X.cell? ⟨w.heap.size,0,none⟩=some (.slice a C.length cap)/\X.cell? ⟨w.heap.size,1,none⟩=some (.int .i64 loops)/\X.cell? ⟨w.heap.size,2,none⟩=some (.slice (some ⟨gF,0,none⟩) (2*C.length+1) cF)/\X.cell? ⟨w.heap.size,3,none⟩=some (.slice (some ⟨gT,0,none⟩) (2*C.length+1) cT)/\X.cell? ⟨w.heap.size,4,none⟩=some (.map (some gM))/\X.cell? ⟨w.heap.size,5,none⟩=some (.slice (some ⟨gS,0,none⟩) F F)) W):=fun W hW=>HSV.out W (HB2.out.trans (hW.mono HB2.out.size))
   go_upto_region 4 with(fail)
   clear c0 c8
   refine rhd HS2 HDV.out (fun hHeld=>?_)
   refine tk 0 (h:=?_)
   refine tk 1 (h:=?_)
   refine tk 3 (h:=?_)
   refine tk 4 (h:=?_)
   try simp only[Act.put]
   clear hHeld
   refine rd1 2 (fun K hK=>?_)
   go_simp
   go_wp2_with (go_at_call 80;refine(H0.out _ (HW2.out.trans (HDV.out.mono HW2.out.size))).mono ?_;rintro e9 w3 ⟨rfl,hb3⟩)
   have HB3:=hidS (HDV.out.trans (hb3.mono HDV.out.size))
   clear hb3
   refine hK.out _ _ (HS2.out _ HB3.out) (fun hHeld=>?_)
   clear hK K hHeld
   try simp only[Act.put]
   refine rd1 5 (fun K hK=>?_)
   go_simp
   go_wp2_with (go_at_call 80;refine(H2.out _ (HW2.out.trans (HB3.out.mono HW2.out.size))).mono ?_;rintro e9 w4 ⟨rfl,hb4⟩)
   have HB4:=hidS (HB3.out.trans (hb4.mono HB3.out.size))
   clear hb4
   refine hK.out _ _ (HS2.out _ HB4.out) (fun hHeld=>?_)
   clear hK K
   refine tq 6 6 (h:=?_)
   refine tq 7 7 (h:=?_)
   refine tq 8 8 (h:=?_)
   simp only[List.setIfInBounds_toArray,List.set_cons_succ,List.set_cons_zero]
   refine wpAnyH_done (by kernel_rfl) ?_ _
   clear hHeld
   go_wp2
   refine bodyPost_ret (v:=.tuple #[.int .i64 (-1),.int .i64 (q0:Nat),.int .i64 (q2:Nat)]) (by simp[results,Tryz.results59,go_sem]) rfl ?_
   obtain⟨rfl,rfl,rfl⟩:wv=_/\f1=_/\f2=_:=by have h:=HE.out;rw[Prod.mk.injEq,Prod.mk.injEq]at h;exact h
   exact⟨by first|rfl|simp,HW2.out.trans (HB4.out.mono HW2.out.size)⟩
end Go.Proofs.YtookanmeflbdlaaGreatDoor
/- The walks of sign.chart.places and of sign.square. -/
namespace Go.Proofs.YtookanmeflbdlaaGreatDoor
open Go.RowKit Go.Maps
set_option maxHeartbeats 8000000
set_option maxRecDepth 100000
def cnS (s:Nat->Nat) (sh f:Nat):Nat:=(List.range f).countP fun g=>decide (s g=sh)
theorem XA2 (s:Nat->Nat) (sh f:Nat):cnS s sh (f+1)=cnS s sh f+(if s f=sh then 1 else 0):=by
 unfold cnS
 rw[List.range_succ,List.countP_append,List.countP_singleton]
 by_cases h:s f=sh<;>simp[h]
theorem Zx5 (s:Nat->Nat) (sh:Nat):∀ f,cnS s sh f<=f
 |0=>Nat.le_refl _
 |f+1=>by
  have h:=Zx5 s sh f
  rw[XA2]
  split<;>omega
theorem JW2 (s:Nat->Nat) (sh:Nat) {f F:Nat} (hf:f<F) (h:s f=sh):cnS s sh f<cnS s sh F:=by
 induction F with
 |zero=>omega
 |succ F ih=>
  rw[XA2]
  rcases Nat.lt_or_ge f F with q|q
  · have:=ih q
    omega
  · have e:f=F:=by omega
    subst e
    rw[if_pos h]
    omega
def plF (s:Nat->Nat) (sh f:Nat):Int:=if s f=sh then((cnS s sh f:Nat):Int) else 0
theorem ZF4 (a : Option Addr) (cap : Nat) (C : List Cr) (loops : Int) (gF cF gT cT gM gS : Nat) (s : Nat → Nat) (sh : Nat) (w : World) (hF9 : (QQ3 C).length ≤ 18) (h : Ch w a cap C gF gT gM gS (shL s (QQ3 C).length)) :
    Calls Tryz.prog 57 #[chV a cap C loops gF cF gT cT gM gS,.int .i64 (sh:Nat)] w fun e w'=>∃ gP,e=.returned (.tuple #[.slice (some ⟨gP,0,none⟩) (QQ3 C).length (QQ3 C).length,.int .i64 (cnS s sh (QQ3 C).length:Nat)])/\w'.ownsRow w.heap.size 3 1 (.slice (some ⟨gP,0,none⟩) (QQ3 C).length (QQ3 C).length) (QQ3 C).length (QX2 (QF8 (QQ3 C).length (plF s sh)))/\Below w.heap.size w w':=by
 have HSD:=hidS (fun(W:World) (hW:Below w.heap.size w W)=>(h.on hW).shade)
 have hgl:=h.lt.2.2.2.1
 unfold chV
 obtain⟨F,hF⟩:∃ F,(QQ3 C).length=F:=⟨_,rfl⟩
 rw[hF]at HSD hF9 ⊢
 obtain⟨i2,hk,hx0,hx1,hx2⟩:=info_parts Qg7
 obtain⟨V,hV⟩:∃ V,w.alloc (.cells #[.slice a C.length cap,.int .i64 loops,.slice (some ⟨gF,0,none⟩) (2*C.length+1) cF,.slice (some ⟨gT,0,none⟩) (2*C.length+1) cT,.map (some gM),.slice (some ⟨gS,0,none⟩) F F] 75)=V:=⟨_,rfl⟩
 have hB:Below w.heap.size w V:=by rw[<-hV];exact(Below.refl _ _).alloc (Nat.le_refl _) _
 have k0:V.heap[w.heap.size]?=some (.cells #[.slice a C.length cap,.int .i64 loops,.slice (some ⟨gF,0,none⟩) (2*C.length+1) cF,.slice (some ⟨gT,0,none⟩) (2*C.length+1) cT,.map (some gM),.slice (some ⟨gS,0,none⟩) F F] 75 (0,0)):=by rw[<-hV];exact alloc_at rfl
 have lV:w.heap.size<V.heap.size:=by rw[<-hV];simp
 have sV:w.heap.size+1<=V.heap.size:=by rw[<-hV];simp
 have c5:V.cell? ⟨w.heap.size,5,none⟩=some (.slice (some ⟨gS,0,none⟩) F F):=QQ0 k0 rfl
 have HV:=hidS hV
 have HB:=hidS hB
 have HK0:=hidS k0
 clear h hV hB k0 hF
 go_enter Tryz.func57,Tryz.ntmps57
 go_upto_region 1 with(fail)
 rw[HV.out]
 go_upto_region 2 with (first
  | (at_make; refine wpList_make_full _ rfl _ _ 67 rfl V.heap.size 3 i2 (.int .i64 0) 1 Tryz.underlying67 hk hx0 hx1 .i64 .i64 _ _ F rfl rfl rfl rfl (by rw [hx2]; omega) (by unfold maxLen; omega) (by simp) ?_; intro w4 hrow4 hg4
     have HR4:=hidS hrow4
     have HG4:=hidS hg4
     have s4:=hg4.size
     clear hrow4 hg4))
 obtain⟨gP,hgP⟩:∃ gP,V.heap.size=gP:=⟨_,rfl⟩
 rw[hgP]at HR4 ⊢
 have k4:=(HG4.out.block _ lV (by simp)).trans HK0.out
 have c4:w4.cell? ⟨w.heap.size,5,none⟩=some (.slice (some ⟨gS,0,none⟩) F F):=QQ0 k4 rfl
 have l4:w.heap.size<w4.heap.size:=by omega
 have HB4:Hid (Below w.heap.size w w4):=HB.out.grown HG4.out (by omega) (fun q hq=>by cases hq)
 have hgp4:=(HR4.out.lt gP rfl).2
 have HS0 : Hid (∃ M : List Int, M.length = F ∧ (∀ f, f < 0 → M.getD f 0 = plF s sh f) ∧ (∀ f, M.getD f 0 = 0 ∨ f < 0) ∧ w4.ownsRow w.heap.size 3 1 (.slice (some ⟨gP, 0, none⟩) F F) F (QX2 M) ∧ Below w.heap.size w w4 ∧ w4.heap.size ≤ w4.heap.size) := (by
  have hr:=HR4.out
  rw[XB0]at hr
  exact ⟨_, by simp, fun f hf => absurd hf (Nat.not_lt_zero _), fun f => Or.inl (by
   rw[List.getD_eq_getElem?_getD,List.getElem?_replicate]
   split<;>rfl),QZ7 hr (by omega),HB4.out,Nat.le_refl _⟩)
 clear c5 k4
 go_upto_region 3 with(fail)
 clear c4
 go_wp2
 go_loopw [5,15] (fun v5 v15 wr=>∃ i:Nat,i<=F/\v15=.int .i64 (i:Nat)/\v5=.int .i64 (cnS s sh i:Nat)/\Hid (∃ M:List Int,M.length=F/\(∀ f,f<i->M.getD f 0=plF s sh f)/\(∀ f,M.getD f 0=0∨f<i)/\wr.ownsRow w.heap.size 3 1 (.slice (some ⟨gP,0,none⟩) F F) F (QX2 M)/\Below w.heap.size w wr/\w4.heap.size<=wr.heap.size)) (fun _ v15 _=>F-(intOf v15).toNat)
 case atStart=>exact⟨0,Nat.zero_le _,rfl,rfl,HS0⟩
 case round=>
  clear HS0
  rename World=>W1
  obtain⟨i,hi,rfl,rfl,hin⟩:=hrel
  by_cases hil:i<F
  · have hii:(i:Int)<(F:Int):=by omega
    have hii0:(0:Int)<=(i:Int):=by omega
    have hadd:IntKind.i64.wrap ((i:Int)+1)=(i:Int)+1:=IntWalk.i64_in _ (by omega)
    obtain⟨M,hMl,hMi,hM0,hMo,hMb,hMs⟩:=hin.out
    obtain⟨n,hn⟩:∃ n,cnS s sh i=n:=⟨_,rfl⟩
    have hnx:=XA2 s sh i
    have hnle:=Zx5 s sh i
    rw[hn]at hnx hnle ⊢
    have hadd2:IntKind.i64.wrap ((n:Int)+1)=(n:Int)+1:=IntWalk.i64_in _ (by omega)
    have c8:=HSD.out W1 hMb i hil
    have ls:gS<W1.heap.size:=by have:=hMb.size;omega
    obtain⟨z,hz⟩:∃ z,s i=z:=⟨_,rfl⟩
    rw[hz]at c8
    have HMl:=hidS hMl
    have HMi:=hidS hMi
    have HM0:=hidS hM0
    have HMb:=hidS hMb
    have HMo:=hidS hMo
    have HMs:=hidS hMs
    have HNX:=hidS hnx
    have HZ:=hidS hz
    have HN:=hidS hn
    by_cases hzs:z=sh
    · have hze:((z:Int)==(sh:Int))=true:=by rw[hzs];simp
      have lp:gP<W1.heap.size:=(hMo.lt gP rfl).2
      have y0:W1.cell? ⟨gP,i,none⟩=some (.int .i64 (M.getD i 0)):=(hMo.cellAt i (by omega)).trans (QZ1 M i (by omega))
      have z0:W1.frozen? ⟨gP,i,none⟩=false:=hMo.frozenAt i
      have hst:=hMo.stored i (.int .i64 (n:Nat))
      rw[QJ1]at hst
      have HNW : Hid (∃ M' : List Int, M'.length = F ∧ (∀ f, f < i + 1 → M'.getD f 0 = plF s sh f) ∧ (∀ f, M'.getD f 0 = 0 ∨ f < i + 1) ∧ (W1.setCell ⟨gP, i, none⟩ (.int .i64 (n : Nat))).ownsRow w.heap.size 3 1 (.slice (some ⟨gP, 0, none⟩) F F) F (QX2 M') ∧ Below w.heap.size w (W1.setCell ⟨gP, i, none⟩ (.int .i64 (n : Nat))) ∧ w4.heap.size ≤ (W1.setCell ⟨gP, i, none⟩ (.int .i64 (n : Nat))).heap.size) := (by
       refine⟨M.set i (n:Nat),by rw[List.length_set];exact HMl.out,fun f hf=>?_,fun f=>?_,hst.1,HMb.out.grown hst.2 HMb.out.size (fun q hq=>by have:=(HMo.out.lt gP rfl).1;have:=Option.some.inj hq;omega),Nat.le_trans HMs.out hst.2.size⟩
       · rw[QA4]
         by_cases e:i=f/\i<M.length
         · rw[if_pos e,<-e.1]
           unfold plF
           rw[HZ.out,if_pos hzs,HN.out]
         · rw[if_neg e]
           refine HMi.out f ?_
           rcases Nat.lt_or_ge f i with q|q
           · exact q
           · exact absurd ⟨by omega,by rw[HMl.out];omega⟩ e
       · rw[QA4]
         by_cases e:i=f/\i<M.length
         · exact Or.inr (by omega)
         · rw[if_neg e]
           rcases HM0.out f with q|q
           · exact Or.inl q
           · exact Or.inr (by omega))
      have hnn:cnS s sh (i+1)=n+1:=by rw[HNX.out,HZ.out,if_pos hzs]
      have HNN:=hidS hnn
      clear hin hMl hMi hM0 hMo hMb hMs hnx hz hn hst hzs hnn
      go_wp2
      go_roundw
      all_goals first
       |(simp only[intOf];omega)
       |exact⟨i+1,by omega,by go_num,by rw[HNN.out];go_num,HNW⟩
    · have hze:((z:Int)==(sh:Int))=false:=beq_eq_false_iff_ne.2 (by omega)
      have HNW : Hid (∃ M' : List Int, M'.length = F ∧ (∀ f, f < i + 1 → M'.getD f 0 = plF s sh f) ∧ (∀ f, M'.getD f 0 = 0 ∨ f < i + 1) ∧ W1.ownsRow w.heap.size 3 1 (.slice (some ⟨gP, 0, none⟩) F F) F (QX2 M') ∧ Below w.heap.size w W1 ∧ w4.heap.size ≤ W1.heap.size) := (by
       refine⟨M,HMl.out,fun f hf=>?_,fun f=>(HM0.out f).imp id (fun q=>by omega),HMo.out,HMb.out,HMs.out⟩
       rcases Nat.lt_or_ge f i with q|q
       · exact HMi.out f q
       · have e:f=i:=by omega
         subst e
         unfold plF
         rw[HZ.out,if_neg hzs]
         rcases HM0.out f with q|q
         · exact q
         · omega)
      have hnn:cnS s sh (i+1)=n:=by rw[HNX.out,HZ.out,if_neg hzs];omega
      have HNN:=hidS hnn
      clear hin hMl hMi hM0 hMo hMb hMs hnx hz hn hzs hnn
      go_wp2
      go_roundw
      all_goals first
       |(simp only[intOf];omega)
       |exact⟨i+1,by omega,by go_num,by rw[HNN.out],HNW⟩
  · obtain rfl:i=F:=by omega
    obtain⟨M,hMl,hMi,-,hMo,hMb,-⟩:=hin.out
    have hMM:M=QF8 i (plF s sh):=by
     apply List.ext_getElem?
     intro j
     by_cases hj:j<i
     · have e:=hMi j hj
       rw[List.getD_eq_getElem?_getD,List.getElem?_eq_getElem (by omega)]at e
       have e2:=QC8 i (plF s sh) j hj
       rw[List.getD_eq_getElem?_getD,List.getElem?_eq_getElem (by rw[QV1];exact hj)]at e2
       rw[List.getElem?_eq_getElem (by omega),List.getElem?_eq_getElem (by rw[QV1];exact hj)]
       simp only[Option.getD_some]at e e2
       rw[e,e2]
     · rw[List.getElem?_eq_none (by omega),List.getElem?_eq_none (by rw[QV1];omega)]
    rw[hMM]at hMo
    have HMo:=hidS hMo
    have HMb:=hidS hMb
    clear hin hMl hMi hMo hMb hMM
    go_wp2
    refine bodyPost_ret (v:=.tuple #[.slice (some ⟨gP,0,none⟩) i i,.int .i64 (cnS s sh i:Nat)]) (by simp[results,Tryz.results57,go_sem]) rfl ⟨gP,rfl,HMo.out,HMb.out⟩
end Go.Proofs.YtookanmeflbdlaaGreatDoor
