/- Several texts of the proof, one behind the other. -/
import Derived.Test.YtookanmeflbdlaaGreatDoorTkhP
import Derived.Test.YtookanmeflbdlaaGreatDoorSG1
import Derived.Test.YtookanmeflbdlaaGreatDoorR1P
import Derived.Deep.Cut
/- The walk of sign.chart.spread. -/
namespace Go.Proofs.YtookanmeflbdlaaGreatDoor
open Go.RowKit Go.Shelf Go.Maps
set_option maxHeartbeats 16000000
set_option maxRecDepth 100000
attribute [local go_sem] Oper.semAt_some
structure SqAt (w W:World) (Bn:Nat) (a:Option Addr) (cap:Nat) (C:List Cr) (loops:Int) (gF cF gT cT gM gS f z:Nat) (M:List Int):Prop where
 ch:Ch W a cap C gF gT gM gS M
 b0:W.heap[w.heap.size]?=some (.cells #[.slice a C.length cap,.int .i64 loops,.slice (some ⟨gF,0,none⟩) (2*C.length+1) cF,.slice (some ⟨gT,0,none⟩) (2*C.length+1) cT,.map (some gM),.slice (some ⟨gS,0,none⟩) (QQ3 C).length (QQ3 C).length] 75 (0,0))
 b1:W.heap[w.heap.size+1]?=some (.cells #[.int .i64 (f:Nat)] 3 (0,0))
 b2:W.heap[w.heap.size+1+1]?=some (.cells #[.int .i64 (z:Nat)] 3 (0,0))
 bn:W.heap[Bn]?=some (.cells #[.slice a C.length cap,.int .i64 loops,.slice (some ⟨gF,0,none⟩) (2*C.length+1) cF,.slice (some ⟨gT,0,none⟩) (2*C.length+1) cT] 49 (0,0))
 gr:w.grownBy W (some gS)
 size:Bn+1<=W.heap.size
theorem SqAt.keep {w W W':World} {Bn:Nat} {a:Option Addr} {cap:Nat} {C:List Cr} {loops:Int} {gF cF gT cT gM gS f z:Nat} {M:List Int} {row:Option Nat} (h:SqAt w W Bn a cap C loops gF cF gT cT gM gS f z M) (hw:w.heap.size+3<=Bn) (hl:gF<w.heap.size/\gT<w.heap.size/\gM<w.heap.size/\gS<w.heap.size/\(0<C.length->∀ ad,a=some ad->ad.block<w.heap.size)) (hg:W.grownBy W' row) (hr:∀ r,row=some r->Bn+1<=r):SqAt w W' Bn a cap C loops gF cF gT cT gM gS f z M:=by
 have far:∀ {q:Nat} {o:Obj},q<=Bn->W.heap[q]?=some o->W'.heap[q]?=some o:=fun {q o} hq ho=>(hg.block q (Array.getElem?_eq_some_iff.1 ho).1 (fun e=>by have:=hr q e.symm;omega)).trans ho
 exact⟨h.ch.keep hg hl (fun r e=>by have:=hr r e;omega),far (by omega) h.b0,far (by omega) h.b1,far (by omega) h.b2,far (Nat.le_refl _) h.bn,grown_new h.gr hg (fun q hq=>by have:=hr q hq;omega),Nat.le_trans h.size hg.size⟩
theorem XY0 (C : List Cr) (loops : Int) (s : Nat → Nat) (hm : QQ6 C loops = true) (hS : Shd C s) : ∀ (k : Nat) (a : Option Addr) (cap gF cF gT cT gM gS f : Nat) (L : List Int) (w : World), uns L ≤ k → f < (QQ3 C).length → L.getD f 0 = -1 → Sd s (QQ3 C).length L → Ch w a cap C gF gT gM gS L →
    Calls Tryz.prog 56 #[chV a cap C loops gF cF gT cT gM gS,.int .i64 (f:Nat),.int .i64 (s f:Nat)] w fun e w'=>e=.returned (.tuple #[])/\∃ L',Spd C s f L L'/\Ch w' a cap C gF gT gM gS L'/\w.grownBy w' (some gS)
 |0,a,cap,gF,cF,gT,cT,gM,gS,f,L,w,hk,hf,hLf,hSd,hCh=>by
  have h1:=Xu7 L f (s f:Nat) (by rw[hSd.1];exact hf) hLf (by omega)
  omega
 |k+1,a,cap,gF,cF,gT,cT,gM,gS,f,L,w,hk,hf,hLf,hSd,hCh=>by
  obtain⟨s1,-,-,-⟩:=QX5 (QZ6 hm)
  have IH:=hidS (XY0 C loops s hm hS k)
  have HM:=hidS hm
  have HSH:=hidS hS
  have HSD:=hidS hSd
  have HCH:=hidS hCh
  have HLT:=hidS hCh.lt
  have HLF:=hidS hLf
  have HK:=hidS hk
  obtain⟨z,hz⟩:∃ z,s f=z:=⟨_,rfl⟩
  have HZ:=hidS hz
  have hz2:z<2:=by rw[<-hz];exact hS.two f
  rw[hz]
  obtain⟨F,hF⟩:∃ F,(QQ3 C).length=F:=⟨_,rfl⟩
  have HF:=hidS hF
  rw[hF]at hf
  unfold chV
  rw[hF]
  refine(callsIn_wide (n:=8)).1 ?_
  refine callsIn_of_wp_marks Tryz.func56 rfl trivial ?_ rfl
  simp only[Tryz.ntmps56,List.size_toArray,List.length_cons,List.length_nil,Nat.reduceAdd,Nat.reduceSub,Array.replicate_succ,Array.replicate_zero,List.push_toArray,List.append_toArray,List.nil_append,List.cons_append]
  obtain⟨V,hV⟩:∃ V,((w.alloc (.cells #[.slice a C.length cap,.int .i64 loops,.slice (some ⟨gF,0,none⟩) (2*C.length+1) cF,.slice (some ⟨gT,0,none⟩) (2*C.length+1) cT,.map (some gM),.slice (some ⟨gS,0,none⟩) F F] 75)).alloc (.cells #[.int .i64 (f:Nat)] 3)).alloc (.cells #[.int .i64 (z:Nat)] 3)=V:=⟨_,rfl⟩
  have hBV:Below w.heap.size w V:=by rw[<-hV];exact QA8 _ _ _ _
  have hsV:V.heap.size=w.heap.size+3:=by rw[<-hV];simp
  have k0:V.heap[w.heap.size]?=some (.cells #[.slice a C.length cap,.int .i64 loops,.slice (some ⟨gF,0,none⟩) (2*C.length+1) cF,.slice (some ⟨gT,0,none⟩) (2*C.length+1) cT,.map (some gM),.slice (some ⟨gS,0,none⟩) F F] 75 (0,0)):=by rw[<-hV];exact alloc_old (alloc_old (alloc_at rfl))
  have k1:V.heap[w.heap.size+1]?=some (.cells #[.int .i64 (f:Nat)] 3 (0,0)):=by rw[<-hV];exact alloc_old (alloc_at (by simp))
  have k2:V.heap[w.heap.size+1+1]?=some (.cells #[.int .i64 (z:Nat)] 3 (0,0)):=by rw[<-hV];exact alloc_at (by simp)
  have HV:=hidS hV
  have HBV:=hidS hBV
  have HK0:=hidS k0
  have HK1:=hidS k1
  have HK2:=hidS k2
  have hCV:=hCh.on hBV
  have HCV:=hidS hCV
  have hgl:=hCh.lt.2.2.2.1
  have hrow:=hCV.sh.stored f (.int .i64 (z:Nat))
  clear hm hS hSd hCh hk hV hBV hz hF
  refine wpIn_wide.2 ?_
  go_upto_region 1 with(fail)
  rw[HV.out]
  have v0:=QQ0 (i:=0) k0 rfl
  have v1:=QQ0 (i:=1) k0 rfl
  have v2:=QQ0 (i:=2) k0 rfl
  have v3:=QQ0 (i:=3) k0 rfl
  have v5:=QQ0 (i:=5) k0 rfl
  have v6:=QQ0 (i:=0) k1 rfl
  have v7:=QQ0 (i:=0) k2 rfl
  have v8:V.cell? ⟨gS,f,none⟩=some (.int .i64 (L.getD f 0)):=by
   have h:=hCV.sh.cellAt f (by rw[HF.out];omega)
   rw[h,QZ1 L f (by rw[HSD.out.1,HF.out];exact hf)]
  have z8:V.frozen? ⟨gS,f,none⟩=false:=hCV.sh.frozenAt f
  have ls:gS<V.heap.size:=by omega
  have l0:w.heap.size<V.heap.size:=by omega
  have l1:w.heap.size+1<V.heap.size:=by omega
  have l2:w.heap.size+1+1<V.heap.size:=by omega
  have hfi:(f:Int)<(F:Int):=by omega
  obtain⟨W0,hW0⟩:∃ W0,V.setCell ⟨gS,f,none⟩ (.int .i64 (z:Nat))=W0:=⟨_,rfl⟩
  have hg0:V.grownBy W0 (some gS):=by rw[<-hW0];exact hrow.2
  have hsW0:W0.heap.size=w.heap.size+3:=by rw[<-hW0];simp;omega
  have HC0 : Hid (Ch W0 a cap C gF gT gM gS (L.set f (z : Nat))) := (by
   rw[<-hW0]
   refine hCV.put hrow.2 ?_
   have h:=hrow.1
   rw[QJ1]at h
   exact h)
  have HW0:=hidS hW0
  have HG0:=hidS hg0
  have hne0:∀ {q:Nat} {o:Obj},w.heap.size<=q->V.heap[q]?=some o->W0.heap[q]?=some o:=fun {q o} hq ho=>(hg0.block q (Array.getElem?_eq_some_iff.1 ho).1 (fun e=>by have:=Option.some.inj e;omega)).trans ho
  have K0:=hidS (hne0 (Nat.le_refl _) k0)
  have K1:=hidS (hne0 (by omega) k1)
  have K2:=hidS (hne0 (by omega) k2)
  have x0:=QQ0 (i:=0) K0.out rfl
  have x1:=QQ0 (i:=1) K0.out rfl
  have x2:=QQ0 (i:=2) K0.out rfl
  have x3:=QQ0 (i:=3) K0.out rfl
  have lW0:w.heap.size<W0.heap.size:=by omega
  clear hCV hrow k0 k1 k2 hg0 hW0 hne0 hLf
  go_upto_region 2 with(fail)
  rw[HW0.out]
  clear v0 v1 v2 v3 v5 v6 v7 v8 z8
  have HDA:Hid (∀ V,Calls Tryz.prog 77 #[.agg #[.slice a C.length cap,.int .i64 loops,.slice (some ⟨gF,0,none⟩) (2*C.length+1) cF,.slice (some ⟨gT,0,none⟩) (2*C.length+1) cT]] V fun e w'=>e=.returned (.func (.func 91) #[] #[.pointer (some ⟨V.heap.size,0,none⟩)])/\w'=V.alloc (.cells #[.slice a C.length cap,.int .i64 loops,.slice (some ⟨gF,0,none⟩) (2*C.length+1) cF,.slice (some ⟨gT,0,none⟩) (2*C.length+1) cT] 49)):=fun V=>(callsIn_wide (n:=8)).1 (ZW9 8 a cap C loops gF cF gT cT V)
  go_wp2_with (go_at_call 77;refine(HDA.out _).mono ?_;rintro e9 w9 ⟨rfl,rfl⟩;refine Hid.out ?_)
  refine Lib.hid ?_
  obtain⟨W1,hW1⟩:∃ W1,W0.alloc (.cells #[.slice a C.length cap,.int .i64 loops,.slice (some ⟨gF,0,none⟩) (2*C.length+1) cF,.slice (some ⟨gT,0,none⟩) (2*C.length+1) cT] 49)=W1:=⟨_,rfl⟩
  have hb1:Below W0.heap.size W0 W1:=by rw[<-hW1];exact(Below.refl _ _).alloc (Nat.le_refl _) _
  have kn:W1.heap[W0.heap.size]?=some (.cells #[.slice a C.length cap,.int .i64 loops,.slice (some ⟨gF,0,none⟩) (2*C.length+1) cF,.slice (some ⟨gT,0,none⟩) (2*C.length+1) cT] 49 (0,0)):=by rw[<-hW1];exact alloc_at rfl
  have hs1:W1.heap.size=w.heap.size+4:=by rw[<-hW1];simp;omega
  rw[hW1]
  rw[hsW0]at kn
  have HSQ : Hid (SqAt w W1 (w.heap.size + 3) a cap C loops gF cF gT cT gM gS f z (L.set f (z : Nat))) := (by
   refine⟨HC0.out.on hb1,?_,(hb1.block _ (by omega)).trans K1.out,(hb1.block _ (by omega)).trans K2.out,kn,?_,by omega⟩
   · rw[HF.out];exact(hb1.block _ (by omega)).trans K0.out
   · exact grown_trans (grown_trans (grown_below HBV.out (some gS)) HG0.out) (grown_below hb1 (some gS)))
  have HSP:Hid (Spi C s f [] L (L.set f (z:Nat))):=(by rw[<-HZ.out];exact Spi.start HSD.out (by rw[HF.out];exact hf) HLF.out)
  have HCC:Hid (W1.cell? ⟨w.heap.size+3,3,none⟩=some (.slice (some ⟨gT,0,none⟩) (2*C.length+1) cT)):=QQ0 kn rfl
  clear hW1 hb1 kn x0 x1 x2 x3 lW0 K0 K1 K2 HC0 HG0 HK0 HK1 HK2 HBV HCV HDA
  go_wp2
  refine(wpIn_wide (n:=8)).1 ?_
  refine wpIn_rangeFunc_ownH (n:=8) rfl (by omega) (gf:=91) (lb:=#[.pointer (some ⟨w.heap.size+3,0,none⟩)]) rfl trivial (enters_of Tryz.func91 (by kernel_rfl) rfl)
   (XV0 C.length s1 7 (by omega) (w.heap.size+3) gT cT W1 (by omega) HCC.out) (fun h k=>k.trans h) (Zj7 (by omega)) (Below.refl _ _) (fun _=>rfl)
   (fun(pre:List (DN C.length)) W=>∃ M,SqAt w W (w.heap.size+3) a cap C loops gF cF gT cT gM gS f z M/\Spi C s f (pre.map fun x=>x.1) L M)
   (fun _ _ _=>False)
   (fun pre X Y row hs hg hr=>by obtain⟨M,h1,h2⟩:=hs;exact⟨M,h1.keep (Nat.le_refl _) HLT.out hg (fun r e=>by have:=(hr r e).1;omega),h2⟩)
   (fun _ _ _ _ _ hs _ _=>hs)
   ⟨_,HSQ.out,HSP.out⟩
   (fun x a' W=>∃ Bx,W1.heap.size<=Bx/\W.heap[Bx]?=some (.cells #[.int .i64 (dA x.1:Nat),.bool (dB x.1)] 104 (0,0))/\a'={ tmps:=#[.agg #[.slice a C.length cap,.int .i64 loops,.slice (some ⟨gF,0,none⟩) (2*C.length+1) cF,.slice (some ⟨gT,0,none⟩) (2*C.length+1) cT,.map (some gM),.slice (some ⟨gS,0,none⟩) F F],.int .i64 (f:Nat),.int .i64 (z:Nat),.pointer (some ⟨w.heap.size,0,none⟩),.pointer (some ⟨w.heap.size+1,0,none⟩),.pointer (some ⟨w.heap.size+1+1,0,none⟩),.pointer (some ⟨Bx,0,none⟩),undef,.pointer (some ⟨w.heap.size,5,none⟩),.slice (some ⟨gS,0,none⟩) F F,.int .i64 (f:Nat),.int .i64 (z:Nat),.pointer (some ⟨gS,f,none⟩),.pointer (some ⟨w.heap.size,0,none⟩),.agg #[.slice a C.length cap,.int .i64 loops,.slice (some ⟨gF,0,none⟩) (2*C.length+1) cF,.slice (some ⟨gT,0,none⟩) (2*C.length+1) cT],.func (.func 91) #[] #[.pointer (some ⟨w.heap.size+3,0,none⟩)],.agg #[.int .i64 (dA x.1:Nat),.bool (dB x.1)],undef,undef,undef,undef,undef,undef,undef,undef,undef,undef,undef,undef,undef,undef,undef,undef,undef,undef,undef,undef,undef,undef,undef,undef,undef,undef],defers:=[] })
   (fun x a' _ X Y row hs hg hr=>by obtain⟨Bx,h1,h2,h3⟩:=hs;exact⟨Bx,h1,QB5 h2 hg (fun r e=>(hr r e).2),h3⟩)
   ?assign ?body ?done ?stop
  case assign=>
   rintro l pre x W K ⟨M,hsq,hsp⟩ hK
   obtain⟨xA,hxA⟩:∃ xA,dA x.1=xA:=⟨_,rfl⟩
   obtain⟨xB,hxB⟩:∃ xB,dB x.1=xB:=⟨_,rfl⟩
   rw[hxA,hxB]
   gi_wp2
   exact hK _ _ ((KeepsOthers.alloc _ _).from _) ((World.grownBy_alloc _ _ none).block _ (Array.getElem?_eq_some_iff.1 hsq.bn).1 (by simp)) ⟨M,hsq.keep (Nat.le_refl _) HLT.out (World.grownBy_alloc _ _ none) (fun r e=>by cases e),hsp⟩ ⟨W.heap.size,by have:=hsq.size;omega,(by rw[hxA,hxB];exact alloc_at rfl),(by rw[hxA,hxB])⟩
  case body=>
   rintro l pre x a' W hl ⟨r,hr⟩ ⟨M,hsq,hsp⟩ ⟨Bx,hBx,hbx,rfl⟩ hlt
   obtain⟨x0,hx0a,hx0b⟩:=x
   simp only at hbx ⊢
   obtain⟨xA,hxA⟩:∃ q,dA x0=q:=⟨_,rfl⟩
   obtain⟨xB,hxB⟩:∃ q,dB x0=q:=⟨_,rfl⟩
   obtain⟨g,hg⟩:∃ q,fo C x0=q:=⟨_,rfl⟩
   obtain⟨q,hq⟩:∃ q,fo C (tn x0)=q:=⟨_,rfl⟩
   have htn:=JY2 hx0a hx0b
   have hqF:q<F:=by rw[<-hq,<-HF.out];exact Xq3 _ htn.1 htn.2
   have hxA1:=QC3 (n:=C.length) hx0a hx0b
   have eT:dtV (tn x0)=.agg #[.int .i64 (xA:Nat),.bool (!xB)]:=by unfold dtV tn;rw[XW2 hxA1.1,XW1 hxA1.1,hxA,hxB]
   have eX:dtV x0=.agg #[.int .i64 (xA:Nat),.bool xB]:=by unfold dtV;rw[hxA,hxB]
   have HLK:Hid (∀ X,Ch X a cap C gF gT gM gS M->(Instr.lookup 73 (.map (some gM)) (.agg #[.int .i64 (xA:Nat),.bool xB]) false).run Tryz.prog X=.ok (.int .i64 (g:Nat)) X/\(Instr.lookup 73 (.map (some gM)) (.agg #[.int .i64 (xA:Nat),.bool (!xB)]) false).run Tryz.prog X=.ok (.int .i64 (q:Nat)) X):=fun X hX=>by
    have a1:=hX.mp.look x0 hx0a hx0b (by omega)
    have a2:=hX.mp.look (tn x0) htn.1 htn.2 (by omega)
    rw[eX,hg]at a1
    rw[eT,hq]at a2
    exact⟨a1,a2⟩
   have hsW:=hsq.size
   have HSQ2:=hidS hsq
   have HSP2:=hidS hsp
   rw[hxA,hxB]at hbx ⊢
   have HBX:=hidS hbx
   have lBx:Bx<W.heap.size:=(Array.getElem?_eq_some_iff.1 hbx).1
   have HPR:Hid ((pre++[(⟨x0,hx0a,hx0b⟩:DN C.length)]).map (fun x=>x.1)=(pre.map fun x=>x.1)++[x0]):=(by rw[List.map_append];rfl)
   have HG:=hidS hg
   have HQ:=hidS hq
   have HS:Hid (∀ X,Below W.heap.size W X->(fun X:World=>X.cell? ⟨w.heap.size,4,none⟩=some (.map (some gM))/\X.cell? ⟨Bx,0,none⟩=some (.int .i64 (xA:Nat))/\X.cell? ⟨Bx,1,none⟩=some (.bool xB)/\X.cell? ⟨w.heap.size+1,0,none⟩=some (.int .i64 (f:Nat))/\(Instr.lookup 73 (.map (some gM)) (.agg #[.int .i64 (xA:Nat),.bool xB]) false).run Tryz.prog X=.ok (.int .i64 (g:Nat)) X) X):=fun X hX=>by
    have e0:=(hX.block _ (Array.getElem?_eq_some_iff.1 HSQ2.out.b0).1).trans HSQ2.out.b0
    have e1:=(hX.block _ (Array.getElem?_eq_some_iff.1 HSQ2.out.b1).1).trans HSQ2.out.b1
    have e2:=(hX.block _ lBx).trans HBX.out
    exact⟨QQ0 e0 rfl,QQ0 e2 rfl,QQ0 e2 rfl,QQ0 e1 rfl,(HLK.out X (HSQ2.out.ch.on hX)).1⟩
   have HDW:Hid (Below W.heap.size W W.drew):=(Below.refl _ _).drew
   obtain⟨t,ht⟩:∃ t,((g:Int) != (f:Int))=t:=⟨_,rfl⟩
   have HT:=hidS ht
   clear hbx hg hq hxA hxB eT eX hsq hsp
   gi_wp2
   refine QF7 (S:=(fun X:World=>X.cell? ⟨w.heap.size,4,none⟩=some (.map (some gM))/\X.cell? ⟨Bx,0,none⟩=some (.int .i64 (xA:Nat))/\X.cell? ⟨Bx,1,none⟩=some (.bool xB)/\X.cell? ⟨w.heap.size+1,0,none⟩=some (.int .i64 (f:Nat))/\(Instr.lookup 73 (.map (some gM)) (.agg #[.int .i64 (xA:Nat),.bool xB]) false).run Tryz.prog X=.ok (.int .i64 (g:Nat)) X)) (by kernel_rfl) (by kernel_rfl) (HS.out _ HDW.out) (fun hHeld=>?_)
   refine QW2 17 (i:=0) (v:=?vva0) rfl rfl (by kernel_rfl) (by kernel_rfl) (by kernel_rfl) (Or.inl ⟨by rfl,?yya0⟩) (by assumption) ?rra0
   case yya0=>(intro w hSw;(try dsimp only at hSw);go_simp;(try with_reducible rfl))
   simp only[List.setIfInBounds_toArray,List.set_cons_succ,List.set_cons_zero]
   refine QW2 18 (i:=1) (v:=?vva1) rfl rfl (by kernel_rfl) (by kernel_rfl) (by kernel_rfl) (Or.inl ⟨by rfl,?yya1⟩) (by assumption) ?rra1
   case yya1=>(intro w hSw;(try dsimp only at hSw);go_simp;(try with_reducible rfl))
   simp only[List.setIfInBounds_toArray,List.set_cons_succ,List.set_cons_zero]
   refine QW2 19 (i:=2) (v:=?vva2) rfl rfl (by kernel_rfl) (by kernel_rfl) (by kernel_rfl) (Or.inl ⟨by rfl,?yya2⟩) (by assumption) ?rra2
   case yya2=>(intro w hSw;(try dsimp only at hSw);go_simp;(try with_reducible rfl))
   simp only[List.setIfInBounds_toArray,List.set_cons_succ,List.set_cons_zero]
   refine QW2 20 (i:=3) (v:=?vva3) rfl rfl (by kernel_rfl) (by kernel_rfl) (by kernel_rfl) (Or.inl ⟨by rfl,?yya3⟩) (by assumption) ?rra3
   case yya3=>(intro w hSw;(try dsimp only at hSw);go_simp;(try with_reducible rfl))
   simp only[List.setIfInBounds_toArray,List.set_cons_succ,List.set_cons_zero]
   refine QW2 21 (i:=4) (v:=?vva4) rfl rfl (by kernel_rfl) (by kernel_rfl) (by kernel_rfl) (Or.inl ⟨by rfl,?yya4⟩) (by assumption) ?rra4
   case yya4=>(intro w hSw;(try dsimp only at hSw);go_simp;(try with_reducible rfl))
   simp only[List.setIfInBounds_toArray,List.set_cons_succ,List.set_cons_zero]
   refine QW2 22 (i:=5) (v:=?vva5) rfl rfl (by kernel_rfl) (by kernel_rfl) (by kernel_rfl) (Or.inl ⟨by rfl,?yya5⟩) (by assumption) ?rra5
   case yya5=>(intro w hSw;(try dsimp only at hSw);go_simp;(try with_reducible rfl))
   simp only[List.setIfInBounds_toArray,List.set_cons_succ,List.set_cons_zero]
   refine wpAnyH_done (by kernel_rfl) ?_ _
   simp only[OnlyN]
   clear hHeld ht
   have HSQ3:=hidS (HSQ2.out.keep (Nat.le_refl _) HLT.out (grown_below HDW.out none) (fun r e=>by cases e))
   have HKF:=hidS (KeepsFrom.of_grownBy (B:=W1.heap.size) (grown_below HDW.out none) (fun q hq=>by cases hq))
   cases t with
   |true=>
    have hne:g≠f:=fun e=>by have:=HT.out;rw[e]at this;simp at this
    gi_wp2
    refine⟨HKF.out,rfl,M,HSQ3.out,?_⟩
    rw[HPR.out]
    exact HSP2.out.pass (Or.inl (by rw[HG.out];exact hne))
   |false=>
    have hge:g=f:=by have:=HT.out;simp at this;omega
    obtain⟨X,hX⟩:∃ X,W.drew=X:=⟨_,rfl⟩
    rw[hX]at HSQ3 HDW HKF ⊢
    have hbn:X.heap[w.heap.size+3]?=W.heap[w.heap.size+3]?:=by rw[<-hX];rfl
    have hsX:X.heap.size=W.heap.size:=by rw[<-hX];rfl
    have HBN:=hidS hbn
    have HX:=HSQ3.out
    have hbxX:=(HDW.out.block _ lBx).trans HBX.out
    have HBX2:=hidS hbxX
    obtain⟨mq,hmq⟩:∃ mq,M.getD q 0=mq:=⟨_,rfl⟩
    have HMQ:=hidS hmq
    have e0:=HX.b0
    rw[HF.out]at e0
    have y0:=QQ0 (i:=0) e0 rfl
    have y1:=QQ0 (i:=1) e0 rfl
    have y2:=QQ0 (i:=2) e0 rfl
    have y3:=QQ0 (i:=3) e0 rfl
    have y4:=QQ0 (i:=4) e0 rfl
    have y5:=QQ0 (i:=5) e0 rfl
    have y6:=QQ0 (i:=0) HX.b2 rfl
    have u0:=QQ0 (i:=0) hbxX rfl
    have u1:=QQ0 (i:=1) hbxX rfl
    have hlk:=(HLK.out X HX.ch).2
    have y8:X.cell? ⟨gS,q,none⟩=some (.int .i64 mq):=by
     have h:=HX.ch.sh.cellAt q (by rw[HF.out];omega)
     rw[h,QZ1 M q (by rw[HSP2.out.sd.1,HF.out];exact hqF),hmq]
    have hqi:(q:Int)<(F:Int):=by omega
    have lgs:gS<X.heap.size:=by have:=HX.ch.lt.2.2.2.1;exact this
    have lw0:w.heap.size<X.heap.size:=by omega
    have lw2:w.heap.size+1+1<X.heap.size:=by omega
    have lBX:Bx<X.heap.size:=by omega
    clear e0 hbxX hX HX hmq hbn
    by_cases hm1:mq = -1
    · have hmt:(mq == -1)=true:=by rw[hm1];rfl
      have harc:=HSH.out.arc x0 hx0a hx0b
      rw[HG.out,HQ.out,hge,HZ.out]at harc
      have hsub:IntKind.i64.wrap (1-(z:Int))=((s q:Nat):Int):=by
       rw[IntWalk.i64_in _ (by omega)]
       omega
      have IHq:=hidS (IH.out a cap gF cF gT cT gM gS q M X (by have:=HSP2.out.less;have:=HK.out;omega) (by rw[HF.out];exact hqF) (by rw[HMQ.out];exact hm1) HSP2.out.sd HSQ3.out.ch)
      unfold chV at IHq
      rw[HF.out]at IHq
      clear hm1 harc
      gi_wp2
      refine⟨trivial,?_⟩
      refine(CallsIn.inRound l (callsIn_wide.2 IHq.out)).mono ?_
      rintro e9 w9 ⟨rfl,L',hpd,hch9,hg9⟩
      have far:∀ (j:Nat) (o:Obj),w.heap.size<=j->X.heap[j]?=some o->w9.heap[j]?=some o:=fun j o hj ho=>(hg9.block j (Array.getElem?_eq_some_iff.1 ho).1 (fun e=>by have:=Option.some.inj e;have:=HLT.out.2.2.2.1;omega)).trans ho
      have HS9:Hid (SqAt w w9 (w.heap.size+3) a cap C loops gF cF gT cT gM gS f z L'):=⟨hch9,far _ _ (Nat.le_refl _) HSQ3.out.b0,far _ _ (by omega) HSQ3.out.b1,far _ _ (by omega) HSQ3.out.b2,far _ _ (by omega) HSQ3.out.bn,grown_trans HSQ3.out.gr hg9,Nat.le_trans HSQ3.out.size hg9.size⟩
      have HKN:=hidS ((far _ _ (by omega) HSQ3.out.bn).trans HSQ2.out.bn.symm)
      have HK9:=hidS (KeepsFrom.of_grownBy (B:=W1.heap.size) (grown_trans (grown_below HDW.out (some gS)) hg9) (fun q hq=>by have:=Option.some.inj hq;have:=HLT.out.2.2.2.1;omega))
      have HP9:=hidS hpd
      clear hpd hch9 hg9 far
      simp only
      gi_wp2
      refine⟨HK9.out,HKN.out,L',HS9.out,?_⟩
      rw[HPR.out]
      exact HSP2.out.step (by rw[HQ.out];exact HP9.out)
    · have hmt:(mq == -1)=false:=by simpa using hm1
      gi_wp2
      refine⟨HKF.out,HBN.out,M,HSQ3.out,?_⟩
      rw[HPR.out]
      exact HSP2.out.pass (Or.inr (by rw[HQ.out,HMQ.out];exact hm1))
  case done=>
   rintro D ys W hD hys ⟨M,hsq,hsp⟩ hK
   have HSQ2:=hidS hsq
   have HSP2:=hidS hsp
   have HKD:=hidB hK
   have HYS:=hidS hys
   clear hsq hsp hK hys
   simp only
   go_wp2
   have hg:=grownBy_putObj' W D (.deferred none)
   have HF2:=HSQ2.out.keep (Nat.le_refl _) HLT.out hg (fun r e=>by have:=Option.some.inj e;omega)
   refine⟨by simp,.inl ⟨_,_,rfl,run_takeDeferred HKD.out,?_⟩⟩
   refine⟨_,results_none rfl _ _ _,rfl,M,HSP2.out.spd (fun j h1 h2=>?_),HF2.ch,HF2.gr⟩
   have e:=Kz1 C.length (2*C.length) (Nat.le_refl _)
   rw[HYS.out,e]
   exact List.mem_map.2 ⟨j-1,List.mem_range.2 (by omega),by omega⟩
  case stop=>
   rintro D c pre W _ _ h _
   exact h.elim
end Go.Proofs.YtookanmeflbdlaaGreatDoor
/- The walk of sign.chartOf. -/
namespace Go.Proofs.YtookanmeflbdlaaGreatDoor
open Go.RowKit Go.Maps
theorem Qg7:(Tryz.prog.info? 3).map (fun i=>(i.zero,i.size,i.bytes))=some (some (.int .i64 0),1,8):=by kernel_rfl
theorem Zd0 {W:World} {g:Nat} {c0 c1 c2 c3 c4 c5:Value} {x:Int} {tm:Array Value} (h:W.heap[g]?=some (.cells #[c0,c1,c2,c3,c4,c5] 75 (0,0))) (h2:tm[2]?=some (.pointer (some ⟨g,0,none⟩))) (h3:tm[3]?=some (.int .i64 x)):(results Tryz.f32 tm).run Tryz.prog W=.ok (.tuple #[.agg #[c0,c1,c2,c3,c4,c5],.int .i64 x]) W:=by
 have e0:W.cell? ⟨g,0,none⟩=some c0:=QQ0 h rfl
 have e1:W.cell? ⟨g,1,none⟩=some c1:=QQ0 h rfl
 have e2:W.cell? ⟨g,2,none⟩=some c2:=QQ0 h rfl
 have e3:W.cell? ⟨g,3,none⟩=some c3:=QQ0 h rfl
 have e4:W.cell? ⟨g,4,none⟩=some c4:=QQ0 h rfl
 have e5:W.cell? ⟨g,5,none⟩=some c5:=QQ0 h rfl
 simp[results,Tryz.results32,go_sem,h2,h3,e0,e1,e2,e3,e4,e5]
theorem Zy4 {W:World} {g:Nat} {c0 c1 c2 c3 c4 c5 d0 d1 d2 d3 d4 d5:Value} {t:TypeId} (h:W.heap[g]?=some (.cells #[c0,c1,c2,c3,c4,c5] t (0,0))):((((((W.setCell ⟨g,0,none⟩ d0).setCell ⟨g,1,none⟩ d1).setCell ⟨g,2,none⟩ d2).setCell ⟨g,3,none⟩ d3).setCell ⟨g,4,none⟩ d4).setCell ⟨g,5,none⟩ d5).heap[g]?=some (.cells #[d0,d1,d2,d3,d4,d5] t (0,0)):=by
 rw[QX1 (QX1 (QX1 (QX1 (QX1 (QX1 h)))))]
 rfl
theorem Zy3 (W:World) (g:Nat) (d0 d1 d2 d3 d4 d5:Value):W.grownBy ((((((W.setCell ⟨g,0,none⟩ d0).setCell ⟨g,1,none⟩ d1).setCell ⟨g,2,none⟩ d2).setCell ⟨g,3,none⟩ d3).setCell ⟨g,4,none⟩ d4).setCell ⟨g,5,none⟩ d5) (some g):=
 grown_trans (grown_trans (grown_trans (grown_trans (grown_trans (QX3 _ _ _ _) (QX3 _ _ _ _)) (QX3 _ _ _ _)) (QX3 _ _ _ _)) (QX3 _ _ _ _)) (QX3 _ _ _ _)
end Go.Proofs.YtookanmeflbdlaaGreatDoor
/- The walk of sign.chartOf where it answers. -/
namespace Go.Proofs.YtookanmeflbdlaaGreatDoor
open Go.RowKit Go.Maps
set_option maxHeartbeats 16000000
set_option maxRecDepth 100000
theorem JB7 (w:World):(Instr.makeMap 73 none).run Tryz.prog w=.ok (.map (some w.heap.size)) (w.alloc (.map #[] 0)):=rfl
theorem ZH7:QQ8:=fun a cap C loops gF cF gT cT w hm hD=>Qx0 a cap C loops gF cF gT cT w hm hD
theorem XB0 (n:Nat):(madeCells (Value.int .i64 0).cells (n*1)).toList=QX2 (List.replicate n 0):=by
 apply List.ext_getElem?
 intro j
 rw[Nat.mul_one]
 by_cases hj:j<n
 · simp[madeCells,QX2,Value.cells,hj,Nat.mod_one]
 · rw[List.getElem?_eq_none (by simp[madeCells];omega),List.getElem?_eq_none (by simp[QX2];omega)]
structure SfAt (w Z W:World) (gM gS m F:Nat) (C:List Cr) (S:Nat->Prop) (i:Nat):Prop where
 mp:MapD W gM m S (fo C)
 sh:∃ L:List Int,L.length=F/\(∀ f,f<i->L.getD f 0 = -1)/\W.ownsRow 0 3 1 (.slice (some ⟨gS,0,none⟩) F F) F (QX2 L)
 keep:∀ q,q<Z.heap.size->q≠gM->q≠gS->W.heap[q]?=Z.heap[q]?
 size:Z.heap.size<=W.heap.size
 bel:Below w.heap.size w W
theorem SfAt.grown {w Z W W':World} {gM gS m F i:Nat} {C:List Cr} {S:Nat->Prop} (h:SfAt w Z W gM gS m F C S i) (hM:w.heap.size<=Z.heap.size) (hg:W.grownBy W' none):SfAt w Z W' gM gS m F C S i:=by
 obtain⟨L,h1,h2,h3⟩:=h.sh
 exact⟨h.mp.kept hg (by simp),⟨L,h1,h2,own_any h3 hg⟩,fun q hq a b=>(hg.block q (Nat.lt_of_lt_of_le hq h.size) (by simp)).trans (h.keep q hq a b),Nat.le_trans h.size hg.size,h.bel.grown hg (Nat.le_trans hM h.size) (fun q hq=>by cases hq)⟩
theorem ZW6 {C:List Cr} {loops:Int} (hm:QQ6 C loops=true) {i:Nat} (hi:i<(QQ3 C).length):0<((QQ3 C).getD i []).length/\(∀ k,k<((QQ3 C).getD i []).length->1<=((QQ3 C).getD i []).getD k 0/\((QQ3 C).getD i []).getD k 0<=4*C.length/\fo C (((QQ3 C).getD i []).getD k 0)=i)/\(∀ j,1<=j->j<=4*C.length->fo C j=i->∃ k,k<((QQ3 C).getD i []).length/\((QQ3 C).getD i []).getD k 0=j):=by
 obtain⟨-,hh⟩:=QY4 hm
 obtain⟨g1,-,g3⟩:=hh i hi
 refine⟨g1,fun k hk=>?_,fun j h1 h2 e=>?_⟩
 · have hb:=g3 k hk
   exact⟨hb.1,hb.2,(ZQ7 (QU5 (fd C) (4*C.length) _ hb.1 hb.2) hi).1 (at_mem hk)⟩
 · have hmem:=(ZQ7 (QU5 (fd C) (4*C.length) j h1 h2) hi).2 e
   obtain⟨k,hk,e2⟩:=List.mem_iff_getElem.1 hmem
   have hk2:k<((QQ3 C).getD i []).length:=hk
   exact⟨k,hk2,by rw[List.getD_eq_getElem?_getD,List.getElem?_eq_getElem hk2];exact e2⟩
theorem KZ2 (v : Value) (C : List Cr) (loops : Int) (s : Nat → Nat) (w : World) (hm : QQ6 C loops = true) (hp : QX6 C = true) (ho : ZY2 C loops = true) (hs : Shd C s) (h : Crs w w.heap.size v C) :
    Calls Tryz.prog 32 #[.agg #[v,.int .i64 loops]] w fun e w'=>∃ a cap gF cF gT cT gM gS,e=.returned (.tuple #[chV a cap C loops gF cF gT cT gM gS,.int .i64 0])/\Ch w' a cap C gF gT gM gS (shL s (QQ3 C).length)/\w.heap.size<=gS/\w.heap.size<=gM/\Below w.heap.size w w':=by
 obtain⟨s1,-,-,-⟩:=QX5 (QZ6 hm)
 obtain⟨F,hF⟩:∃ F,(QQ3 C).length=F:=⟨_,rfl⟩
 have hF2:F=C.length+2:=by rw[<-hF];exact Xk8 hm hp ho
 have hF9:F<=18:=by omega
 have hF1:2<=F:=by omega
 have HF:=hidS hF
 obtain⟨a0,cap0,rfl,hn,hx⟩:=h
 have HC:Hid (Crs w w.heap.size (.slice a0 C.length cap0) C):=⟨a0,cap0,rfl,hn,hx⟩
 have hS0:=fun W (hW:Crs W W.heap.size (.slice a0 C.length cap0) C)=>Xf7 ZH7 (.slice a0 C.length cap0) C loops W (by unfold noN;rw[if_pos hm,if_pos hp]) hW
 rw[ho]at hS0
 unfold Xv1 drV at hS0
 dsimp only at hS0
 have HS:=hidS hS0
 have HFR:=hidS (fun a cap gF cF gT cT W (hD:Dr W a cap C gF gT)=>Qx0 a cap C loops gF cF gT cT W hm hD)
 unfold drV at HFR
 have HM:=hidS hm
 have HO:=hidS ho
 have HSH:=hidS hs
 have HP:=hidS hp
 obtain⟨i2,hk,hx0,hx1,hx2⟩:=info_parts Qg7
 obtain⟨V,hV⟩:∃ V,(w.alloc (.cells #[.slice a0 C.length cap0,.int .i64 loops] 24)).alloc (.cells #[.slice none 0 0,.int .i64 0,.slice none 0 0,.slice none 0 0,.map none,.slice none 0 0] 75)=V:=⟨_,rfl⟩
 have hB:Below w.heap.size w V:=by rw[<-hV];exact QW3 _ _ _
 have hsV:V.heap.size=w.heap.size+2:=by rw[<-hV];simp
 have k0:V.heap[w.heap.size]?=some (.cells #[.slice a0 C.length cap0,.int .i64 loops] 24 (0,0)):=by rw[<-hV];exact alloc_old (alloc_at rfl)
 have k1:V.heap[w.heap.size+1]?=some (.cells #[.slice none 0 0,.int .i64 0,.slice none 0 0,.slice none 0 0,.map none,.slice none 0 0] 75 (0,0)):=by rw[<-hV];exact alloc_at (by simp)
 have v0:=QQ0 (i:=0) k0 rfl
 have v1:=QQ0 (i:=1) k0 rfl
 have lV:w.heap.size<V.heap.size:=by omega
 have HV:=hidS hV
 have HB:=hidS hB
 have HK1:=hidS k1
 clear hV hB k0 k1 hS0 hx hm hp ho hs hF hF2
 go_enter Tryz.func32,Tryz.ntmps32
 go_upto_region 1 with(fail)
 rw[HV.out]
 go_upto_region 4 with(go_at_call 54;refine(HS.out _ (HC.out.up HB.out)).mono ?_;rintro e9 w2 ⟨⟨a,cap,gF,cF,gT,cT,rfl,hd2⟩,hb2⟩;have HB2:=hidS hb2;have HD2:=hidS hd2;clear hb2 hd2)
 obtain⟨X,hX⟩:∃ X,w2.alloc (.cells #[.slice a C.length cap,.int .i64 loops,.slice (some ⟨gF,0,none⟩) (2*C.length+1) cF,.slice (some ⟨gT,0,none⟩) (2*C.length+1) cT] 49)=X:=⟨_,rfl⟩
 have hb2X:Below w2.heap.size w2 X:=by rw[<-hX];exact(Below.refl _ _).alloc (Nat.le_refl _) _
 have kX:X.heap[w2.heap.size]?=some (.cells #[.slice a C.length cap,.int .i64 loops,.slice (some ⟨gF,0,none⟩) (2*C.length+1) cF,.slice (some ⟨gT,0,none⟩) (2*C.length+1) cT] 49 (0,0)):=by rw[<-hX];exact alloc_at rfl
 have x0:=QQ0 (i:=0) kX rfl
 have x1:=QQ0 (i:=1) kX rfl
 have x2:=QQ0 (i:=2) kX rfl
 have x3:=QQ0 (i:=3) kX rfl
 have lX:w2.heap.size<X.heap.size:=(Array.getElem?_eq_some_iff.1 kX).1
 have HVX:=hidS (HB2.out.trans (hb2X.mono HB2.out.size))
 have H2X:=hidS hb2X
 have HDX:=hidS (HD2.out.on hb2X)
 have HKX:=hidS kX
 have s2:=HB2.out.size
 rw[hX]
 clear hX kX v0 v1 hb2X
 have hmk:=JB7
 go_upto_region 5 with(fail)
 clear hmk
 obtain⟨Y,hY⟩:∃ Y,(X.alloc (.map #[] 0)).alloc (.cells #[.slice a C.length cap,.int .i64 loops,.slice (some ⟨gF,0,none⟩) (2*C.length+1) cF,.slice (some ⟨gT,0,none⟩) (2*C.length+1) cT,.map (some X.heap.size),.slice none 0 0] 75)=Y:=⟨_,rfl⟩
 have hbXY:Below X.heap.size X Y:=by rw[<-hY];exact QW3 _ _ _
 have kY:Y.heap[X.heap.size+1]?=some (.cells #[.slice a C.length cap,.int .i64 loops,.slice (some ⟨gF,0,none⟩) (2*C.length+1) cF,.slice (some ⟨gT,0,none⟩) (2*C.length+1) cT,.map (some X.heap.size),.slice none 0 0] 75 (0,0)):=by rw[<-hY];exact alloc_at (by simp)
 have HMP:Hid (MapD Y X.heap.size 0 (fun _=>False) (fo C)):=(by rw[<-hY];exact(MapD.made X (fo C)).kept (World.grownBy_alloc _ _ none) (by simp))
 have sY:Y.heap.size=X.heap.size+2:=by rw[<-hY];simp
 have kXY:=(hbXY.block _ lX).trans HKX.out
 have y0:=QQ0 (i:=0) kXY rfl
 have y1:=QQ0 (i:=1) kXY rfl
 have y2:=QQ0 (i:=2) kXY rfl
 have y3:=QQ0 (i:=3) kXY rfl
 have lY:w2.heap.size<Y.heap.size:=by omega
 have HKY:=hidS kY
 have HVY:=hidS (HVX.out.trans (hbXY.mono HVX.out.size))
 have HXY:=hidS hbXY
 have HDY:=hidS (HDX.out.on hbXY)
 rw[hY]
 clear hY hbXY kY kXY x0 x1 x2 x3
 go_upto_region 6 with (go_at_call 55; refine (HFR.out a cap gF cF gT cT _ HDY.out).mono ?_; rintro e9 w3 ⟨v3, rfl, hf3, hb3⟩
                        obtain⟨ys,hyl,hyo,hye⟩:=hf3
                        rw[hyl,HF.out]at hyo
                        obtain⟨a3,c3,e3⟩:=QK8 hyo
                        subst e3
                        have HYO:=hidS hyo
                        have HYE:=hidS hye
                        have HYL:=hidS hyl
                        have HB3:=hidS hb3
                        have s3:=hb3.size
                        clear hyl hyo hye hb3)
 have HD3:=hidS (HDY.out.on HB3.out)
 have HM3:=hidS (HMP.out.kept (grown_below HB3.out none) (by simp))
 have k3:=(HB3.out.block _ (by omega)).trans HKY.out
 have HK3:=hidS k3
 have HV3:=hidS (HVY.out.trans (HB3.out.mono HVY.out.size))
 clear y0 y1 y2 y3
 go_upto_region 7 with (first
  | (at_make; refine wpList_make_full _ rfl _ _ 67 rfl w3.heap.size 3 i2 (.int .i64 0) 1 Tryz.underlying67 hk hx0 hx1 .i64 .i64 _ _ F rfl rfl rfl rfl (by rw [hx2]; omega) (by unfold maxLen; omega) (by simp) ?_; intro w4 hrow4 hg4
     have HR4:=hidS hrow4
     have HG4:=hidS hg4
     have s4:=hg4.size
     have k4:=(hg4.block _ (by omega) (by simp)).trans HK3.out
     have q5:=QQ0 (i:=5) k4 rfl
     have f5:=QQ1 (i:=5) k4
     have l5:X.heap.size+1<w4.heap.size:=by omega
     have HK4:=hidS k4
     clear hrow4 hg4 k4))
 obtain⟨gM,hgM⟩:∃ gM,X.heap.size=gM:=⟨_,rfl⟩
 obtain⟨gS,hgS⟩:∃ gS,w3.heap.size=gS:=⟨_,rfl⟩
 rw[hgM]at sY HM3 q5 f5 l5 HK4 ⊢
 rw[hgS]at HR4 s4 ⊢
 have hMS:gM+2<=gS:=by omega
 obtain⟨Z,hZ⟩:∃ Z,w4.setCell ⟨gM+1,5,none⟩ (.slice (some ⟨gS,0,none⟩) F F)=Z:=⟨_,rfl⟩
 have hgZ:w4.grownBy Z (some (gM+1)):=by rw[<-hZ];exact QX3 _ _ _ _
 have kZ:Z.heap[gM+1]?=some (.cells #[.slice a C.length cap,.int .i64 loops,.slice (some ⟨gF,0,none⟩) (2*C.length+1) cF,.slice (some ⟨gT,0,none⟩) (2*C.length+1) cT,.map (some gM),.slice (some ⟨gS,0,none⟩) F F] 75 (0,0)):=by rw[<-hZ,QX1 HK4.out];rfl
 rw[hZ]
 have sZ:=hgZ.size
 have hgs4:=(HR4.out.lt gS rfl).2
 have HRZ : Hid (Z.ownsRow 0 3 1 (.slice (some ⟨gS, 0, none⟩) F F) F (QX2 (List.replicate F 0))) := (by
  have h:=HR4.out
  rw[XB0]at h
  exact QZ7 (h.kept hgZ (Or.inr (fun e=>by have:gS=gM+1:=Option.some.inj e;omega))) (Nat.zero_le _))
 have HMZ:=hidS ((HM3.out.kept HG4.out (by simp)).kept hgZ (fun e=>by have:=Option.some.inj e;omega))
 have hlt3:=HD3.out.ltF
 have hlt3':=HD3.out.ltT
 have HVZ:Hid (Below w2.heap.size w2 Z):=((H2X.out.trans ((HXY.out.trans (HB3.out.mono (by omega))).mono (by omega))).grown HG4.out (by omega) (fun q hq=>by cases hq)).grown hgZ (by omega) (fun q hq=>by have:=Option.some.inj hq;omega)
 have far3:∀ (q:Nat),q<w3.heap.size->q≠gM+1->Z.heap[q]?=w3.heap[q]?:=fun q hq hne=>(hgZ.block q (by omega) (fun e=>hne (Option.some.inj e))).trans (HG4.out.block q (by omega) (by simp))
 have HFAR:=hidS far3
 obtain⟨g3,c3',e3,hg3a,hg3b⟩:=Qw2 HYO.out (by omega)
 injection e3 with e31 e32 e33
 subst e31
 have HRD:Hid (∀ W:World,(∀ q,q<Z.heap.size->q≠gM->q≠gS->W.heap[q]?=Z.heap[q]?)->∀ i,i<F->∃ gi ci,W.cell? ⟨g3,i,none⟩=some (.slice (some ⟨gi,0,none⟩) ((QQ3 C).getD i []).length ci)/\(Y.heap.size<=gi/\gi<gS)/\∀ k,k<((QQ3 C).getD i []).length->W.cell? ⟨gi,k*2,none⟩=some (.int .i64 (dA (((QQ3 C).getD i []).getD k 0):Nat))/\W.cell? ⟨gi,k*2+1,none⟩=some (.bool (dB (((QQ3 C).getD i []).getD k 0)))):=fun W hW i hi=>by
  have hcl:∀ q j u,q<w3.heap.size->Y.heap.size<=q->w3.cell? ⟨q,j,none⟩=some u->W.cell? ⟨q,j,none⟩=some u:=fun q j u hq1 hq2 hu=>by
   have e:=(hW q (by omega) (by omega) (by omega)).trans (HFAR.out q hq1 (by omega))
   simp only[World.cell?]at hu ⊢
   rw[e]
   exact hu
  have hface:=ZW6 HM.out (i:=i) (by rw[HF.out];exact hi)
  have hye:=HYE.out i (by rw[HF.out];exact hi)
  obtain⟨gi,ci,ei,hga,hgb⟩:=Qw2 hye hface.1
  have h1:=HYO.out.cellAt i (by omega)
  have hyl:i<ys.length:=by rw[HYL.out,HF.out];exact hi
  have e4:ys[i]?=some (ys.getD i (.bool false)):=by rw[List.getD_eq_getElem?_getD,List.getElem?_eq_getElem hyl];rfl
  rw[e4,ei]at h1
  rw[ei]at hye
  refine⟨gi,ci,hcl g3 i _ hg3b hg3a h1,⟨hga,by omega⟩,fun k hk=>?_⟩
  have g:=Xx3 (dd ((QQ3 C).getD i [])) k (by rw[Kz5];exact hk)
  rw[Kz6 _ k hk]at g
  exact⟨hcl gi _ _ hgb hga ((hye.cellAt (k*2) (by omega)).trans g.1),hcl gi _ _ hgb hga ((hye.cellAt (k*2+1) (by omega)).trans g.2)⟩
 have HS0:Hid (SfAt w2 Z Z gM gS 0 F C (fun j=>j<=4*C.length/\fo C j<0) 0):=⟨HMZ.out.congr (Nat.le_refl _) (fun x _ hx=>absurd hx.2 (Nat.not_lt_zero _)),⟨_,by simp,fun f hf=>absurd hf (Nat.not_lt_zero _),HRZ.out⟩,fun _ _ _ _=>rfl,Nat.le_refl _,HVZ.out⟩
 have HKZ:=hidS kZ
 have hsZ3:gS<Z.heap.size:=by omega
 have hwZ:w.heap.size+2<=Z.heap.size:=by omega
 have hwM:w.heap.size+2<=gM:=by omega
 clear q5 f5 l5 hgZ kZ hZ far3 HR4 HRZ HMZ HM3 e32 e33 HG4 HK4
 go_wp2
 go_loopw [32] (fun v32 wr=>∃ i:Nat,i<=F/\v32=.int .i64 (i:Nat)/\Hid (SfAt w2 Z wr gM gS (100*i) F C (fun j=>j<=4*C.length/\fo C j<i) i)) (fun v32 _=>F-(intOf v32).toNat)
 case atStart=>exact⟨0,Nat.zero_le _,rfl,HS0⟩
 case round=>
  clear HS0
  rename World=>W1
  obtain⟨i,hi,rfl,hsf⟩:=hrel
  by_cases hil:i<F
  · have hii:(i:Int)<(F:Int):=by omega
    have hii0:(0:Int)<=(i:Int):=by omega
    obtain⟨l,hl⟩:∃ l,(QQ3 C).getD i []=l:=⟨_,rfl⟩
    have hface:=ZW6 HM.out (i:=i) (by rw[HF.out];exact hil)
    rw[hl]at hface
    have hl9:l.length<=65:=by
     obtain⟨-,hff⟩:=QY4 HM.out
     have h:=(hff i (by rw[HF.out];exact hil)).2.1
     rw[hl]at h
     omega
    obtain⟨gi,ci,hr0,hr1,hr2⟩:=HRD.out W1 hsf.out.keep i hil
    rw[hl]at hr0 hr2
    obtain⟨n,hn9⟩:∃ n,l.length=n:=⟨_,rfl⟩
    have HLN:=hidS hn9
    rw[hn9]at hr0 hr2 hface hl9
    have HRW:=hidS hr2
    have HFC:=hidS hface
    have HKG:=hidS (hsf.out.keep gi (by omega) (by omega) (by omega))
    have hcb:=(hsf.out.keep (gM+1) (by omega) (by omega) (by omega)).trans HKZ.out
    have b4:=QQ0 (i:=4) hcb rfl
    have b5:=QQ0 (i:=5) hcb rfl
    have lw1:=hsf.out.size
    have lc:gM+1<W1.heap.size:=by omega
    have lg3:g3<W1.heap.size:=by omega
    have lgs:gS<W1.heap.size:=by omega
    obtain⟨L,hLl,hLi,hLo⟩:=hsf.out.sh
    have w0:W1.cell? ⟨gS,i,none⟩=some (.int .i64 (L.getD i 0)):=(hLo.cellAt i (by omega)).trans (QZ1 L i (by omega))
    have z0:W1.frozen? ⟨gS,i,none⟩=false:=hLo.frozenAt i
    have hst:=hLo.stored i (.int .i64 (-1))
    rw[QJ1]at hst
    obtain⟨W2,hW2⟩:∃ W2,W1.setCell ⟨gS,i,none⟩ (.int .i64 (-1))=W2:=⟨_,rfl⟩
    rw[hW2]at hst
    have HW2:=hidS hW2
    have HS2 : Hid (SfAt w2 Z W2 gM gS (100 * i) F C (fun j => j ≤ 4 * C.length ∧ fo C j < i) (i + 1)) := ⟨hsf.out.mp.kept hst.2 (fun e => by have := Option.some.inj e; omega), ⟨L.set i (-1), by rw [List.length_set]; exact hLl, fun f hf => by
        rw[QA4]
        by_cases e:i=f/\i<L.length
        · rw[if_pos e]
        · rw[if_neg e]
          refine hLi f ?_
          rcases Nat.lt_or_ge f i with q|q
          · exact q
          · exact absurd ⟨by omega,by omega⟩ e,hst.1⟩,fun q hq h1 h2=>(hst.2.block q (by omega) (fun e=>h2 (Option.some.inj e))).trans (hsf.out.keep q hq h1 h2),Nat.le_trans hsf.out.size hst.2.size,hsf.out.bel.grown hst.2 (by omega) (fun q hq=>by have:=Option.some.inj hq;omega)⟩
    clear hst hLo hLi hLl hW2 hcb hsf hface hr2
    go_upto_region 11 with(fail)
    rw[HW2.out]
    clear b4 b5 w0 z0 hr0
    have HSI : Hid (SfAt w2 Z W2 gM gS (100 * i + 0) F C (fun j => j ≤ 4 * C.length ∧ (fo C j < i ∨ (fo C j = i ∧ ∃ k, k < 0 ∧ l.getD k 0 = j))) (i + 1)) := ⟨HS2.out.mp.congr (Nat.le_refl _) (fun x _ hx => by
        rcases hx with⟨h0,h|⟨-,k,h,-⟩⟩
        · exact⟨⟨h0,h⟩,rfl⟩
        · exact absurd h (Nat.not_lt_zero _)),HS2.out.sh,HS2.out.keep,HS2.out.size,HS2.out.bel⟩
    go_wp2
    go_loopw [43] (fun v43 ws=>∃ k:Nat,k<=n/\v43=.int .i64 (k:Nat)/\Hid (SfAt w2 Z ws gM gS (100*i+k) F C (fun j=>j<=4*C.length/\(fo C j<i∨(fo C j=i/\∃ q,q<k/\l.getD q 0=j))) (i+1))) (fun v43 _=>n-(intOf v43).toNat)
    case atStart=>exact⟨0,Nat.zero_le _,rfl,HSI⟩
    case round=>
     clear HSI HS2
     rename World=>W3
     obtain⟨k,hk,rfl,hsf⟩:=hrel
     by_cases hkl:k<n
     · have hki:(k:Int)<(n:Int):=by omega
       have hki0:(0:Int)<=(k:Int):=by omega
       have hadd:IntKind.i64.wrap ((k:Int)+1)=(k:Int)+1:=IntWalk.i64_in _ (by omega)
       obtain⟨x,hx⟩:∃ x,l.getD k 0=x:=⟨_,rfl⟩
       have hx3:=HFC.out.2.1 k hkl
       rw[hx]at hx3
       obtain⟨xA,hxA⟩:∃ q,dA x=q:=⟨_,rfl⟩
       obtain⟨xB,hxB⟩:∃ q,dB x=q:=⟨_,rfl⟩
       have hblk:W3.heap[gi]?=W1.heap[gi]?:=(hsf.out.keep gi (by omega) (by omega) (by omega)).trans HKG.out.symm
       have hcel:∀ j u,W1.cell? ⟨gi,j,none⟩=some u->W3.cell? ⟨gi,j,none⟩=some u:=fun j u hu=>by
        simp only[World.cell?]at hu ⊢
        rw[hblk]
        exact hu
       have hrr:=HRW.out k hkl
       rw[hx,hxA,hxB]at hrr
       have c0:=hcel _ _ hrr.1
       have c1:=hcel _ _ hrr.2
       have lsz:=hsf.out.size
       have lgi:gi<W3.heap.size:=by omega
       have hkb:=(hsf.out.keep (gM+1) (by omega) (by omega) (by omega)).trans HKZ.out
       obtain⟨V3,hV3⟩:∃ V3,W3.alloc (.cells #[.int .i64 (xA:Nat),.bool xB] 104)=V3:=⟨_,rfl⟩
       have hg3':W3.grownBy V3 none:=by rw[<-hV3];exact World.grownBy_alloc _ _ none
       have kd:V3.heap[W3.heap.size]?=some (.cells #[.int .i64 (xA:Nat),.bool xB] 104 (0,0)):=by rw[<-hV3];exact alloc_at rfl
       have kb:=(hg3'.block (gM+1) (by omega) (by simp)).trans hkb
       have lV3:W3.heap.size<V3.heap.size:=by rw[<-hV3];simp
       have hSV:=hsf.out.grown (by omega) hg3'
       obtain⟨w',hrun,hmp,hgw⟩:=hSV.mp.put x i hx3.1 (by omega) (by omega) (by omega)
       unfold dtV at hrun
       rw[hxA,hxB]at hrun
       have d0:=QQ0 (i:=0) kd rfl
       have d1:=QQ0 (i:=1) kd rfl
       have d4:=QQ0 (i:=4) kb rfl
       have ld:gM+1<V3.heap.size:=by omega
       have HSN : Hid (SfAt w2 Z w' gM gS (100 * i + (k + 1)) F C (fun j => j ≤ 4 * C.length ∧ (fo C j < i ∨ (fo C j = i ∧ ∃ q, q < k + 1 ∧ l.getD q 0 = j))) (i + 1)) := ⟨hmp.congr (Nat.le_refl _) (fun y _ hy => by
           by_cases e:y=x
           · exact⟨Or.inl e,by show fo C y=if y=x then i else fo C y;rw[if_pos e,e];exact hx3.2.2⟩
           · refine⟨Or.inr ?_,by show fo C y=if y=x then i else fo C y;rw[if_neg e]⟩
             rcases hy with⟨h0,h|⟨h1,q,h2,h3⟩⟩
             · exact⟨h0,Or.inl h⟩
             · refine⟨h0,Or.inr ⟨h1,q,?_,h3⟩⟩
               rcases Nat.lt_or_ge q k with g|g
               · exact g
               · have:q=k:=by omega
                 subst this
                 exact absurd (h3.symm.trans hx) e),(by
           obtain⟨L,h1,h2,h3⟩:=hSV.sh
           exact⟨L,h1,h2,h3.kept hgw (Or.inr (fun e=>by have:gS=gM:=Option.some.inj e;omega))⟩),fun q hq h1 h2=>(hgw.block q (by have:=hSV.size;omega) (fun e=>h1 (Option.some.inj e))).trans (hSV.keep q hq h1 h2),Nat.le_trans hSV.size hgw.size,hSV.bel.grown hgw (by have:=hSV.size;omega) (fun q hq=>by have:=Option.some.inj hq;omega)⟩
       have HV3:=hidS hV3
       clear hrr hcel hblk hkb hg3' kd kb hSV hmp hgw hV3 hsf hx hxA hxB hx3
       go_upto_region 14 with(fail)
       rw[HV3.out]
       clear c0 c1
       go_wp2
       go_roundw
       all_goals first
        |(simp only[intOf];omega)
        |exact⟨k+1,by omega,by go_num,HSN⟩
     · obtain rfl:k=n:=by omega
       have hadd:IntKind.i64.wrap ((i:Int)+1)=(i:Int)+1:=IntWalk.i64_in _ (by omega)
       have HSE : Hid (SfAt w2 Z W3 gM gS (100 * (i + 1)) F C (fun j => j ≤ 4 * C.length ∧ fo C j < i + 1) (i + 1)) := ⟨hsf.out.mp.congr (by omega) (fun x h1 hx => ⟨⟨hx.1, by
           rcases Nat.lt_or_ge (fo C x) i with q|q
           · exact Or.inl q
           · have e:fo C x=i:=by have:=hx.2;omega
             exact Or.inr ⟨e,HFC.out.2.2 x h1 hx.1 e⟩⟩,rfl⟩),hsf.out.sh,hsf.out.keep,hsf.out.size,hsf.out.bel⟩
       clear hsf
       go_wp2
       go_roundw
       all_goals first
        |(simp only[intOf];omega)
        |exact⟨i+1,by omega,by go_num,HSE⟩
  · obtain rfl:i=F:=by omega
    obtain⟨L,hLl,hLi,hLo⟩:=hsf.out.sh
    have hwd:=HD2.out.on hsf.out.bel
    have hltF:=HD2.out.ltF
    have hltT:=HD2.out.ltT
    have hcross:=HD2.out.cross
    have hblkA:∀ ad,0<C.length->a=some ad->ad.block<w2.heap.size:=fun ad hp e=>by
     obtain⟨b,off,h1,h2,-⟩:=hcross hp
     rw[h1]at e
     rw[<-Option.some.inj e]
     exact h2
    have hCh:Ch W1 a cap C gF gT gM gS L:=⟨hwd,hsf.out.mp.congr (by omega) (fun x h1 hx=>⟨⟨hx,by rw[<-HF.out];exact Xq3 x h1 hx⟩,rfl⟩),by rw[HF.out];exact hLo,by omega,by omega,by omega,fun hp ad e=>by have:=hblkA ad hp e;omega⟩
    have hSd:Sd s (QQ3 C).length L:=⟨by rw[HF.out];exact hLl,fun f hf=>Or.inl (hLi f (by rw[<-HF.out];exact hf))⟩
    have hspr:=XY0 C loops s HM.out HSH.out (uns L) a cap gF cF gT cT gM gS 0 L W1 (Nat.le_refl _) (by rw[HF.out];omega) (hLi 0 (by omega)) hSd hCh
    rw[HSH.out.zero]at hspr
    unfold chV at hspr
    rw[HF.out]at hspr
    have HSPR:=hidS hspr
    have HLI:=hidS hLi
    have hcb:=(hsf.out.keep (gM+1) (by omega) (by omega) (by omega)).trans HKZ.out
    have HCB:=hidS hcb
    have b0:=QQ0 (i:=0) hcb rfl
    have b1:=QQ0 (i:=1) hcb rfl
    have b2:=QQ0 (i:=2) hcb rfl
    have b3:=QQ0 (i:=3) hcb rfl
    have b4:=QQ0 (i:=4) hcb rfl
    have b5:=QQ0 (i:=5) hcb rfl
    have lw1:=hsf.out.size
    have lc:gM+1<W1.heap.size:=by omega
    have k2:=(HB2.out.block _ (by omega)).trans HK1.out
    have HK2:=hidS k2
    have kr:=(hsf.out.bel.block _ (by omega)).trans k2
    have HKR:=hidS kr
    have HBW:=hidS (HB.out.trans ((HB2.out.trans (hsf.out.bel.mono HB2.out.size)).mono (by omega)))
    have HBA:=hidS hblkA
    have HD2':=hidS HD2.out
    clear hspr hCh hSd hwd hLo hLi hsf hcross hblkA hcb k2 kr
    go_upto_region 18 with (go_at_call 56; refine HSPR.out.mono ?_; rintro e9 w9 ⟨rfl, L', hpd, hch9, hg9⟩
                            have HPD:=hidS hpd
                            have HC9:=hidS hch9
                            have HG9:=hidS hg9
                            have s9:=hg9.size
                            clear hpd hch9 hg9)
    have hLL:=HPD.out.all HM.out HO.out (fun g hg=>HLI.out g (by rw[<-HF.out];exact hg))
    have kc:=(HG9.out.block (gM+1) lc (fun e=>by have:=Option.some.inj e;omega)).trans HCB.out
    have kr:=(HG9.out.block (w.heap.size+1) (by omega) (fun e=>by have:=Option.some.inj e;omega)).trans HKR.out
    have n1:gF≠w.heap.size+1:=fun e=>by
     have t:=(HD2'.out.from_ 0 (by rw[QZ3];omega)).1
     have q:=QQ0 (i:=0) HK2.out rfl
     rw[e]at t
     simp only[Nat.zero_mul,Nat.add_zero]at t
     rw[q]at t
     cases t
    have n2:gT≠w.heap.size+1:=fun e=>by
     have t:=(HD2'.out.to 0 (by rw[QZ3];omega)).1
     have q:=QQ0 (i:=0) HK2.out rfl
     rw[e]at t
     simp only[Nat.zero_mul,Nat.add_zero]at t
     rw[q]at t
     cases t
    have n3:0<C.length->∀ ad,a=some ad->ad.block≠w.heap.size+1:=fun hp ad e e2=>by
     obtain⟨b,off,h1,h2,h3⟩:=HD2'.out.cross hp
     rw[h1]at e
     have e3:=Option.some.inj e
     subst e3
     simp only at e2
     subst e2
     obtain⟨t0,t1,-⟩:=h3 0 hp
     simp only[Nat.zero_mul,Nat.add_zero]at t0 t1
     have hb:∀ j,w2.cell? ⟨w.heap.size+1,j,none⟩=(#[Value.slice none 0 0,.int .i64 0,.slice none 0 0,.slice none 0 0,.map none,.slice none 0 0])[j]?:=fun j=>by simp only[World.cell?,HK2.out];rfl
     rw[hb]at t0 t1
     match off,t0,t1 with
     |0,t0,_=>cases t0
     |1,_,t1=>cases t1
     |2,t0,_=>cases t0
     |3,t0,_=>cases t0
     |4,t0,_=>cases t0
     |5,t0,_=>cases t0
     |k+6,t0,_=>simp at t0
    have hgR:=Zy3 w9 (w.heap.size+1) (.slice a C.length cap) (.int .i64 loops) (.slice (some ⟨gF,0,none⟩) (2*C.length+1) cF) (.slice (some ⟨gT,0,none⟩) (2*C.length+1) cT) (.map (some gM)) (.slice (some ⟨gS,0,none⟩) i i)
    have hcF:=HC9.out.off hgR ⟨fun e=>n1 (Option.some.inj e).symm,fun e=>n2 (Option.some.inj e).symm,fun e=>by have:=Option.some.inj e;omega,fun e=>by have:=Option.some.inj e;omega,fun hp ad e e2=>n3 hp ad e (Option.some.inj e2).symm⟩
    rw[hLL]at hcF
    have hbF:=(HBW.out.grown HG9.out (by omega) (fun q hq=>by have:=Option.some.inj hq;omega)).grown hgR (by omega) (fun q hq=>by have:=Option.some.inj hq;omega)
    have HFIN:Hid (Ch _ a cap C gF gT gM gS (shL s (QQ3 C).length)/\w.heap.size<=gS/\w.heap.size<=gM/\Below w.heap.size w _):=⟨hcF,by omega,by omega,hbF⟩
    have hst6:=Zy4 (d0:=.slice a C.length cap) (d1:=.int .i64 loops) (d2:=.slice (some ⟨gF,0,none⟩) (2*C.length+1) cF) (d3:=.slice (some ⟨gT,0,none⟩) (2*C.length+1) cT) (d4:=.map (some gM)) (d5:=.slice (some ⟨gS,0,none⟩) i i) kr
    have HST6:=hidS hst6
    have y0:=QQ0 (i:=0) kc rfl
    have y1:=QQ0 (i:=1) kc rfl
    have y2:=QQ0 (i:=2) kc rfl
    have y3:=QQ0 (i:=3) kc rfl
    have y4:=QQ0 (i:=4) kc rfl
    have y5:=QQ0 (i:=5) kc rfl
    have x0:=QQ0 (i:=0) kr rfl
    have x1:=QQ0 (i:=1) kr rfl
    have x2:=QQ0 (i:=2) kr rfl
    have x3:=QQ0 (i:=3) kr rfl
    have x4:=QQ0 (i:=4) kr rfl
    have x5:=QQ0 (i:=5) kr rfl
    have z0:=QQ1 (i:=0) kr
    have z1:=QQ1 (i:=1) kr
    have z2:=QQ1 (i:=2) kr
    have z3:=QQ1 (i:=3) kr
    have z4:=QQ1 (i:=4) kr
    have z5:=QQ1 (i:=5) kr
    have l9:gM+1<w9.heap.size:=by omega
    have l8:w.heap.size+1<w9.heap.size:=by omega
    clear hst6 hcF hbF hgR n1 n2 n3 kc kr hLL b0 b1 b2 b3 b4 b5
    go_wp2
    refine bodyPost_ret (Zd0 HST6.out rfl rfl) rfl ⟨a,cap,gF,cF,gT,cT,gM,gS,?_,HFIN.out⟩
    unfold chV
    rw[HF.out]
end Go.Proofs.YtookanmeflbdlaaGreatDoor
