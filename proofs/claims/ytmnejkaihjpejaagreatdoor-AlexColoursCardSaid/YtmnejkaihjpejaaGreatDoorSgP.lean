/- Several texts of the proof, one behind the other. -/
import Derived.Test.YtmnejkaihjpejaaGreatDoorF11P
import Derived.Test.YtmnejkaihjpejaaGreatDoorW1P
import Derived.Test.YtmnejkaihjpejaaGreatDoorH7
import Derived.Test.YtmnejkaihjpejaaGreatDoorF2P
import Derived.Test.YtmnejkaihjpejaaGreatDoorQueP
/- drawing.Single: a drawing on a sphere, of one piece and without loops. -/
namespace Go.Proofs.YtmnejkaihjpejaaGreatDoor
open Go.RowKit
set_option maxHeartbeats 4000000
set_option maxRecDepth 100000
def oneB (C:List Cr) (loops:Int):Bool:=(decide (0<C.length)&&(List.range C.length).all fun v=>decide ((whoM C).getD v 0=0))&&decide (loops=0)
theorem one_iff {C:List Cr} {loops:Int} (hm:mayD C loops=true) {P:List Int} {c:Nat} (hP:PcsAll C P c):c=1↔(0<C.length/\∀ v,v<C.length->(whoM C).getD v 0=0):=by
 have hW:Least (arcE C) C.length (whoM C):=levR_least (arcE_lt hm) _ (Nat.le_refl _)
 constructor
 · intro h
   subst h
   obtain⟨v0,h0,-⟩:=hP.used 0 (by omega)
   have hp:0<C.length:=by omega
   refine⟨hp,fun v hv=>?_⟩
   have a:=hP.vals v hv
   have b:=hP.vals 0 hp
   have e:P.getD v 0=P.getD 0 0:=by omega
   have hc:=(hP.same v 0 hv hp).1 e
   have:=(hW.2 v hv).2 0 hc
   omega
 · rintro⟨hp,h⟩
   have b:=hP.vals 0 hp
   refine Classical.byContradiction fun hne=>?_
   have hc:2<=c:=by omega
   obtain⟨u,hu,eu⟩:=hP.used 0 (by omega)
   obtain⟨v,hv,ev⟩:=hP.used 1 (by omega)
   have e:=(hP.same u v hu hv).2 ((hW.same hu hv).1 (by rw[h u hu,h v hv]))
   rw[eu,ev]at e
   omega
theorem single_no (hFR : FaceRingsOk) (v : Value) (C : List Cr) (loops : Int) (w : World) (hn : noN C loops ≠ 0) (h : Crs w w.heap.size v C) :
    Calls Tryz.prog 34 #[.agg #[v,.int .i64 loops]] w fun e w'=>e=.returned (.tuple #[noDrawing,.int .i64 (noN C loops)])/\Below w.heap.size w w':=by
 have HC:Hid (Crs w w.heap.size v C):=h
 obtain⟨a,cap,rfl,-,-⟩:=h
 have HF:Hid (∀ W,Crs W W.heap.size (.slice a C.length cap) C->Calls Tryz.prog 17 #[.agg #[.slice a C.length cap,.int .i64 loops]] W fun e w'=>e=.returned (.tuple #[noDrawing,.int .i64 (noN C loops)])/\Below W.heap.size W w'):=fun W hW=>by
  unfold noN at hn ⊢
  cases hm:mayD C loops with
  |false=>exact flat_no _ C loops W hm hW
  |true=>
   cases hp:planarB C with
   |false=>exact flat_bad hFR _ C loops W hm hp hW
   |true=>rw[hm,hp]at hn;exact absurd rfl hn
 generalize noN C loops=r at hn HF
 have hr0:(r==0)=false:=beq_eq_false_iff_ne.2 hn
 have HB1:Hid (Below w.heap.size w ((w.alloc (.cells #[.slice a C.length cap,.int .i64 loops] 24)).alloc (.cells #[.slice none 0 0,.int .i64 0,.slice none 0 0,.slice none 0 0] 41))):=below2 _ _ _
 go_enter Tryz.func34,Tryz.ntmps34
 go_wp2_with (go_at_call 17;refine(HF.out _ (HC.out.up HB1.out)).mono ?_;rintro e9 w2 ⟨rfl,hb2⟩;refine Hid.out ?_)
 refine Lib.hid ?_
 unfold noDrawing
 have HB2:Hid (Below w.heap.size w w2):=HB1.out.trans (hb2.mono (by simp;omega))
 have hR:w2.heap[w.heap.size+1]?=some (.cells #[.slice none 0 0,.int .i64 0,.slice none 0 0,.slice none 0 0] 41 (0,0)):=(hb2.block _ (by simp)).trans (alloc_at (by simp))
 have HR:Hid (w2.heap[w.heap.size+1]?=some (.cells #[.slice none 0 0,.int .i64 0,.slice none 0 0,.slice none 0 0] 41 (0,0))):=hR
 have hs2:w.heap.size+2<=w2.heap.size:=by have:=hb2.size;simpa using this
 have hA:(w2.alloc (.cells #[.slice none 0 0,.int .i64 0,.slice none 0 0,.slice none 0 0] 41)).heap[w.heap.size+1]?=some (.cells #[.slice none 0 0,.int .i64 0,.slice none 0 0,.slice none 0 0] 41 (0,0)):=alloc_old hR
 have HA:Hid ((w2.alloc (.cells #[.slice none 0 0,.int .i64 0,.slice none 0 0,.slice none 0 0] 41)).heap[w.heap.size+1]?=some (.cells #[.slice none 0 0,.int .i64 0,.slice none 0 0,.slice none 0 0] 41 (0,0))):=hA
 have HBA:Hid (Below w.heap.size w (w2.alloc (.cells #[.slice none 0 0,.int .i64 0,.slice none 0 0,.slice none 0 0] 41))):=HB2.out.alloc HB2.out.size _
 have c0:(w2.alloc (.cells #[.slice none 0 0,.int .i64 0,.slice none 0 0,.slice none 0 0] 41)).cell? ⟨w.heap.size+1,0,none⟩=some (.slice none 0 0):=block_cell hA rfl
 have c1:(w2.alloc (.cells #[.slice none 0 0,.int .i64 0,.slice none 0 0,.slice none 0 0] 41)).cell? ⟨w.heap.size+1,1,none⟩=some (.int .i64 0):=block_cell hA rfl
 have c2:(w2.alloc (.cells #[.slice none 0 0,.int .i64 0,.slice none 0 0,.slice none 0 0] 41)).cell? ⟨w.heap.size+1,2,none⟩=some (.slice none 0 0):=block_cell hA rfl
 have c3:(w2.alloc (.cells #[.slice none 0 0,.int .i64 0,.slice none 0 0,.slice none 0 0] 41)).cell? ⟨w.heap.size+1,3,none⟩=some (.slice none 0 0):=block_cell hA rfl
 have f0:(w2.alloc (.cells #[.slice none 0 0,.int .i64 0,.slice none 0 0,.slice none 0 0] 41)).frozen? ⟨w.heap.size+1,0,none⟩=false:=block_frozen hA
 have f1:(w2.alloc (.cells #[.slice none 0 0,.int .i64 0,.slice none 0 0,.slice none 0 0] 41)).frozen? ⟨w.heap.size+1,1,none⟩=false:=block_frozen hA
 have f2:(w2.alloc (.cells #[.slice none 0 0,.int .i64 0,.slice none 0 0,.slice none 0 0] 41)).frozen? ⟨w.heap.size+1,2,none⟩=false:=block_frozen hA
 have f3:(w2.alloc (.cells #[.slice none 0 0,.int .i64 0,.slice none 0 0,.slice none 0 0] 41)).frozen? ⟨w.heap.size+1,3,none⟩=false:=block_frozen hA
 clear hb2 hR hA
 go_wp2
 have hG:=st4_grown (w2.alloc (.cells #[.slice none 0 0,.int .i64 0,.slice none 0 0,.slice none 0 0] 41)) (w.heap.size+1) (.slice none 0 0) (.int .i64 0) (.slice none 0 0) (.slice none 0 0)
 have hX:=st4_block (a:=.slice none 0 0) (b:=.int .i64 0) (c:=.slice none 0 0) (d:=.slice none 0 0) HA.out
 have x0:=block_cell (i:=0) (v:=.slice none 0 0) hX rfl
 have x1:=block_cell (i:=1) (v:=.int .i64 0) hX rfl
 have x2:=block_cell (i:=2) (v:=.slice none 0 0) hX rfl
 have x3:=block_cell (i:=3) (v:=.slice none 0 0) hX rfl
 have hbb:=HBA.out.grown hG HBA.out.size (fun k hk=>by have:=Option.some.inj hk;omega)
 unfold st4 at x0 x1 x2 x3
 exact bodyPost_ret (v:=.tuple #[.agg #[.slice none 0 0,.int .i64 0,.slice none 0 0,.slice none 0 0],.int .i64 r]) (by simp[results,Tryz.results34,go_sem,x0,x1,x2,x3]) rfl ⟨rfl,hbb⟩
def SingleOut (C:List Cr) (loops:Int) (ob:Bool) (w:World) (e:Ending) (w':World):Prop:=
 (match ob with|true=>∃ a cap gF cF gT cT,e=.returned (.tuple #[drV a cap C loops gF cF gT cT,.int .i64 0])/\Dr w' a cap C gF gT|false=>e=.returned (.tuple #[noDrawing,.int .i64 6]))/\Below w.heap.size w w'
theorem single_some (hFR : FaceRingsOk) (v : Value) (C : List Cr) (loops : Int) (w : World) (hn : noN C loops = 0) (h : Crs w w.heap.size v C) :
    Calls Tryz.prog 34 #[.agg #[v,.int .i64 loops]] w (SingleOut C loops (oneB C loops) w):=by
 have HC:Hid (Crs w w.heap.size v C):=h
 obtain⟨hm,hp⟩:=noN_zero hn
 have HM:Hid (mayD C loops=true):=hm
 have HP:Hid (planarB C=true):=hp
 have HFA:Hid FaceRingsOk:=hFR
 obtain⟨s1,s2,s3,s4⟩:=sizeB_iff (may_size hm)
 obtain⟨a,cap,rfl,-,-⟩:=h
 have HO:Hid (∀ P c,PcsAll C P c->oneB C loops=(decide (c=1)&&decide (loops=0))):=fun P c hP=>by
  unfold oneB
  congr 1
  have h1:=one_iff hm hP
  rw[Bool.eq_iff_iff,Bool.and_eq_true,decide_eq_true_eq,decide_eq_true_eq,List.all_eq_true,h1]
  simp only[List.mem_range,decide_eq_true_eq]
 obtain⟨ob,hob⟩:∃ ob,oneB C loops=ob:=⟨_,rfl⟩
 rw[hob]at HO ⊢
 clear hob
 have HB1:Hid (Below w.heap.size w ((w.alloc (.cells #[.slice a C.length cap,.int .i64 loops] 24)).alloc (.cells #[.slice none 0 0,.int .i64 0,.slice none 0 0,.slice none 0 0] 41))):=below2 _ _ _
 clear hm hp hn hFR
 go_enter Tryz.func34,Tryz.ntmps34
 go_wp2_with (go_at_call 17;refine(flat_yesB HFA.out a cap C loops _ HM.out HP.out (HC.out.up HB1.out)).mono ?_;rintro e9 w2 ⟨gF,cF,gT,cT,rfl,⟨hdr,hgF,hgT⟩,hb2⟩;refine Hid.out ?_)
 refine Lib.hid ?_
 have HDR:Hid (Dr w2 a cap C gF gT):=hdr
 unfold drV
 have HB2:Hid (Below w.heap.size w w2):=HB1.out.trans (hb2.mono (by simp;omega))
 have HR:Hid (w2.heap[w.heap.size+1]?=some (.cells #[.slice none 0 0,.int .i64 0,.slice none 0 0,.slice none 0 0] 41 (0,0))):=(hb2.block _ (by simp)).trans (alloc_at (by simp))
 have hs2:w.heap.size+2<=w2.heap.size:=by have:=hb2.size;simpa using this
 have hgF2:w.heap.size+2<=gF:=by have:=hgF;simp at this;omega
 have HGF:Hid (w.heap.size+2<=gF):=hgF2
 have hgT2:w.heap.size+2<=gT:=by have:=hgT;simp at this;omega
 have HGT:Hid (w.heap.size+2<=gT):=hgT2
 have HBA:Hid (Below w2.heap.size w2 (w2.alloc (.cells #[.slice a C.length cap,.int .i64 loops,.slice (some ⟨gF,0,none⟩) (2*C.length+1) cF,.slice (some ⟨gT,0,none⟩) (2*C.length+1) cT] 41))):=(Below.refl _ _).alloc (Nat.le_refl _) _
 clear hb2 hdr hgF hgT hgF2 hgT2
 go_wp2_with (go_at_call 59;refine(pieces_any a cap C loops gF cF gT cT _ HM.out (HDR.out.on HBA.out)).mono ?_;rintro e9 w3 ⟨gP,cP,P,c,rfl,-,hpc,hb3⟩;refine Hid.out ?_)
 refine Lib.hid ?_
 have HOB:Hid (ob=(decide (c=1)&&decide (loops=0))):=HO.out P c hpc
 have HB3:Hid (Below w2.heap.size w2 w3):=HBA.out.trans (hb3.mono (by simp))
 have HQ:Hid (w3.heap[w2.heap.size]?=some (.cells #[.slice a C.length cap,.int .i64 loops,.slice (some ⟨gF,0,none⟩) (2*C.length+1) cF,.slice (some ⟨gT,0,none⟩) (2*C.length+1) cT] 41 (0,0))):=(hb3.block _ (by simp)).trans (alloc_at rfl)
 have hs3:w2.heap.size+1<=w3.heap.size:=by have:=hb3.size;simpa using this
 have HK:Hid (∀ w',Below w3.heap.size w3 w'->w'.cell? ⟨w2.heap.size,0,none⟩=some (.slice a C.length cap)/\w'.cell? ⟨w2.heap.size,1,none⟩=some (.int .i64 loops)/\w'.cell? ⟨w2.heap.size,2,none⟩=some (.slice (some ⟨gF,0,none⟩) (2*C.length+1) cF)/\w'.cell? ⟨w2.heap.size,3,none⟩=some (.slice (some ⟨gT,0,none⟩) (2*C.length+1) cT)):=fun w' hb=>by
  have g:=(hb.block _ (by omega)).trans HQ.out
  exact⟨block_cell g rfl,block_cell g rfl,block_cell g rfl,block_cell g rfl⟩
 have HDK:Hid (∀ w',Below w3.heap.size w3 w'->Dr w' a cap C gF gT):=fun w' hb=>(HDR.out.on HB3.out).on hb
 have HBW:Hid (Below w.heap.size w w3):=HB2.out.trans (HB3.out.mono HB2.out.size)
 have hR:w3.heap[w.heap.size+1]?=some (.cells #[.slice none 0 0,.int .i64 0,.slice none 0 0,.slice none 0 0] 41 (0,0)):=(HB3.out.block _ (by omega)).trans HR.out
 have HR3:Hid (w3.heap[w.heap.size+1]?=some (.cells #[.slice none 0 0,.int .i64 0,.slice none 0 0,.slice none 0 0] 41 (0,0))):=hR
 have c0:w3.cell? ⟨w.heap.size+1,0,none⟩=some (.slice none 0 0):=block_cell hR rfl
 have c1:w3.cell? ⟨w.heap.size+1,1,none⟩=some (.int .i64 0):=block_cell hR rfl
 have c2:w3.cell? ⟨w.heap.size+1,2,none⟩=some (.slice none 0 0):=block_cell hR rfl
 have c3:w3.cell? ⟨w.heap.size+1,3,none⟩=some (.slice none 0 0):=block_cell hR rfl
 have f0:w3.frozen? ⟨w.heap.size+1,0,none⟩=false:=block_frozen hR
 have f1:w3.frozen? ⟨w.heap.size+1,1,none⟩=false:=block_frozen hR
 have f2:w3.frozen? ⟨w.heap.size+1,2,none⟩=false:=block_frozen hR
 have f3:w3.frozen? ⟨w.heap.size+1,3,none⟩=false:=block_frozen hR
 have l2:w.heap.size+1<w3.heap.size:=by omega
 have l3:w2.heap.size<w3.heap.size:=by omega
 clear hR
 clear hb3 hpc HO
 obtain⟨t0,t1,t2,t3⟩:=HK.out w3 (Below.refl _ _)
 by_cases hc1:c=1
 · subst hc1
   by_cases hl:loops=0
   · subst hl
     obtain rfl:ob=true:=HOB.out
     go_wp2
     have hG:=st4_grown w3 (w.heap.size+1) (.slice a C.length cap) (.int .i64 0) (.slice (some ⟨gF,0,none⟩) (2*C.length+1) cF) (.slice (some ⟨gT,0,none⟩) (2*C.length+1) cT)
     have hX:=st4_block (a:=.slice a C.length cap) (b:=.int .i64 0) (c:=.slice (some ⟨gF,0,none⟩) (2*C.length+1) cF) (d:=.slice (some ⟨gT,0,none⟩) (2*C.length+1) cT) HR3.out
     have x0:=block_cell (i:=0) (v:=.slice a C.length cap) hX rfl
     have x1:=block_cell (i:=1) (v:=.int .i64 0) hX rfl
     have x2:=block_cell (i:=2) (v:=.slice (some ⟨gF,0,none⟩) (2*C.length+1) cF) hX rfl
     have x3:=block_cell (i:=3) (v:=.slice (some ⟨gT,0,none⟩) (2*C.length+1) cT) hX rfl
     have hbb:=HBW.out.grown hG HBW.out.size (fun k hk=>by have:=Option.some.inj hk;omega)
     unfold st4 at x0 x1 x2 x3
     refine bodyPost_ret (v:=.tuple #[.agg #[.slice a C.length cap,.int .i64 0,.slice (some ⟨gF,0,none⟩) (2*C.length+1) cF,.slice (some ⟨gT,0,none⟩) (2*C.length+1) cT],.int .i64 0]) (by simp[results,Tryz.results34,go_sem,x0,x1,x2,x3]) rfl ⟨⟨a,cap,gF,cF,gT,cT,rfl,?_⟩,hbb⟩
     have D3:=HDK.out w3 (Below.refl _ _)
     have nF:gF≠w.heap.size+1:=by have:=HGF.out;omega
     have nT:gT≠w.heap.size+1:=by have:=HGT.out;omega
     exact⟨HC.out.up hbb,Nat.lt_of_lt_of_le D3.ltF hG.size,Nat.lt_of_lt_of_le D3.ltT hG.size,fun i hi=>⟨st4_cell nF (D3.from_ i hi).1,st4_cell nF (D3.from_ i hi).2⟩,fun i hi=>⟨st4_cell nT (D3.to i hi).1,st4_cell nT (D3.to i hi).2⟩⟩
   · have hl2:decide (0<loops)=true:=by simp;omega
     obtain rfl:ob=false:=by rw[HOB.out,decide_eq_false hl];simp
     go_wp2
     have hG:=st4_grown w3 (w.heap.size+1) (.slice none 0 0) (.int .i64 0) (.slice none 0 0) (.slice none 0 0)
     have hX:=st4_block (a:=.slice none 0 0) (b:=.int .i64 0) (c:=.slice none 0 0) (d:=.slice none 0 0) HR3.out
     have x0:=block_cell (i:=0) (v:=.slice none 0 0) hX rfl
     have x1:=block_cell (i:=1) (v:=.int .i64 0) hX rfl
     have x2:=block_cell (i:=2) (v:=.slice none 0 0) hX rfl
     have x3:=block_cell (i:=3) (v:=.slice none 0 0) hX rfl
     have hbb:=HBW.out.grown hG HBW.out.size (fun k hk=>by have:=Option.some.inj hk;omega)
     unfold st4 at x0 x1 x2 x3
     exact bodyPost_ret (v:=.tuple #[.agg #[.slice none 0 0,.int .i64 0,.slice none 0 0,.slice none 0 0],.int .i64 6]) (by simp[results,Tryz.results34,go_sem,x0,x1,x2,x3]) rfl ⟨rfl,hbb⟩
 · have hc2:((c:Int)==1)=false:=beq_eq_false_iff_ne.2 (by omega)
   obtain rfl:ob=false:=by rw[HOB.out,decide_eq_false hc1];rfl
   go_wp2
   have hG:=st4_grown w3 (w.heap.size+1) (.slice none 0 0) (.int .i64 0) (.slice none 0 0) (.slice none 0 0)
   have hX:=st4_block (a:=.slice none 0 0) (b:=.int .i64 0) (c:=.slice none 0 0) (d:=.slice none 0 0) HR3.out
   have x0:=block_cell (i:=0) (v:=.slice none 0 0) hX rfl
   have x1:=block_cell (i:=1) (v:=.int .i64 0) hX rfl
   have x2:=block_cell (i:=2) (v:=.slice none 0 0) hX rfl
   have x3:=block_cell (i:=3) (v:=.slice none 0 0) hX rfl
   have hbb:=HBW.out.grown hG HBW.out.size (fun k hk=>by have:=Option.some.inj hk;omega)
   unfold st4 at x0 x1 x2 x3
   exact bodyPost_ret (v:=.tuple #[.agg #[.slice none 0 0,.int .i64 0,.slice none 0 0,.slice none 0 0],.int .i64 6]) (by simp[results,Tryz.results34,go_sem,x0,x1,x2,x3]) rfl ⟨rfl,hbb⟩
end Go.Proofs.YtmnejkaihjpejaaGreatDoor
/- Shades of faces: plain mathematics. -/
namespace Go.Proofs.YtmnejkaihjpejaaGreatDoor
def tn (j:Nat):Nat:=mkD (dA j) (!dB j)
theorem tn_le {j n:Nat} (h1:1<=j) (h2:j<=4*n):1<=tn j/\tn j<=4*n:=by
 have h:=dA_le h1 h2
 exact mk_le h.1 h.2
theorem one_con {C:List Cr} {loops:Int} (hm:mayD C loops=true) (h:oneB C loops=true):0<C.length/\loops=0/\∀ k,k<C.length->Con (arcE C) 0 k:=by
 unfold oneB at h
 rw[Bool.and_eq_true,Bool.and_eq_true,decide_eq_true_eq,decide_eq_true_eq,List.all_eq_true]at h
 obtain⟨⟨h1,h2⟩,h3⟩:=h
 have hW:=whoM_least hm
 refine⟨h1,h3,fun k hk=>(hW.same h1 hk).1 ?_⟩
 have a:=h2 k (List.mem_range.2 hk)
 have b:=h2 0 (List.mem_range.2 h1)
 rw[decide_eq_true_eq]at a b
 rw[a,b]
structure Shd (C:List Cr) (s:Nat->Nat):Prop where
 zero:s 0=0
 two:∀ f,s f<2
 arc:∀ j,1<=j->j<=4*C.length->s (fo C (tn j))=1-s (fo C j)
theorem shd_ex {C:List Cr} {loops:Int} (hm:mayD C loops=true) (hp:planarB C=true) (h:oneB C loops=true):∃ s,Shd C s:=by
 obtain⟨h0,-,h1⟩:=one_con hm h
 obtain⟨g,hg⟩:=two_shades hm hp h0 h1
 refine⟨fun f=>if g f=g 0 then 0 else 1,by simp,fun f=>by show(if g f=g 0 then 0 else 1)<2;split<;>omega,fun j hj1 hj2=>?_⟩
 have hA:=dA_le hj1 hj2
 have hs:=hg (dA j) hA.1 hA.2
 unfold sides at hs
 have e:j=mkD (dA j) (dB j):=(mk_d hj1).symm
 have key:g (fo C (tn j))=!g (fo C j):=by
  have e2:fo C j=fo C (mkD (dA j) (dB j)):=by rw[<-e]
  rw[e2]
  unfold tn
  cases hb:dB j
  · simp only[Bool.not_false]
    revert hs
    cases g (fo C (mkD (dA j) true))<;>cases g (fo C (mkD (dA j) false))<;>simp
  · simp only[Bool.not_true]
    revert hs
    cases g (fo C (mkD (dA j) true))<;>cases g (fo C (mkD (dA j) false))<;>simp
 show(if g (fo C (tn j))=g 0 then 0 else 1)=1-(if g (fo C j)=g 0 then 0 else 1)
 rw[key]
 cases g (fo C j)<;>cases g 0<;>rfl
theorem shd_all {C:List Cr} {loops:Int} (hm:mayD C loops=true) (h:oneB C loops=true) (S:Nat->Prop) (h0:S 0) (hn:∀ j,1<=j->j<=4*C.length->S (fo C j)->S (fo C (tn j))):∀ f,f<(facesM C).length->S f:=by
 obtain⟨hp,-,h1⟩:=one_con hm h
 intro f hf
 obtain⟨k,s,hk,hs,rfl⟩:=face_cor hm f hf
 obtain⟨k0,s0,hk0,hs0,e0⟩:=face_cor hm 0 (by omega)
 have hcl:Closed (incl (dfE C) (fun _=>true) (2*C.length)) S:=fun e he=>by
  obtain⟨i,hi,-,rfl⟩:=incl_mem.1 he
  unfold dfE
  have u:=mk_le (a:=i+1) (p:=true) (n:=C.length) (by omega) (by omega)
  have v:=mk_le (a:=i+1) (p:=false) (n:=C.length) (by omega) (by omega)
  have a:=hn _ u.1 u.2
  have b:=hn _ v.1 v.2
  unfold tn at a b
  rw[dA_mk (by omega),dB_mk (by omega)]at a b
  exact⟨a,b⟩
 have c1:=(faces_joined hm h1 k0 s0 hk0 hs0).symm
 have c2:=faces_joined hm h1 k s hk hs
 exact c2 S hcl (c1 S hcl (e0▸h0))
theorem faces_few {C:List Cr} {loops:Int} (hm:mayD C loops=true) (hp:planarB C=true) (h:oneB C loops=true):(facesM C).length=C.length+2:=by
 obtain⟨h0,-,h1⟩:=one_con hm h
 exact euler_one hm hp h0 h1
def Sd (s:Nat->Nat) (F:Nat) (L:List Int):Prop:=L.length=F/\∀ f,f<F->L.getD f 0 = -1∨L.getD f 0=(s f:Nat)
def uns (L:List Int):Nat:=L.countP (fun z=>decide (z = -1))
theorem uns_set:∀ (L:List Int) (f:Nat) (z:Int),f<L.length->L.getD f 0 = -1->z ≠ -1->uns (L.set f z)+1=uns L
 |[],f,z,h,_,_=>absurd h (Nat.not_lt_zero _)
 |x::L,0,z,_,h,hz=>by
  have hx:x = -1:=h
  unfold uns
  rw[List.set_cons_zero,List.countP_cons,List.countP_cons,hx]
  simp[hz]
 |x::L,f+1,z,h,h2,hz=>by
  have ih:=uns_set L f z (by simpa using h) (by simpa using h2) hz
  unfold uns at ih ⊢
  rw[List.set_cons_succ,List.countP_cons,List.countP_cons]
  omega
theorem getS_put (L:List Int) (f g:Nat) (z:Int):(L.set f z).getD g 0=if f=g/\f<L.length then z else L.getD g 0:=by
 rw[List.getD_eq_getElem?_getD,List.getElem?_set,List.getD_eq_getElem?_getD]
 by_cases e:f=g
 · subst e
   by_cases hl:f<L.length
   · simp[hl]
   · simp[hl]
 · simp[e]
theorem Sd.set {s:Nat->Nat} {F:Nat} {L:List Int} (h:Sd s F L) (f:Nat):Sd s F (L.set f (s f:Nat)):=by
 refine⟨by rw[List.length_set];exact h.1,fun g hg=>?_⟩
 rw[getS_put]
 by_cases e:f=g/\f<L.length
 · rw[if_pos e,e.1]
   exact Or.inr rfl
 · rw[if_neg e]
   exact h.2 g hg
theorem uns_le {L L':List Int} (hl:L.length=L'.length) (h:∀ g,g<L.length->L.getD g 0 ≠ -1->L'.getD g 0 ≠ -1):uns L'<=uns L:=by
 induction L generalizing L' with
 |nil=>
  cases L' with
  |nil=>exact Nat.le_refl _
  |cons _ _=>cases hl
 |cons x L ih=>
  cases L' with
  |nil=>cases hl
  |cons y L'=>
   have h0:=h 0 (by simp)
   have hr:=ih (L':=L') (by simpa using hl) (fun g hg=>by have:=h (g+1) (by simpa using hg);simpa using this)
   unfold uns at hr ⊢
   rw[List.countP_cons,List.countP_cons]
   simp at h0
   by_cases hx:x = -1
   · by_cases hy:y = -1
     · simp[hx,hy];exact hr
     · simp[hx,hy];omega
   · simp[hx,h0 hx];exact hr
structure Spd (C:List Cr) (s:Nat->Nat) (f:Nat) (L L':List Int):Prop where
 sd:Sd s (facesM C).length L'
 keep:∀ g,g<(facesM C).length->L.getD g 0 ≠ -1->L'.getD g 0 ≠ -1
 here:L'.getD f 0 ≠ -1
 new:∀ g,g<(facesM C).length->L.getD g 0 = -1->L'.getD g 0 ≠ -1->∀ j,1<=j->j<=4*C.length->fo C j=g->L'.getD (fo C (tn j)) 0 ≠ -1
structure Spi (C:List Cr) (s:Nat->Nat) (f:Nat) (P:List Nat) (L M:List Int):Prop where
 sd:Sd s (facesM C).length M
 keep:∀ g,g<(facesM C).length->L.getD g 0 ≠ -1->M.getD g 0 ≠ -1
 here:M.getD f 0 ≠ -1
 new:∀ g,g<(facesM C).length->g≠f->L.getD g 0 = -1->M.getD g 0 ≠ -1->∀ j,1<=j->j<=4*C.length->fo C j=g->M.getD (fo C (tn j)) 0 ≠ -1
 done:∀ j,j∈P->fo C j=f->M.getD (fo C (tn j)) 0 ≠ -1
 less:uns M<uns L
theorem Spi.start {C:List Cr} {s:Nat->Nat} {f:Nat} {L:List Int} (h:Sd s (facesM C).length L) (hf:f<(facesM C).length) (hL:L.getD f 0 = -1):Spi C s f [] L (L.set f (s f:Nat)):=by
 have hfl:f<L.length:=by rw[h.1];exact hf
 have hne:((s f:Nat):Int) ≠ -1:=by omega
 refine⟨h.set f,fun g hg h1=>?_,?_,fun g hg hgf h1 h2=>?_,fun j h1=>absurd h1 List.not_mem_nil,by have:=uns_set L f (s f:Nat) hfl hL hne;omega⟩
 · rw[getS_put]
   split
   · exact hne
   · exact h1
 · rw[getS_put,if_pos ⟨rfl,hfl⟩];exact hne
 · rw[getS_put,if_neg (fun e=>hgf e.1.symm)]at h2
   exact absurd h1 h2
theorem Spi.pass {C:List Cr} {s:Nat->Nat} {f x:Nat} {P:List Nat} {L M:List Int} (h:Spi C s f P L M) (hi:fo C x≠f∨M.getD (fo C (tn x)) 0 ≠ -1):Spi C s f (P++[x]) L M:=
 ⟨h.sd, h.keep, h.here, h.new, fun j h1 hf => by
  rcases List.mem_append.1 h1 with q|q
  · exact h.done j q hf
  · rw[List.mem_singleton]at q
    subst q
    rcases hi with hi|hi
    · exact absurd hf hi
    · exact hi,h.less⟩
theorem getS_off (L:List Int) (f:Nat) (h:L.length<=f):L.getD f 0 ≠ -1:=by
 rw[List.getD_eq_getElem?_getD,List.getElem?_eq_none h]
 decide
theorem Spi.step {C:List Cr} {s:Nat->Nat} {f x:Nat} {P:List Nat} {L M M':List Int} (h:Spi C s f P L M) (hM:Spd C s (fo C (tn x)) M M'):Spi C s f (P++[x]) L M':=by
 have hF:=h.sd.1
 have hF':=hM.sd.1
 have hk:∀ g,M.getD g 0 ≠ -1->M'.getD g 0 ≠ -1:=fun g hg=>by
  by_cases hl:g<(facesM C).length
  · exact hM.keep g hl hg
  · exact getS_off M' g (by omega)
 refine⟨hM.sd,fun g hg h1=>hk g (h.keep g hg h1),hk f h.here,fun g hg hgf h1 h2 j hj1 hj2 hj=>?_,fun j h1 hf=>?_,Nat.lt_of_le_of_lt (uns_le (by rw[hF,hF']) (fun g _=>hk g)) h.less⟩
 · by_cases hg2:M.getD g 0 = -1
   · exact hM.new g hg hg2 h2 j hj1 hj2 hj
   · exact hk _ (h.new g hg hgf h1 hg2 j hj1 hj2 hj)
 · rcases List.mem_append.1 h1 with q|q
   · exact hk _ (h.done j q hf)
   · rw[List.mem_singleton]at q
     subst q
     exact hM.here
theorem Spi.spd {C:List Cr} {s:Nat->Nat} {f:Nat} {P:List Nat} {L M:List Int} (h:Spi C s f P L M) (hP:∀ j,1<=j->j<=4*C.length->j∈P):Spd C s f L M:=
 ⟨h.sd, h.keep, h.here, fun g hg h1 h2 j hj1 hj2 hj => by
  by_cases e:g=f
  · subst e;exact h.done j (hP j hj1 hj2) hj
  · exact h.new g hg e h1 h2 j hj1 hj2 hj⟩
def shL (s:Nat->Nat) (F:Nat):List Int:=(List.range F).map fun f=>((s f:Nat):Int)
theorem Spd.all {C:List Cr} {loops:Int} {s:Nat->Nat} {L L':List Int} (hm:mayD C loops=true) (ho:oneB C loops=true) (hL:∀ g,g<(facesM C).length->L.getD g 0 = -1) (h:Spd C s 0 L L'):L'=shL s (facesM C).length:=by
 have hall:∀ g,g<(facesM C).length->L'.getD g 0 ≠ -1:=shd_all hm ho (fun g=>L'.getD g 0 ≠ -1) h.here (fun j h1 h2 hj=>h.new (fo C j) (fo_lt j h1 h2) (hL _ (fo_lt j h1 h2)) hj j h1 h2 rfl)
 apply List.ext_getElem?
 intro i
 by_cases hi:i<(facesM C).length
 · have h1:=hall i hi
   have h2:=h.sd.2 i hi
   have e:L'[i]?=some (L'.getD i 0):=by rw[List.getD_eq_getElem?_getD,List.getElem?_eq_getElem (by rw[h.sd.1];exact hi)];rfl
   rw[e]
   rcases h2 with h2|h2
   · exact absurd h2 h1
   · rw[h2]
     simp[shL,hi]
 · rw[List.getElem?_eq_none (by rw[h.sd.1];omega),List.getElem?_eq_none (by simp[shL];omega)]
end Go.Proofs.YtmnejkaihjpejaaGreatDoor
/- The walks of colour.lowestArcs and colour.overpasses. -/
namespace Go.Proofs.YtmnejkaihjpejaaGreatDoor
open Go.RowKit
set_option maxHeartbeats 16000000
set_option maxRecDepth 100000
theorem mers_ov (V:List Nat) (C:List Cr) (i:Nat) (hi:i<C.length):mers V ((ovE C).take (i+1))=mer (mers V ((ovE C).take i)) (C.getD i Cr.none).b.toNat (C.getD i Cr.none).d.toNat:=by
 rw[ovE_next C i hi,mers_app]
 rfl
theorem lowestArcs_any (a : Option Addr) (cap : Nat) (C : List Cr) (loops : Int) (gF cF gT cT : Nat) (w : World) (hm : mayD C loops = true) (hD : Dr w a cap C gF gT) :
    Calls Tryz.prog 40 #[drV a cap C loops gF cF gT cT] w fun e w'=>∃ g,e=.returned (.slice (some ⟨g,0,none⟩) (2*C.length+1) (2*C.length+1))/\w'.ownsRow w.heap.size 3 1 (.slice (some ⟨g,0,none⟩) (2*C.length+1) (2*C.length+1)) (2*C.length+1) (nats (lowM C))/\Below w.heap.size w w':=by
 obtain⟨s1,-,-,-⟩:=sizeB_iff (may_size hm)
 obtain⟨i2,hk,hx0,hx1,hx2⟩:=info_parts infoInt
 have HM:Hid (mayD C loops=true):=hm
 have HD:Hid (Dr w a cap C gF gT):=hD
 unfold drV
 obtain⟨N,hN⟩:∃ N,N=2*C.length+1:=⟨_,rfl⟩
 have HN:Hid (N=2*C.length+1):=hN
 have hN1:1<=N:=by omega
 have hN2:N<=33:=by omega
 rw[<-hN]
 clear hN hm hD
 obtain⟨w0,hw0⟩:∃ w0,w0=w.alloc (.cells #[.slice a C.length cap,.int .i64 loops,.slice (some ⟨gF,0,none⟩) N cF,.slice (some ⟨gT,0,none⟩) N cT] 41):=⟨_,rfl⟩
 have HW0:Hid (w0=w.alloc (.cells #[.slice a C.length cap,.int .i64 loops,.slice (some ⟨gF,0,none⟩) N cF,.slice (some ⟨gT,0,none⟩) N cT] 41)):=hw0
 have hs0:w0.heap.size=w.heap.size+1:=by rw[hw0];simp
 have HB0:Hid (Below w.heap.size w w0):=(by rw[hw0];exact(Below.refl _ _).alloc (Nat.le_refl _) _:Below w.heap.size w w0)
 have HT0:Hid (w0.heap[w.heap.size]?=some (.cells #[.slice a C.length cap,.int .i64 loops,.slice (some ⟨gF,0,none⟩) N cF,.slice (some ⟨gT,0,none⟩) N cT] 41 (0,0))):=(by rw[hw0];exact alloc_at rfl:w0.heap[w.heap.size]?=some (.cells #[.slice a C.length cap,.int .i64 loops,.slice (some ⟨gF,0,none⟩) N cF,.slice (some ⟨gT,0,none⟩) N cT] 41 (0,0)))
 clear hw0
 go_enter Tryz.func40,Tryz.ntmps40
 go_wp2_with (first|(at_make;refine wpList_make_full _ rfl _ _ 26 rfl (w.heap.size+1) 3 i2 (.int .i64 0) 1 Tryz.underlying26 hk hx0 hx1 .i64 .i64 _ _ N rfl rfl rfl rfl (by rw[hx2];omega) (by unfold maxLen;omega) (by simp) ?_;intro w1 hrow hg1;refine Hid.out ?_))
 refine Lib.hid ?_
 rw[<-HW0.out]at hrow hg1
 rw[made_zeroN,hs0,labTo_zero]at hrow
 have HP0:Hid (w1.heap[w.heap.size]?=some (.cells #[.slice a C.length cap,.int .i64 loops,.slice (some ⟨gF,0,none⟩) N cF,.slice (some ⟨gT,0,none⟩) N cT] 41 (0,0))/\w1.ownsRow (w.heap.size+1) 3 1 (.slice (some ⟨w.heap.size+1,0,none⟩) N N) N (nats (labTo N 0))/\Below w.heap.size w w1):=⟨(hg1.block _ (by omega) (by simp)).trans HT0.out,hrow,HB0.out.grown hg1 (by omega) (fun k hk=>by cases hk)⟩
 clear hrow hg1 HT0 HB0 hs0 HW0
 go_wp2
 go_loopw [16] (fun v5 wr=>∃ i:Nat,i<=N/\v5=.int .i64 (i:Nat)/\Hid (wr.heap[w.heap.size]?=some (.cells #[.slice a C.length cap,.int .i64 loops,.slice (some ⟨gF,0,none⟩) N cF,.slice (some ⟨gT,0,none⟩) N cT] 41 (0,0))/\wr.ownsRow (w.heap.size+1) 3 1 (.slice (some ⟨w.heap.size+1,0,none⟩) N N) N (nats (labTo N i))/\Below w.heap.size w wr)) (fun v5 _=>N-(intOf v5).toNat)
 case atStart=>exact⟨0,Nat.zero_le _,rfl,HP0.out⟩
 case round=>
  clear HP0
  rename World=>W1
  obtain⟨i,hin,rfl,hp⟩:=hrel
  have hlt:=hp.out.2.1.lt (w.heap.size+1) rfl
  by_cases hil:i<N
  · have hst:=hp.out.2.1.stored i (.int .i64 (i:Nat))
    rw[nats_set,labTo_next]at hst
    have HST:Hid ((W1.setCell ⟨w.heap.size+1,i,none⟩ (.int .i64 (i:Nat))).heap[w.heap.size]?=some (.cells #[.slice a C.length cap,.int .i64 loops,.slice (some ⟨gF,0,none⟩) N cF,.slice (some ⟨gT,0,none⟩) N cT] 41 (0,0))/\(W1.setCell ⟨w.heap.size+1,i,none⟩ (.int .i64 (i:Nat))).ownsRow (w.heap.size+1) 3 1 (.slice (some ⟨w.heap.size+1,0,none⟩) N N) N (nats (labTo N (i+1)))/\Below w.heap.size w (W1.setCell ⟨w.heap.size+1,i,none⟩ (.int .i64 (i:Nat)))):=⟨(hst.2.block _ (by omega) (fun e=>by have:w.heap.size=w.heap.size+1:=Option.some.inj e;omega)).trans hp.out.1,hst.1,hp.out.2.2.grown hst.2 hp.out.2.2.size (fun q hq=>by have:=Option.some.inj hq;omega)⟩
    have e0:W1.cell? ⟨w.heap.size+1,i,none⟩=some (.int .i64 ((labTo N i).getD i 0:Nat)):=by
     rw[hp.out.2.1.cellAt i (by omega)];exact nats_get _ i (by simp[labTo];omega)
    have z0:W1.frozen? ⟨w.heap.size+1,i,none⟩=false:=hp.out.2.1.frozenAt i
    have hdi:(i:Int)<=2*(C.length:Int):=by have:=HN.out;omega
    clear hst
    go_wp2
    go_roundw
    case rel=>exact⟨i+1,by omega,by go_num,HST.out⟩
    case measure=>simp only[intOf];omega
  · obtain rfl:N=i:=by omega
    have HP1:Hid (W1.heap[w.heap.size]?=some (.cells #[.slice a C.length cap,.int .i64 loops,.slice (some ⟨gF,0,none⟩) N cF,.slice (some ⟨gT,0,none⟩) N cT] 41 (0,0))/\W1.ownsRow (w.heap.size+1) 3 1 (.slice (some ⟨w.heap.size+1,0,none⟩) N N) N (nats (mers (List.range N) ((ovE C).take 0)))/\Below w.heap.size w W1):=(by have h:=hp.out;rw[labTo_all]at h;exact h:W1.heap[w.heap.size]?=some (.cells #[.slice a C.length cap,.int .i64 loops,.slice (some ⟨gF,0,none⟩) N cF,.slice (some ⟨gT,0,none⟩) N cT] 41 (0,0))/\W1.ownsRow (w.heap.size+1) 3 1 (.slice (some ⟨w.heap.size+1,0,none⟩) N N) N (nats (mers (List.range N) ((ovE C).take 0)))/\Below w.heap.size w W1)
    have t0:W1.cell? ⟨w.heap.size,0,none⟩=some (.slice a C.length cap):=block_cell hp.out.1 rfl
    have hdn:decide ((N:Int)<(N:Int))=false:=by simp
    have hdn2:decide (N<N)=false:=by simp
    clear hp
    go_wp2
    go_loopw [28] (fun v28 wr=>∃ k:Nat,k<=C.length/\v28=.int .i64 (k:Nat)/\Hid (wr.heap[w.heap.size]?=some (.cells #[.slice a C.length cap,.int .i64 loops,.slice (some ⟨gF,0,none⟩) N cF,.slice (some ⟨gT,0,none⟩) N cT] 41 (0,0))/\wr.ownsRow (w.heap.size+1) 3 1 (.slice (some ⟨w.heap.size+1,0,none⟩) N N) N (nats (mers (List.range N) ((ovE C).take k)))/\Below w.heap.size w wr)) (fun v28 _=>C.length-(intOf v28).toNat)
    case atStart=>exact⟨0,Nat.zero_le _,rfl,HP1.out⟩
    case round=>
     clear HP1 t0
     rename World=>W2
     obtain⟨k,hin2,rfl,hp⟩:=hrel
     by_cases hil2:k<C.length
     · obtain⟨b,off,ea,hbw,hC⟩:=HD.out.cross (by omega)
       have t0:W2.cell? ⟨w.heap.size,0,none⟩=some (.slice a C.length cap):=block_cell hp.out.1 rfl
       have ff:=may_fit HM.out k 1 hil2 (by omega)
       have fg:=may_fit HM.out k 3 hil2 (by omega)
       have HX:Hid ((C.getD k Cr.none).arc 1=(C.getD k Cr.none).b/\(C.getD k Cr.none).arc 3=(C.getD k Cr.none).d):=⟨rfl,rfl⟩
       have f1:=ff.1
       have f2:=ff.2.1
       have f3:=fg.1
       have f4:=fg.2.1
       rw[HX.out.1]at f1 f2
       rw[HX.out.2]at f3 f4
       obtain⟨e0,e1,e2,e3,e4⟩:=(hC.on hp.out.2.2 hbw) k hil2
       obtain⟨x,hx⟩:∃ x:Nat,(C.getD k Cr.none).b=(x:Int):=⟨(C.getD k Cr.none).b.toNat,by omega⟩
       obtain⟨y,hy⟩:∃ y:Nat,(C.getD k Cr.none).d=(y:Int):=⟨(C.getD k Cr.none).d.toNat,by omega⟩
       have hxN:x<N:=by have:=HN.out;omega
       have hyN:y<N:=by have:=HN.out;omega
       obtain⟨ca,hca⟩:∃ z,(C.getD k Cr.none).a=z:=⟨_,rfl⟩
       obtain⟨cc,hcc⟩:∃ z,(C.getD k Cr.none).c=z:=⟨_,rfl⟩
       obtain⟨cp,hcp⟩:∃ z,(C.getD k Cr.none).plus=z:=⟨_,rfl⟩
       have HLV:Hid (mers (List.range N) ((ovE C).take (k+1))=mer (mers (List.range N) ((ovE C).take k)) x y):=(by rw[mers_ov _ C k hil2,hx,hy];rfl:mers (List.range N) ((ovE C).take (k+1))=mer (mers (List.range N) ((ovE C).take k)) x y)
       have HLL:Hid ((mers (List.range N) ((ovE C).take k)).length=N):=(by rw[mers_len];simp:(mers (List.range N) ((ovE C).take k)).length=N)
       rw[hca]at e0
       rw[hx]at e1
       rw[hcc]at e2
       rw[hy]at e3
       rw[hcp]at e4
       obtain⟨L,hL⟩:∃ L,mers (List.range N) ((ovE C).take k)=L:=⟨_,rfl⟩
       rw[hL]at HLV HLL hp
       have hsW:=hp.out.2.2.size
       have hgl:=(hp.out.2.1.lt (w.heap.size+1) rfl).2
       have hbW:b<W2.heap.size:=by omega
       have hii:(k:Int)<(C.length:Int):=by omega
       have d0:W2.cell? ⟨w.heap.size+1,x,none⟩=some (.int .i64 (L.getD x 0:Nat)):=by
        rw[hp.out.2.1.cellAt x (by omega)];exact nats_get _ x (by rw[HLL.out];exact hxN)
       have d1:W2.cell? ⟨w.heap.size+1,y,none⟩=some (.int .i64 (L.getD y 0:Nat)):=by
        rw[hp.out.2.1.cellAt y (by omega)];exact nats_get _ y (by rw[HLL.out];exact hyN)
       obtain⟨p,hpx⟩:∃ p,L.getD x 0=p:=⟨_,rfl⟩
       obtain⟨q,hqx⟩:∃ q,L.getD y 0=q:=⟨_,rfl⟩
       rw[hpx]at d0
       rw[hqx]at d1
       have HPQ:Hid (L.getD x 0=p/\L.getD y 0=q):=⟨hpx,hqx⟩
       obtain⟨X,hX⟩:∃ X,X=(W2.alloc (.cells #[.int .i64 ca,.int .i64 (x:Nat),.int .i64 cc,.int .i64 (y:Nat),.bool cp] 57)):=⟨_,rfl⟩
       have HX0:Hid (X=(W2.alloc (.cells #[.int .i64 ca,.int .i64 (x:Nat),.int .i64 cc,.int .i64 (y:Nat),.bool cp] 57))):=hX
       have HGX:Hid (W2.grownBy X none):=(by rw[hX];exact World.grownBy_alloc _ _ none:W2.grownBy X none)
       have hXs:X.heap.size=W2.heap.size+1:=by rw[hX];simp
       have HXB:Hid (X.heap[W2.heap.size]?=some (.cells #[.int .i64 ca,.int .i64 (x:Nat),.int .i64 cc,.int .i64 (y:Nat),.bool cp] 57 (0,0))):=(by rw[hX];exact alloc_at rfl:X.heap[W2.heap.size]?=some (.cells #[.int .i64 ca,.int .i64 (x:Nat),.int .i64 cc,.int .i64 (y:Nat),.bool cp] 57 (0,0)))
       have HXR:Hid (X.heap[w.heap.size]?=some (.cells #[.slice a C.length cap,.int .i64 loops,.slice (some ⟨gF,0,none⟩) N cF,.slice (some ⟨gT,0,none⟩) N cT] 41 (0,0))/\X.ownsRow (w.heap.size+1) 3 1 (.slice (some ⟨w.heap.size+1,0,none⟩) N N) N (nats (L))/\Below w.heap.size w X):=⟨(HGX.out.block _ (by omega) (by simp)).trans hp.out.1,own_any hp.out.2.1 HGX.out,hp.out.2.2.grown HGX.out hsW (fun z hz=>by cases hz)⟩
       clear hC ff fg f1 f2 f3 f4 hx hy hca hcc hcp hL hpx hqx hX
       go_wp2
       rw[<-HX0.out]
       have x1:X.cell? ⟨W2.heap.size,1,none⟩=some (.int .i64 (x:Nat)):=block_cell HXB.out rfl
       have x3:X.cell? ⟨W2.heap.size,3,none⟩=some (.int .i64 (y:Nat)):=block_cell HXB.out rfl
       have y0:X.cell? ⟨w.heap.size+1,x,none⟩=some (.int .i64 (p:Nat)):=(by rw[HXR.out.2.1.cellAt x (by omega),nats_get _ x (by rw[HLL.out];exact hxN),HPQ.out.1])
       have y1:X.cell? ⟨w.heap.size+1,y,none⟩=some (.int .i64 (q:Nat)):=(by rw[HXR.out.2.1.cellAt y (by omega),nats_get _ y (by rw[HLL.out];exact hyN),HPQ.out.2])
       clear d0 d1 e0 e1 e2 e3 e4
       obtain⟨lo,hlo⟩:∃ lo,min p q=lo:=⟨_,rfl⟩
       obtain⟨hi,hhi⟩:∃ hi,max p q=hi:=⟨_,rfl⟩
       have E1:(if q<p then(q:Int) else(p:Int))=(lo:Int):=by rw[<-hlo];split<;>omega
       have E2:(if p<q then(q:Int) else(p:Int))=(hi:Int):=by rw[<-hhi];split<;>omega
       have HLH:Hid (min p q=lo/\max p q=hi):=⟨hlo,hhi⟩
       clear hlo hhi
       apply cut_one
       case h=>
        intro key
        go_region_held3 (fun w'=>w'.cell? ⟨W2.heap.size,1,none⟩=some (.int .i64 (x:Nat))/\w'.cell? ⟨W2.heap.size,3,none⟩=some (.int .i64 (y:Nat))/\w'.cell? ⟨w.heap.size+1,x,none⟩=some (.int .i64 (p:Nat))/\w'.cell? ⟨w.heap.size+1,y,none⟩=some (.int .i64 (q:Nat))) (exact⟨x1,x3,y0,y1⟩) (fail)
        all_goals
         exact key.out
       rw[<-ea]
       clear x1 x3 y0 y1 E1 E2 ea
       have HQ0:Hid (X.drew.heap[w.heap.size]?=some (.cells #[.slice a C.length cap,.int .i64 loops,.slice (some ⟨gF,0,none⟩) N cF,.slice (some ⟨gT,0,none⟩) N cT] 41 (0,0))/\X.drew.ownsRow (w.heap.size+1) 3 1 (.slice (some ⟨w.heap.size+1,0,none⟩) N N) N (nats (merTo L x y 0))/\Below w.heap.size w X.drew):=(by rw[merTo_zero];exact⟨HXR.out.1,own_any HXR.out.2.1 (grown_below ((Below.refl _ _).drew) none),HXR.out.2.2.drew⟩:X.drew.heap[w.heap.size]?=some (.cells #[.slice a C.length cap,.int .i64 loops,.slice (some ⟨gF,0,none⟩) N cF,.slice (some ⟨gT,0,none⟩) N cT] 41 (0,0))/\X.drew.ownsRow (w.heap.size+1) 3 1 (.slice (some ⟨w.heap.size+1,0,none⟩) N N) N (nats (merTo L x y 0))/\Below w.heap.size w X.drew)
       have HME:Hid (∀ v,v<N->(mer L x y).getD v 0=if L.getD v 0=hi then lo else L.getD v 0):=fun v hv=>by rw[mer_at L x y v (by rw[HLL.out];exact hv),HPQ.out.1,HPQ.out.2,HLH.out.1,HLH.out.2]
       have hdk:decide ((k:Int)<(C.length:Int))=true:=by simp;omega
       have hdk2:decide (k<C.length)=true:=by simp;omega
       clear HXR HXB HGX HX0 HPQ HLH
       go_wp2
       go_loopw [56] (fun v56 wr=>∃ j:Nat,j<=N/\v56=.int .i64 (j:Nat)/\Hid (wr.heap[w.heap.size]?=some (.cells #[.slice a C.length cap,.int .i64 loops,.slice (some ⟨gF,0,none⟩) N cF,.slice (some ⟨gT,0,none⟩) N cT] 41 (0,0))/\wr.ownsRow (w.heap.size+1) 3 1 (.slice (some ⟨w.heap.size+1,0,none⟩) N N) N (nats (merTo L x y j))/\Below w.heap.size w wr)) (fun v56 _=>N-(intOf v56).toNat)
       case atStart=>exact⟨0,Nat.zero_le _,rfl,HQ0.out⟩
       case round=>
        clear HQ0
        rename World=>W3
        obtain⟨j,hjn,rfl,hq⟩:=hrel
        have hg3:=(hq.out.2.1.lt (w.heap.size+1) rfl).2
        by_cases hjl:j<N
        · have f0 : W3.cell? ⟨w.heap.size + 1, j, none⟩ = some (.int .i64 (L.getD j 0 : Nat)) := by
            rw[hq.out.2.1.cellAt j (by omega),nats_get _ j (by rw[merTo_len,HLL.out];exact hjl),merTo_at _ _ _ _ _ (by rw[HLL.out];exact hjl),if_neg (by omega)]
          obtain⟨z,hz⟩:∃ z,L.getD j 0=z:=⟨_,rfl⟩
          have HZ:Hid (L.getD j 0=z):=hz
          rw[hz]at f0
          clear hz
          by_cases hzh:z=hi
          · subst hzh
            have hst:=hq.out.2.1.stored j (.int .i64 (lo:Nat))
            rw[nats_set,merTo_next L x y j lo (by rw[HLL.out];exact hjl) (by rw[HME.out j hjl,HZ.out,if_pos rfl])]at hst
            have HST:Hid ((W3.setCell ⟨w.heap.size+1,j,none⟩ (.int .i64 (lo:Nat))).heap[w.heap.size]?=some (.cells #[.slice a C.length cap,.int .i64 loops,.slice (some ⟨gF,0,none⟩) N cF,.slice (some ⟨gT,0,none⟩) N cT] 41 (0,0))/\(W3.setCell ⟨w.heap.size+1,j,none⟩ (.int .i64 (lo:Nat))).ownsRow (w.heap.size+1) 3 1 (.slice (some ⟨w.heap.size+1,0,none⟩) N N) N (nats (merTo L x y (j+1)))/\Below w.heap.size w (W3.setCell ⟨w.heap.size+1,j,none⟩ (.int .i64 (lo:Nat)))):=⟨(hst.2.block _ (by omega) (fun e=>by have:w.heap.size=w.heap.size+1:=Option.some.inj e;omega)).trans hq.out.1,hst.1,hq.out.2.2.grown hst.2 hq.out.2.2.size (fun q hq=>by have:=Option.some.inj hq;omega)⟩
            have z0:W3.frozen? ⟨w.heap.size+1,j,none⟩=false:=hq.out.2.1.frozenAt j
            have hzz:((z:Int)==(z:Int))=true:=by simp
            clear hst
            go_wp2
            go_roundw
            case rel=>exact⟨j+1,by omega,by go_num,HST.out⟩
            case measure=>simp only[intOf];omega
          · have hzz:((z:Int)==(hi:Int))=false:=by simp;omega
            have hzz2:(z==hi)=false:=by simp;omega
            have HST:Hid (W3.heap[w.heap.size]?=some (.cells #[.slice a C.length cap,.int .i64 loops,.slice (some ⟨gF,0,none⟩) N cF,.slice (some ⟨gT,0,none⟩) N cT] 41 (0,0))/\W3.ownsRow (w.heap.size+1) 3 1 (.slice (some ⟨w.heap.size+1,0,none⟩) N N) N (nats (merTo L x y (j+1)))/\Below w.heap.size w W3):=(by rw[<-merTo_same L x y j (by rw[HLL.out];exact hjl) (by rw[HME.out j hjl,HZ.out,if_neg hzh])];exact hq.out:W3.heap[w.heap.size]?=some (.cells #[.slice a C.length cap,.int .i64 loops,.slice (some ⟨gF,0,none⟩) N cF,.slice (some ⟨gT,0,none⟩) N cT] 41 (0,0))/\W3.ownsRow (w.heap.size+1) 3 1 (.slice (some ⟨w.heap.size+1,0,none⟩) N N) N (nats (merTo L x y (j+1)))/\Below w.heap.size w W3)
            go_wp2
            go_roundw
            case rel=>exact⟨j+1,by omega,by go_num,HST.out⟩
            case measure=>simp only[intOf];omega
        · obtain rfl:N=j:=by omega
          go_wp2
          go_roundw
          case rel=>exact⟨k+1,by omega,by go_num,(by have h:=hq.out;rw[<-HLL.out,merTo_all,HLL.out]at h;rw[HLV.out];exact h:W3.heap[w.heap.size]?=some (.cells #[.slice a C.length cap,.int .i64 loops,.slice (some ⟨gF,0,none⟩) N cF,.slice (some ⟨gT,0,none⟩) N cT] 41 (0,0))/\W3.ownsRow (w.heap.size+1) 3 1 (.slice (some ⟨w.heap.size+1,0,none⟩) N N) N (nats (mers (List.range N) ((ovE C).take (k+1))))/\Below w.heap.size w W3)⟩
          case measure=>simp only[intOf];omega
     · obtain rfl:k=C.length:=by omega
       go_wp2
       go_ret
       exact⟨_,rfl,(by have h:=hp.out.2.1;rw[ovE_all]at h;have e:lowM C=mers (List.range N) (ovE C):=(by unfold lowM;rw[HN.out]);rw[e];exact own_low h (by omega)),hp.out.2.2⟩
end Go.Proofs.YtmnejkaihjpejaaGreatDoor
/- The walks of colour.overpasses and colour.Overs. -/
namespace Go.Proofs.YtmnejkaihjpejaaGreatDoor
open Go.RowKit
set_option maxHeartbeats 16000000
set_option maxRecDepth 100000
def ovTo (C:List Cr) (k:Nat):List Nat:=(List.range (2*C.length+1)).map fun v=>if v<k/\1<=v then ovM C v else 0
theorem ovTo_len (C:List Cr) (k:Nat):(ovTo C k).length=2*C.length+1:=by simp[ovTo]
theorem ovTo_at (C:List Cr) (k v:Nat) (hv:v<2*C.length+1):(ovTo C k).getD v 0=if v<k/\1<=v then ovM C v else 0:=by simp[ovTo,List.getD_eq_getElem?_getD,hv]
theorem ovTo_zero (C:List Cr):List.replicate (2*C.length+1) 0=ovTo C 1:=by
 refine List.ext_getElem (by simp[ovTo]) fun j h1 h2=>?_
 simp only[ovTo,List.getElem_map,List.getElem_range,List.getElem_replicate]
 rw[if_neg (by omega)]
theorem ovTo_next (C:List Cr) (k z:Nat) (hk:k<2*C.length+1) (h1:1<=k) (hz:ovM C k=z):(ovTo C k).set k z=ovTo C (k+1):=getD_ext (by simp[ovTo_len]) fun v hv=>by
 have hv':v<2*C.length+1:=by simpa[ovTo_len] using hv
 rw[getD_set _ _ _ _ (by rw[ovTo_len];exact hk),ovTo_at _ _ _ hv',ovTo_at _ _ _ hv']
 by_cases e:v=k
 · subst e;rw[if_pos rfl,if_pos ⟨by omega,h1⟩,hz]
 · rw[if_neg e]
   by_cases h2:v<k/\1<=v
   · rw[if_pos h2,if_pos ⟨by omega,h2.2⟩]
   · rw[if_neg h2,if_neg (fun q=>h2 ⟨by omega,q.2⟩)]
theorem ovTo_drop (C:List Cr):(ovTo C (2*C.length+1)).drop 1=ovL C (2*C.length):=by
 refine List.ext_getElem (by simp[ovTo,ovL]) fun j h1 h2=>?_
 simp only[List.getElem_drop,ovTo,ovL,List.getElem_map,List.getElem_range]
 rw [if_pos ⟨by have : j < 2 * C.length := by simpa [ovL] using h2
                omega,by omega⟩,Nat.add_comm]
theorem overpasses_any (a : Option Addr) (cap : Nat) (C : List Cr) (loops : Int) (gF cF gT cT : Nat) (w : World) (hm : mayD C loops = true) (hD : Dr w a cap C gF gT) :
    Calls Tryz.prog 18 #[drV a cap C loops gF cF gT cT] w fun e w'=>∃ g,e=.returned (.tuple #[.slice (some ⟨g,0,none⟩) (2*C.length+1) (2*C.length+1),.int .i64 (ovC C:Nat)])/\w'.ownsRow w.heap.size 3 1 (.slice (some ⟨g,0,none⟩) (2*C.length+1) (2*C.length+1)) (2*C.length+1) (nats (ovTo C (2*C.length+1)))/\Below w.heap.size w w':=by
 obtain⟨s1,-,-,-⟩:=sizeB_iff (may_size hm)
 obtain⟨i2,hk,hx0,hx1,hx2⟩:=info_parts infoInt
 have HM:Hid (mayD C loops=true):=hm
 have HD:Hid (Dr w a cap C gF gT):=hD
 have HLS:Hid (Least (ovE C) (2*C.length+1) (lowM C)):=lowM_least (ovE_lt hm)
 have HCV:Hid (ovC C=rootsN (lowM C) (2*C.length+1)):=(rfl:ovC C=rootsN (lowM C) (2*C.length+1))
 have HLP:Hid (∀ v,1<=v->v<2*C.length+1->1<=(lowM C).getD v 0):=fun v h1 h2=>HLS.out.pos (fun e he=>⟨(ovE_in HM.out e he).1.1,(ovE_in HM.out e he).2.1⟩) h2 h1
 have HZ0:Hid (List.replicate (2*C.length+1) 0=ovTo C 1):=ovTo_zero C
 have HB0:Hid (Below w.heap.size w (w.alloc (.cells #[.slice a C.length cap,.int .i64 loops,.slice (some ⟨gF,0,none⟩) (2*C.length+1) cF,.slice (some ⟨gT,0,none⟩) (2*C.length+1) cT] 41))):=(Below.refl _ _).alloc (Nat.le_refl _) _
 unfold drV
 obtain⟨N,hN⟩:∃ N,N=2*C.length+1:=⟨_,rfl⟩
 have HN:Hid (N=2*C.length+1):=hN
 have hN1:1<=N:=by omega
 have hN2:N<=33:=by omega
 have HLA:Hid (∀ W,Dr W a cap C gF gT->Calls Tryz.prog 40 #[.agg #[.slice a C.length cap,.int .i64 loops,.slice (some ⟨gF,0,none⟩) N cF,.slice (some ⟨gT,0,none⟩) N cT]] W fun e w'=>∃ g,e=.returned (.slice (some ⟨g,0,none⟩) N N)/\w'.ownsRow W.heap.size 3 1 (.slice (some ⟨g,0,none⟩) N N) N (nats (lowM C))/\Below W.heap.size W w'):=fun W hW=>by rw[hN];exact lowestArcs_any a cap C loops gF cF gT cT W HM.out hW
 rw[<-hN]at HLS HCV HLP HZ0 HB0 ⊢
 rw[HCV.out]
 clear hm hD hN
 go_enter Tryz.func18,Tryz.ntmps18
 go_wp2_with (go_at_call 40;refine(HLA.out _ (HD.out.on HB0.out)).mono ?_;rintro e9 w1 ⟨g,rfl,hr1,hb1⟩;refine Hid.out ?_)
 refine Lib.hid ?_
 have hs1:w.heap.size+1<=w1.heap.size:=by have:=hb1.size;simpa using this
 have hg1:w.heap.size+1<=g/\g<w1.heap.size:=by have:=hr1.lt g rfl;simpa using this
 have HR1:Hid (w1.ownsRow (w.heap.size+1) 3 1 (.slice (some ⟨g,0,none⟩) N N) N (nats (lowM C))/\Below w.heap.size w w1):=⟨own_low hr1 (by simp),HB0.out.trans (hb1.mono (by simp))⟩
 clear hr1 hb1
 go_wp2_with (first|(at_make;refine wpList_make_full _ rfl _ _ 26 rfl w1.heap.size 3 i2 (.int .i64 0) 1 Tryz.underlying26 hk hx0 hx1 .i64 .i64 _ _ N rfl rfl rfl rfl (by rw[hx2];omega) (by unfold maxLen;omega) (by omega) ?_;intro w2 hrow hg2;refine Hid.out ?_))
 refine Lib.hid ?_
 rw[made_zeroN,HZ0.out]at hrow
 have HP0:Hid (w2.ownsRow (w.heap.size+1) 3 1 (.slice (some ⟨g,0,none⟩) N N) N (nats (lowM C))/\w2.ownsRow w1.heap.size 3 1 (.slice (some ⟨w1.heap.size,0,none⟩) N N) N (nats (ovTo C 1))/\Below w.heap.size w w2):=⟨own_any HR1.out.1 hg2,hrow,HR1.out.2.grown hg2 HR1.out.2.size (fun q hq=>by cases hq)⟩
 clear hrow hg2 HR1
 go_wp2
 go_loopw [3,5] (fun v3 v5 wr=>∃ j:Nat,1<=j/\j<=N/\v5=.int .i64 (j:Nat)/\v3=.int .i64 (rootsN (lowM C) j:Nat)/\Hid (wr.ownsRow (w.heap.size+1) 3 1 (.slice (some ⟨g,0,none⟩) N N) N (nats (lowM C))/\wr.ownsRow w1.heap.size 3 1 (.slice (some ⟨w1.heap.size,0,none⟩) N N) N (nats (ovTo C j))/\Below w.heap.size w wr)) (fun _ v5 _=>N-(intOf v5).toNat)
 case atStart=>exact⟨1,Nat.le_refl _,hN1,rfl,(by simp[rootsN]),HP0.out⟩
 case round=>
  clear HP0
  rename World=>W1
  obtain⟨j,hj1,hjn,rfl,rfl,hp⟩:=hrel
  have hlt:=(hp.out.2.1.lt w1.heap.size rfl).2
  have hr1:=rootsN_le (lowM C) j
  by_cases hjl:j<N
  · obtain⟨q,hq⟩:∃ q,(lowM C).getD j 0=q:=⟨_,rfl⟩
    have hqj:q<=j:=by rw[<-hq];exact HLS.out.le hjl
    have hq1:1<=q:=by rw[<-hq];exact HLP.out j hj1 hjl
    have hqN:q<N:=by omega
    have e0:W1.cell? ⟨g,j,none⟩=some (.int .i64 (q:Nat)):=by
     rw[hp.out.1.cellAt j (by omega),nats_get _ j (by rw[HLS.out.1];omega),hq]
    by_cases hql:q<j
    · have HQR:Hid ((lowM C).getD q 0=q):=(by have h:=HLS.out.root hjl;rw[hq]at h;exact h:(lowM C).getD q 0=q)
      have HOV:Hid (ovM C j=rootsN (lowM C) q):=(by unfold ovM;rw[hq]:ovM C j=rootsN (lowM C) q)
      have e1:W1.cell? ⟨w1.heap.size,q,none⟩=some (.int .i64 (rootsN (lowM C) q:Nat)):=by
       rw[hp.out.2.1.cellAt q (by omega),nats_get _ q (by rw[ovTo_len];have:=HN.out;omega),ovTo_at _ _ _ (by have:=HN.out;omega),if_pos ⟨hql,hq1⟩]
       unfold ovM
       rw[HQR.out]
      have HR1:Hid (rootsN (lowM C) (j+1)=rootsN (lowM C) j):=(by simp only[rootsN];rw[if_neg (fun z=>by have:=z.2;omega)];simp:rootsN (lowM C) (j+1)=rootsN (lowM C) j)
      have hdq:decide ((q:Int)<(j:Int))=true:=by simp;omega
      have hdq2:decide (q<j)=true:=by simp;omega
      clear hq
      have hst:=hp.out.2.1.stored j (.int .i64 (rootsN (lowM C) q:Nat))
      rw[nats_set,ovTo_next C j (rootsN (lowM C) q) (by have:=HN.out;omega) hj1 HOV.out]at hst
      have HST:Hid ((W1.setCell ⟨w1.heap.size,j,none⟩ (.int .i64 (rootsN (lowM C) q:Nat))).ownsRow (w.heap.size+1) 3 1 (.slice (some ⟨g,0,none⟩) N N) N (nats (lowM C))/\(W1.setCell ⟨w1.heap.size,j,none⟩ (.int .i64 (rootsN (lowM C) q:Nat))).ownsRow w1.heap.size 3 1 (.slice (some ⟨w1.heap.size,0,none⟩) N N) N (nats (ovTo C (j+1)))/\Below w.heap.size w (W1.setCell ⟨w1.heap.size,j,none⟩ (.int .i64 (rootsN (lowM C) q:Nat)))):=⟨hp.out.1.kept hst.2 (Or.inr (fun e=>by have:g=w1.heap.size:=Option.some.inj e;omega)),hst.1,hp.out.2.2.grown hst.2 hp.out.2.2.size (fun q hq=>by have:=Option.some.inj hq;omega)⟩
      have z0:W1.frozen? ⟨w1.heap.size,j,none⟩=false:=hp.out.2.1.frozenAt j
      have eo:W1.cell? ⟨w1.heap.size,j,none⟩=some (.int .i64 ((ovTo C j).getD j 0:Nat)):=by
       rw[hp.out.2.1.cellAt j (by omega)];exact nats_get _ j (by rw[ovTo_len];have:=HN.out;omega)
      clear hst
      go_wp2
      go_roundw
      case rel=>exact⟨j+1,by omega,by omega,by go_num,(by rw[HR1.out]),HST.out⟩
      case measure=>simp only[intOf];omega
    · obtain rfl:q=j:=by omega
      have HOV:Hid (ovM C q=rootsN (lowM C) q):=(by unfold ovM;rw[hq]:ovM C q=rootsN (lowM C) q)
      have HR1:Hid (rootsN (lowM C) (q+1)=rootsN (lowM C) q+1):=(by simp only[rootsN];rw[if_pos ⟨hq1,hq⟩]:rootsN (lowM C) (q+1)=rootsN (lowM C) q+1)
      have hdq:decide ((q:Int)<(q:Int))=false:=by simp
      have hdq2:decide (q<q)=false:=by simp
      clear hq
      have hst:=hp.out.2.1.stored q (.int .i64 (rootsN (lowM C) q:Nat))
      rw[nats_set,ovTo_next C q (rootsN (lowM C) q) (by have:=HN.out;omega) hj1 HOV.out]at hst
      have HST:Hid ((W1.setCell ⟨w1.heap.size,q,none⟩ (.int .i64 (rootsN (lowM C) q:Nat))).ownsRow (w.heap.size+1) 3 1 (.slice (some ⟨g,0,none⟩) N N) N (nats (lowM C))/\(W1.setCell ⟨w1.heap.size,q,none⟩ (.int .i64 (rootsN (lowM C) q:Nat))).ownsRow w1.heap.size 3 1 (.slice (some ⟨w1.heap.size,0,none⟩) N N) N (nats (ovTo C (q+1)))/\Below w.heap.size w (W1.setCell ⟨w1.heap.size,q,none⟩ (.int .i64 (rootsN (lowM C) q:Nat)))):=⟨hp.out.1.kept hst.2 (Or.inr (fun e=>by have:g=w1.heap.size:=Option.some.inj e;omega)),hst.1,hp.out.2.2.grown hst.2 hp.out.2.2.size (fun q hq=>by have:=Option.some.inj hq;omega)⟩
      have z0:W1.frozen? ⟨w1.heap.size,q,none⟩=false:=hp.out.2.1.frozenAt q
      have eo:W1.cell? ⟨w1.heap.size,q,none⟩=some (.int .i64 ((ovTo C q).getD q 0:Nat)):=by
       rw[hp.out.2.1.cellAt q (by omega)];exact nats_get _ q (by rw[ovTo_len];have:=HN.out;omega)
      clear hst
      go_wp2
      go_roundw
      case rel=>exact⟨q+1,by omega,by omega,by go_num,(by rw[HR1.out];go_num),HST.out⟩
      case measure=>simp only[intOf];omega
  · obtain rfl:N=j:=by omega
    go_wp2
    go_ret2
    exact⟨_,rfl,own_low hp.out.2.1 (by omega),hp.out.2.2⟩
end Go.Proofs.YtmnejkaihjpejaaGreatDoor
