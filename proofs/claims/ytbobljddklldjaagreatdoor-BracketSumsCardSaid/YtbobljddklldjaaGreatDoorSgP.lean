/- Several texts of the proof, one behind the other. -/
import Derived.Test.YtbobljddklldjaaGreatDoorF7P
import Derived.Test.YtbobljddklldjaaGreatDoorW1P
import Derived.Test.YtbobljddklldjaaGreatDoorH7
import Derived.Test.YtbobljddklldjaaGreatDoorF2P
import Derived.Test.YtbobljddklldjaaGreatDoorAL0P
/- drawing.Single: a drawing on a sphere, of one piece and without loops. -/
namespace Go.Proofs.YtbobljddklldjaaGreatDoor
open Go.RowKit
set_option maxHeartbeats 4000000
set_option maxRecDepth 100000
def oneB (C:List Cr) (loops:Int):Bool:=(decide (0<C.length)&&(List.range C.length).all fun v=>decide ((whoM C).getD v 0=0))&&decide (loops=0)
theorem one_iff {C:List Cr} {loops:Int} (hm:mayD C loops=true) {P:List Int} {c:Nat} (hP:PcsAll C P c):c=1↔(0<C.length/\∀ v,v<C.length->(whoM C).getD v 0=0):=by
 have hW:Least (arcE C) C.length (whoM C):=levR_least (arcE_lt hm) _ (Nat.le_refl _)
 constructor
 · intro h
   subst h
   obtain⟨v0,h0,-⟩:=hP.used 0 (by omega)
   have hp:0<C.length:=by omega
   refine⟨hp,fun v hv=>?_⟩
   have a:=hP.vals v hv
   have b:=hP.vals 0 hp
   have e:P.getD v 0=P.getD 0 0:=by omega
   have hc:=(hP.same v 0 hv hp).1 e
   have:=(hW.2 v hv).2 0 hc
   omega
 · rintro⟨hp,h⟩
   have b:=hP.vals 0 hp
   refine Classical.byContradiction fun hne=>?_
   have hc:2<=c:=by omega
   obtain⟨u,hu,eu⟩:=hP.used 0 (by omega)
   obtain⟨v,hv,ev⟩:=hP.used 1 (by omega)
   have e:=(hP.same u v hu hv).2 ((hW.same hu hv).1 (by rw[h u hu,h v hv]))
   rw[eu,ev]at e
   omega
def SingleOut (C:List Cr) (loops:Int) (ob:Bool) (w:World) (e:Ending) (w':World):Prop:=
 (match ob with|true=>∃ a cap gF cF gT cT,e=.returned (.tuple #[drV a cap C loops gF cF gT cT,.int .i64 0])/\Dr w' a cap C gF gT|false=>e=.returned (.tuple #[noDrawing,.int .i64 6]))/\Below w.heap.size w w'
theorem single_some (hFR : FaceRingsOk) (v : Value) (C : List Cr) (loops : Int) (w : World) (hn : noN C loops = 0) (h : Crs w w.heap.size v C) :
    Calls Tryz.prog 61 #[.agg #[v,.int .i64 loops]] w (SingleOut C loops (oneB C loops) w):=by
 have HC:Hid (Crs w w.heap.size v C):=h
 obtain⟨hm,hp⟩:=noN_zero hn
 have HM:Hid (mayD C loops=true):=hm
 have HP:Hid (planarB C=true):=hp
 have HFA:Hid FaceRingsOk:=hFR
 obtain⟨s1,s2,s3,s4⟩:=sizeB_iff (may_size hm)
 obtain⟨a,cap,rfl,-,-⟩:=h
 have HO:Hid (∀ P c,PcsAll C P c->oneB C loops=(decide (c=1)&&decide (loops=0))):=fun P c hP=>by
  unfold oneB
  congr 1
  have h1:=one_iff hm hP
  rw[Bool.eq_iff_iff,Bool.and_eq_true,decide_eq_true_eq,decide_eq_true_eq,List.all_eq_true,h1]
  simp only[List.mem_range,decide_eq_true_eq]
 obtain⟨ob,hob⟩:∃ ob,oneB C loops=ob:=⟨_,rfl⟩
 rw[hob]at HO ⊢
 clear hob
 have HB1:Hid (Below w.heap.size w ((w.alloc (.cells #[.slice a C.length cap,.int .i64 loops] 24)).alloc (.cells #[.slice none 0 0,.int .i64 0,.slice none 0 0,.slice none 0 0] 42))):=below2 _ _ _
 clear hm hp hn hFR
 go_enter Tryz.func61,Tryz.ntmps61
 go_wp2_with (go_at_call 24;refine(flat_yesB HFA.out a cap C loops _ HM.out HP.out (HC.out.up HB1.out)).mono ?_;rintro e9 w2 ⟨gF,cF,gT,cT,rfl,⟨hdr,hgF,hgT⟩,hb2⟩;refine Hid.out ?_)
 refine Lib.hid ?_
 have HDR:Hid (Dr w2 a cap C gF gT):=hdr
 unfold drV
 have HB2:Hid (Below w.heap.size w w2):=HB1.out.trans (hb2.mono (by simp;omega))
 have HR:Hid (w2.heap[w.heap.size+1]?=some (.cells #[.slice none 0 0,.int .i64 0,.slice none 0 0,.slice none 0 0] 42 (0,0))):=(hb2.block _ (by simp)).trans (alloc_at (by simp))
 have hs2:w.heap.size+2<=w2.heap.size:=by have:=hb2.size;simpa using this
 have hgF2:w.heap.size+2<=gF:=by have:=hgF;simp at this;omega
 have HGF:Hid (w.heap.size+2<=gF):=hgF2
 have hgT2:w.heap.size+2<=gT:=by have:=hgT;simp at this;omega
 have HGT:Hid (w.heap.size+2<=gT):=hgT2
 have HBA:Hid (Below w2.heap.size w2 (w2.alloc (.cells #[.slice a C.length cap,.int .i64 loops,.slice (some ⟨gF,0,none⟩) (2*C.length+1) cF,.slice (some ⟨gT,0,none⟩) (2*C.length+1) cT] 42))):=(Below.refl _ _).alloc (Nat.le_refl _) _
 clear hb2 hdr hgF hgT hgF2 hgT2
 go_wp2_with (go_at_call 76;refine(pieces_any a cap C loops gF cF gT cT _ HM.out (HDR.out.on HBA.out)).mono ?_;rintro e9 w3 ⟨gP,cP,P,c,rfl,-,hpc,hb3⟩;refine Hid.out ?_)
 refine Lib.hid ?_
 have HOB:Hid (ob=(decide (c=1)&&decide (loops=0))):=HO.out P c hpc
 have HB3:Hid (Below w2.heap.size w2 w3):=HBA.out.trans (hb3.mono (by simp))
 have HQ:Hid (w3.heap[w2.heap.size]?=some (.cells #[.slice a C.length cap,.int .i64 loops,.slice (some ⟨gF,0,none⟩) (2*C.length+1) cF,.slice (some ⟨gT,0,none⟩) (2*C.length+1) cT] 42 (0,0))):=(hb3.block _ (by simp)).trans (alloc_at rfl)
 have hs3:w2.heap.size+1<=w3.heap.size:=by have:=hb3.size;simpa using this
 have HK:Hid (∀ w',Below w3.heap.size w3 w'->w'.cell? ⟨w2.heap.size,0,none⟩=some (.slice a C.length cap)/\w'.cell? ⟨w2.heap.size,1,none⟩=some (.int .i64 loops)/\w'.cell? ⟨w2.heap.size,2,none⟩=some (.slice (some ⟨gF,0,none⟩) (2*C.length+1) cF)/\w'.cell? ⟨w2.heap.size,3,none⟩=some (.slice (some ⟨gT,0,none⟩) (2*C.length+1) cT)):=fun w' hb=>by
  have g:=(hb.block _ (by omega)).trans HQ.out
  exact⟨block_cell g rfl,block_cell g rfl,block_cell g rfl,block_cell g rfl⟩
 have HDK:Hid (∀ w',Below w3.heap.size w3 w'->Dr w' a cap C gF gT):=fun w' hb=>(HDR.out.on HB3.out).on hb
 have HBW:Hid (Below w.heap.size w w3):=HB2.out.trans (HB3.out.mono HB2.out.size)
 have hR:w3.heap[w.heap.size+1]?=some (.cells #[.slice none 0 0,.int .i64 0,.slice none 0 0,.slice none 0 0] 42 (0,0)):=(HB3.out.block _ (by omega)).trans HR.out
 have HR3:Hid (w3.heap[w.heap.size+1]?=some (.cells #[.slice none 0 0,.int .i64 0,.slice none 0 0,.slice none 0 0] 42 (0,0))):=hR
 have c0:w3.cell? ⟨w.heap.size+1,0,none⟩=some (.slice none 0 0):=block_cell hR rfl
 have c1:w3.cell? ⟨w.heap.size+1,1,none⟩=some (.int .i64 0):=block_cell hR rfl
 have c2:w3.cell? ⟨w.heap.size+1,2,none⟩=some (.slice none 0 0):=block_cell hR rfl
 have c3:w3.cell? ⟨w.heap.size+1,3,none⟩=some (.slice none 0 0):=block_cell hR rfl
 have f0:w3.frozen? ⟨w.heap.size+1,0,none⟩=false:=block_frozen hR
 have f1:w3.frozen? ⟨w.heap.size+1,1,none⟩=false:=block_frozen hR
 have f2:w3.frozen? ⟨w.heap.size+1,2,none⟩=false:=block_frozen hR
 have f3:w3.frozen? ⟨w.heap.size+1,3,none⟩=false:=block_frozen hR
 have l2:w.heap.size+1<w3.heap.size:=by omega
 have l3:w2.heap.size<w3.heap.size:=by omega
 clear hR
 clear hb3 hpc HO
 obtain⟨t0,t1,t2,t3⟩:=HK.out w3 (Below.refl _ _)
 by_cases hc1:c=1
 · subst hc1
   by_cases hl:loops=0
   · subst hl
     obtain rfl:ob=true:=HOB.out
     go_wp2
     have hG:=st4_grown w3 (w.heap.size+1) (.slice a C.length cap) (.int .i64 0) (.slice (some ⟨gF,0,none⟩) (2*C.length+1) cF) (.slice (some ⟨gT,0,none⟩) (2*C.length+1) cT)
     have hX:=st4_block (a:=.slice a C.length cap) (b:=.int .i64 0) (c:=.slice (some ⟨gF,0,none⟩) (2*C.length+1) cF) (d:=.slice (some ⟨gT,0,none⟩) (2*C.length+1) cT) HR3.out
     have x0:=block_cell (i:=0) (v:=.slice a C.length cap) hX rfl
     have x1:=block_cell (i:=1) (v:=.int .i64 0) hX rfl
     have x2:=block_cell (i:=2) (v:=.slice (some ⟨gF,0,none⟩) (2*C.length+1) cF) hX rfl
     have x3:=block_cell (i:=3) (v:=.slice (some ⟨gT,0,none⟩) (2*C.length+1) cT) hX rfl
     have hbb:=HBW.out.grown hG HBW.out.size (fun k hk=>by have:=Option.some.inj hk;omega)
     unfold st4 at x0 x1 x2 x3
     refine bodyPost_ret (v:=.tuple #[.agg #[.slice a C.length cap,.int .i64 0,.slice (some ⟨gF,0,none⟩) (2*C.length+1) cF,.slice (some ⟨gT,0,none⟩) (2*C.length+1) cT],.int .i64 0]) (by simp[results,Tryz.results61,go_sem,x0,x1,x2,x3]) rfl ⟨⟨a,cap,gF,cF,gT,cT,rfl,?_⟩,hbb⟩
     have D3:=HDK.out w3 (Below.refl _ _)
     have nF:gF≠w.heap.size+1:=by have:=HGF.out;omega
     have nT:gT≠w.heap.size+1:=by have:=HGT.out;omega
     exact⟨HC.out.up hbb,Nat.lt_of_lt_of_le D3.ltF hG.size,Nat.lt_of_lt_of_le D3.ltT hG.size,fun i hi=>⟨st4_cell nF (D3.from_ i hi).1,st4_cell nF (D3.from_ i hi).2⟩,fun i hi=>⟨st4_cell nT (D3.to i hi).1,st4_cell nT (D3.to i hi).2⟩⟩
   · have hl2:decide (0<loops)=true:=by simp;omega
     obtain rfl:ob=false:=by rw[HOB.out,decide_eq_false hl];simp
     go_wp2
     have hG:=st4_grown w3 (w.heap.size+1) (.slice none 0 0) (.int .i64 0) (.slice none 0 0) (.slice none 0 0)
     have hX:=st4_block (a:=.slice none 0 0) (b:=.int .i64 0) (c:=.slice none 0 0) (d:=.slice none 0 0) HR3.out
     have x0:=block_cell (i:=0) (v:=.slice none 0 0) hX rfl
     have x1:=block_cell (i:=1) (v:=.int .i64 0) hX rfl
     have x2:=block_cell (i:=2) (v:=.slice none 0 0) hX rfl
     have x3:=block_cell (i:=3) (v:=.slice none 0 0) hX rfl
     have hbb:=HBW.out.grown hG HBW.out.size (fun k hk=>by have:=Option.some.inj hk;omega)
     unfold st4 at x0 x1 x2 x3
     exact bodyPost_ret (v:=.tuple #[.agg #[.slice none 0 0,.int .i64 0,.slice none 0 0,.slice none 0 0],.int .i64 6]) (by simp[results,Tryz.results61,go_sem,x0,x1,x2,x3]) rfl ⟨rfl,hbb⟩
 · have hc2:((c:Int)==1)=false:=beq_eq_false_iff_ne.2 (by omega)
   obtain rfl:ob=false:=by rw[HOB.out,decide_eq_false hc1];rfl
   go_wp2
   have hG:=st4_grown w3 (w.heap.size+1) (.slice none 0 0) (.int .i64 0) (.slice none 0 0) (.slice none 0 0)
   have hX:=st4_block (a:=.slice none 0 0) (b:=.int .i64 0) (c:=.slice none 0 0) (d:=.slice none 0 0) HR3.out
   have x0:=block_cell (i:=0) (v:=.slice none 0 0) hX rfl
   have x1:=block_cell (i:=1) (v:=.int .i64 0) hX rfl
   have x2:=block_cell (i:=2) (v:=.slice none 0 0) hX rfl
   have x3:=block_cell (i:=3) (v:=.slice none 0 0) hX rfl
   have hbb:=HBW.out.grown hG HBW.out.size (fun k hk=>by have:=Option.some.inj hk;omega)
   unfold st4 at x0 x1 x2 x3
   exact bodyPost_ret (v:=.tuple #[.agg #[.slice none 0 0,.int .i64 0,.slice none 0 0,.slice none 0 0],.int .i64 6]) (by simp[results,Tryz.results61,go_sem,x0,x1,x2,x3]) rfl ⟨rfl,hbb⟩
end Go.Proofs.YtbobljddklldjaaGreatDoor
/- Shades of faces: plain mathematics. -/
namespace Go.Proofs.YtbobljddklldjaaGreatDoor
def tn (j:Nat):Nat:=mkD (dA j) (!dB j)
theorem tn_le {j n:Nat} (h1:1<=j) (h2:j<=4*n):1<=tn j/\tn j<=4*n:=by
 have h:=dA_le h1 h2
 exact mk_le h.1 h.2
theorem one_con {C:List Cr} {loops:Int} (hm:mayD C loops=true) (h:oneB C loops=true):0<C.length/\loops=0/\∀ k,k<C.length->Con (arcE C) 0 k:=by
 unfold oneB at h
 rw[Bool.and_eq_true,Bool.and_eq_true,decide_eq_true_eq,decide_eq_true_eq,List.all_eq_true]at h
 obtain⟨⟨h1,h2⟩,h3⟩:=h
 have hW:=whoM_least hm
 refine⟨h1,h3,fun k hk=>(hW.same h1 hk).1 ?_⟩
 have a:=h2 k (List.mem_range.2 hk)
 have b:=h2 0 (List.mem_range.2 h1)
 rw[decide_eq_true_eq]at a b
 rw[a,b]
structure Shd (C:List Cr) (s:Nat->Nat):Prop where
 zero:s 0=0
 two:∀ f,s f<2
 arc:∀ j,1<=j->j<=4*C.length->s (fo C (tn j))=1-s (fo C j)
theorem shd_all {C:List Cr} {loops:Int} (hm:mayD C loops=true) (h:oneB C loops=true) (S:Nat->Prop) (h0:S 0) (hn:∀ j,1<=j->j<=4*C.length->S (fo C j)->S (fo C (tn j))):∀ f,f<(facesM C).length->S f:=by
 obtain⟨hp,-,h1⟩:=one_con hm h
 intro f hf
 obtain⟨k,s,hk,hs,rfl⟩:=face_cor hm f hf
 obtain⟨k0,s0,hk0,hs0,e0⟩:=face_cor hm 0 (by omega)
 have hcl:Closed (incl (dfE C) (fun _=>true) (2*C.length)) S:=fun e he=>by
  obtain⟨i,hi,-,rfl⟩:=incl_mem.1 he
  unfold dfE
  have u:=mk_le (a:=i+1) (p:=true) (n:=C.length) (by omega) (by omega)
  have v:=mk_le (a:=i+1) (p:=false) (n:=C.length) (by omega) (by omega)
  have a:=hn _ u.1 u.2
  have b:=hn _ v.1 v.2
  unfold tn at a b
  rw[dA_mk (by omega),dB_mk (by omega)]at a b
  exact⟨a,b⟩
 have c1:=(faces_joined hm h1 k0 s0 hk0 hs0).symm
 have c2:=faces_joined hm h1 k s hk hs
 exact c2 S hcl (c1 S hcl (e0▸h0))
theorem faces_few {C:List Cr} {loops:Int} (hm:mayD C loops=true) (hp:planarB C=true) (h:oneB C loops=true):(facesM C).length=C.length+2:=by
 obtain⟨h0,-,h1⟩:=one_con hm h
 exact euler_one hm hp h0 h1
def Sd (s:Nat->Nat) (F:Nat) (L:List Int):Prop:=L.length=F/\∀ f,f<F->L.getD f 0 = -1∨L.getD f 0=(s f:Nat)
def uns (L:List Int):Nat:=L.countP (fun z=>decide (z = -1))
theorem uns_set:∀ (L:List Int) (f:Nat) (z:Int),f<L.length->L.getD f 0 = -1->z ≠ -1->uns (L.set f z)+1=uns L
 |[],f,z,h,_,_=>absurd h (Nat.not_lt_zero _)
 |x::L,0,z,_,h,hz=>by
  have hx:x = -1:=h
  unfold uns
  rw[List.set_cons_zero,List.countP_cons,List.countP_cons,hx]
  simp[hz]
 |x::L,f+1,z,h,h2,hz=>by
  have ih:=uns_set L f z (by simpa using h) (by simpa using h2) hz
  unfold uns at ih ⊢
  rw[List.set_cons_succ,List.countP_cons,List.countP_cons]
  omega
theorem getS_put (L:List Int) (f g:Nat) (z:Int):(L.set f z).getD g 0=if f=g/\f<L.length then z else L.getD g 0:=by
 rw[List.getD_eq_getElem?_getD,List.getElem?_set,List.getD_eq_getElem?_getD]
 by_cases e:f=g
 · subst e
   by_cases hl:f<L.length
   · simp[hl]
   · simp[hl]
 · simp[e]
theorem Sd.set {s:Nat->Nat} {F:Nat} {L:List Int} (h:Sd s F L) (f:Nat):Sd s F (L.set f (s f:Nat)):=by
 refine⟨by rw[List.length_set];exact h.1,fun g hg=>?_⟩
 rw[getS_put]
 by_cases e:f=g/\f<L.length
 · rw[if_pos e,e.1]
   exact Or.inr rfl
 · rw[if_neg e]
   exact h.2 g hg
theorem uns_le {L L':List Int} (hl:L.length=L'.length) (h:∀ g,g<L.length->L.getD g 0 ≠ -1->L'.getD g 0 ≠ -1):uns L'<=uns L:=by
 induction L generalizing L' with
 |nil=>
  cases L' with
  |nil=>exact Nat.le_refl _
  |cons _ _=>cases hl
 |cons x L ih=>
  cases L' with
  |nil=>cases hl
  |cons y L'=>
   have h0:=h 0 (by simp)
   have hr:=ih (L':=L') (by simpa using hl) (fun g hg=>by have:=h (g+1) (by simpa using hg);simpa using this)
   unfold uns at hr ⊢
   rw[List.countP_cons,List.countP_cons]
   simp at h0
   by_cases hx:x = -1
   · by_cases hy:y = -1
     · simp[hx,hy];exact hr
     · simp[hx,hy];omega
   · simp[hx,h0 hx];exact hr
structure Spd (C:List Cr) (s:Nat->Nat) (f:Nat) (L L':List Int):Prop where
 sd:Sd s (facesM C).length L'
 keep:∀ g,g<(facesM C).length->L.getD g 0 ≠ -1->L'.getD g 0 ≠ -1
 here:L'.getD f 0 ≠ -1
 new:∀ g,g<(facesM C).length->L.getD g 0 = -1->L'.getD g 0 ≠ -1->∀ j,1<=j->j<=4*C.length->fo C j=g->L'.getD (fo C (tn j)) 0 ≠ -1
structure Spi (C:List Cr) (s:Nat->Nat) (f:Nat) (P:List Nat) (L M:List Int):Prop where
 sd:Sd s (facesM C).length M
 keep:∀ g,g<(facesM C).length->L.getD g 0 ≠ -1->M.getD g 0 ≠ -1
 here:M.getD f 0 ≠ -1
 new:∀ g,g<(facesM C).length->g≠f->L.getD g 0 = -1->M.getD g 0 ≠ -1->∀ j,1<=j->j<=4*C.length->fo C j=g->M.getD (fo C (tn j)) 0 ≠ -1
 done:∀ j,j∈P->fo C j=f->M.getD (fo C (tn j)) 0 ≠ -1
 less:uns M<uns L
theorem Spi.start {C:List Cr} {s:Nat->Nat} {f:Nat} {L:List Int} (h:Sd s (facesM C).length L) (hf:f<(facesM C).length) (hL:L.getD f 0 = -1):Spi C s f [] L (L.set f (s f:Nat)):=by
 have hfl:f<L.length:=by rw[h.1];exact hf
 have hne:((s f:Nat):Int) ≠ -1:=by omega
 refine⟨h.set f,fun g hg h1=>?_,?_,fun g hg hgf h1 h2=>?_,fun j h1=>absurd h1 List.not_mem_nil,by have:=uns_set L f (s f:Nat) hfl hL hne;omega⟩
 · rw[getS_put]
   split
   · exact hne
   · exact h1
 · rw[getS_put,if_pos ⟨rfl,hfl⟩];exact hne
 · rw[getS_put,if_neg (fun e=>hgf e.1.symm)]at h2
   exact absurd h1 h2
theorem Spi.pass {C:List Cr} {s:Nat->Nat} {f x:Nat} {P:List Nat} {L M:List Int} (h:Spi C s f P L M) (hi:fo C x≠f∨M.getD (fo C (tn x)) 0 ≠ -1):Spi C s f (P++[x]) L M:=
 ⟨h.sd, h.keep, h.here, h.new, fun j h1 hf => by
  rcases List.mem_append.1 h1 with q|q
  · exact h.done j q hf
  · rw[List.mem_singleton]at q
    subst q
    rcases hi with hi|hi
    · exact absurd hf hi
    · exact hi,h.less⟩
theorem getS_off (L:List Int) (f:Nat) (h:L.length<=f):L.getD f 0 ≠ -1:=by
 rw[List.getD_eq_getElem?_getD,List.getElem?_eq_none h]
 decide
theorem Spi.step {C:List Cr} {s:Nat->Nat} {f x:Nat} {P:List Nat} {L M M':List Int} (h:Spi C s f P L M) (hM:Spd C s (fo C (tn x)) M M'):Spi C s f (P++[x]) L M':=by
 have hF:=h.sd.1
 have hF':=hM.sd.1
 have hk:∀ g,M.getD g 0 ≠ -1->M'.getD g 0 ≠ -1:=fun g hg=>by
  by_cases hl:g<(facesM C).length
  · exact hM.keep g hl hg
  · exact getS_off M' g (by omega)
 refine⟨hM.sd,fun g hg h1=>hk g (h.keep g hg h1),hk f h.here,fun g hg hgf h1 h2 j hj1 hj2 hj=>?_,fun j h1 hf=>?_,Nat.lt_of_le_of_lt (uns_le (by rw[hF,hF']) (fun g _=>hk g)) h.less⟩
 · by_cases hg2:M.getD g 0 = -1
   · exact hM.new g hg hg2 h2 j hj1 hj2 hj
   · exact hk _ (h.new g hg hgf h1 hg2 j hj1 hj2 hj)
 · rcases List.mem_append.1 h1 with q|q
   · exact hk _ (h.done j q hf)
   · rw[List.mem_singleton]at q
     subst q
     exact hM.here
theorem Spi.spd {C:List Cr} {s:Nat->Nat} {f:Nat} {P:List Nat} {L M:List Int} (h:Spi C s f P L M) (hP:∀ j,1<=j->j<=4*C.length->j∈P):Spd C s f L M:=
 ⟨h.sd, h.keep, h.here, fun g hg h1 h2 j hj1 hj2 hj => by
  by_cases e:g=f
  · subst e;exact h.done j (hP j hj1 hj2) hj
  · exact h.new g hg e h1 h2 j hj1 hj2 hj⟩
def shL (s:Nat->Nat) (F:Nat):List Int:=(List.range F).map fun f=>((s f:Nat):Int)
theorem Spd.all {C:List Cr} {loops:Int} {s:Nat->Nat} {L L':List Int} (hm:mayD C loops=true) (ho:oneB C loops=true) (hL:∀ g,g<(facesM C).length->L.getD g 0 = -1) (h:Spd C s 0 L L'):L'=shL s (facesM C).length:=by
 have hall:∀ g,g<(facesM C).length->L'.getD g 0 ≠ -1:=shd_all hm ho (fun g=>L'.getD g 0 ≠ -1) h.here (fun j h1 h2 hj=>h.new (fo C j) (fo_lt j h1 h2) (hL _ (fo_lt j h1 h2)) hj j h1 h2 rfl)
 apply List.ext_getElem?
 intro i
 by_cases hi:i<(facesM C).length
 · have h1:=hall i hi
   have h2:=h.sd.2 i hi
   have e:L'[i]?=some (L'.getD i 0):=by rw[List.getD_eq_getElem?_getD,List.getElem?_eq_getElem (by rw[h.sd.1];exact hi)];rfl
   rw[e]
   rcases h2 with h2|h2
   · exact absurd h2 h1
   · rw[h2]
     simp[shL,hi]
 · rw[List.getElem?_eq_none (by rw[h.sd.1];omega),List.getElem?_eq_none (by simp[shL];omega)]
end Go.Proofs.YtbobljddklldjaaGreatDoor
/- The walks of colour.overpasses and colour.Overs. -/
namespace Go.Proofs.YtbobljddklldjaaGreatDoor
open Go.RowKit
set_option maxHeartbeats 16000000
set_option maxRecDepth 100000
def ovTo (C:List Cr) (k:Nat):List Nat:=(List.range (2*C.length+1)).map fun v=>if v<k/\1<=v then ovM C v else 0
theorem ovTo_len (C:List Cr) (k:Nat):(ovTo C k).length=2*C.length+1:=by simp[ovTo]
theorem ovTo_at (C:List Cr) (k v:Nat) (hv:v<2*C.length+1):(ovTo C k).getD v 0=if v<k/\1<=v then ovM C v else 0:=by simp[ovTo,List.getD_eq_getElem?_getD,hv]
theorem ovTo_zero (C:List Cr):List.replicate (2*C.length+1) 0=ovTo C 1:=by
 refine List.ext_getElem (by simp[ovTo]) fun j h1 h2=>?_
 simp only[ovTo,List.getElem_map,List.getElem_range,List.getElem_replicate]
 rw[if_neg (by omega)]
theorem ovTo_next (C:List Cr) (k z:Nat) (hk:k<2*C.length+1) (h1:1<=k) (hz:ovM C k=z):(ovTo C k).set k z=ovTo C (k+1):=getD_ext (by simp[ovTo_len]) fun v hv=>by
 have hv':v<2*C.length+1:=by simpa[ovTo_len] using hv
 rw[getD_set _ _ _ _ (by rw[ovTo_len];exact hk),ovTo_at _ _ _ hv',ovTo_at _ _ _ hv']
 by_cases e:v=k
 · subst e;rw[if_pos rfl,if_pos ⟨by omega,h1⟩,hz]
 · rw[if_neg e]
   by_cases h2:v<k/\1<=v
   · rw[if_pos h2,if_pos ⟨by omega,h2.2⟩]
   · rw[if_neg h2,if_neg (fun q=>h2 ⟨by omega,q.2⟩)]
theorem ovTo_drop (C:List Cr):(ovTo C (2*C.length+1)).drop 1=ovL C (2*C.length):=by
 refine List.ext_getElem (by simp[ovTo,ovL]) fun j h1 h2=>?_
 simp only[List.getElem_drop,ovTo,ovL,List.getElem_map,List.getElem_range]
 rw [if_pos ⟨by have : j < 2 * C.length := by simpa [ovL] using h2
                omega,by omega⟩,Nat.add_comm]
theorem overpasses_any (a : Option Addr) (cap : Nat) (C : List Cr) (loops : Int) (gF cF gT cT : Nat) (w : World) (hm : mayD C loops = true) (hD : Dr w a cap C gF gT) :
    Calls Tryz.prog 27 #[drV a cap C loops gF cF gT cT] w fun e w'=>∃ g,e=.returned (.tuple #[.slice (some ⟨g,0,none⟩) (2*C.length+1) (2*C.length+1),.int .i64 (ovC C:Nat)])/\w'.ownsRow w.heap.size 3 1 (.slice (some ⟨g,0,none⟩) (2*C.length+1) (2*C.length+1)) (2*C.length+1) (nats (ovTo C (2*C.length+1)))/\Below w.heap.size w w':=by
 obtain⟨s1,-,-,-⟩:=sizeB_iff (may_size hm)
 obtain⟨i2,hk,hx0,hx1,hx2⟩:=info_parts infoInt
 have HM:Hid (mayD C loops=true):=hm
 have HD:Hid (Dr w a cap C gF gT):=hD
 have HLS:Hid (Least (ovE C) (2*C.length+1) (lowM C)):=lowM_least (ovE_lt hm)
 have HCV:Hid (ovC C=rootsN (lowM C) (2*C.length+1)):=(rfl:ovC C=rootsN (lowM C) (2*C.length+1))
 have HLP:Hid (∀ v,1<=v->v<2*C.length+1->1<=(lowM C).getD v 0):=fun v h1 h2=>HLS.out.pos (fun e he=>⟨(ovE_in HM.out e he).1.1,(ovE_in HM.out e he).2.1⟩) h2 h1
 have HZ0:Hid (List.replicate (2*C.length+1) 0=ovTo C 1):=ovTo_zero C
 have HB0:Hid (Below w.heap.size w (w.alloc (.cells #[.slice a C.length cap,.int .i64 loops,.slice (some ⟨gF,0,none⟩) (2*C.length+1) cF,.slice (some ⟨gT,0,none⟩) (2*C.length+1) cT] 42))):=(Below.refl _ _).alloc (Nat.le_refl _) _
 unfold drV
 obtain⟨N,hN⟩:∃ N,N=2*C.length+1:=⟨_,rfl⟩
 have HN:Hid (N=2*C.length+1):=hN
 have hN1:1<=N:=by omega
 have hN2:N<=33:=by omega
 have HLA:Hid (∀ W,Dr W a cap C gF gT->Calls Tryz.prog 54 #[.agg #[.slice a C.length cap,.int .i64 loops,.slice (some ⟨gF,0,none⟩) N cF,.slice (some ⟨gT,0,none⟩) N cT]] W fun e w'=>∃ g,e=.returned (.slice (some ⟨g,0,none⟩) N N)/\w'.ownsRow W.heap.size 3 1 (.slice (some ⟨g,0,none⟩) N N) N (nats (lowM C))/\Below W.heap.size W w'):=fun W hW=>by rw[hN];exact lowestArcs_any a cap C loops gF cF gT cT W HM.out hW
 rw[<-hN]at HLS HCV HLP HZ0 HB0 ⊢
 rw[HCV.out]
 clear hm hD hN
 go_enter Tryz.func27,Tryz.ntmps27
 go_wp2_with (go_at_call 54;refine(HLA.out _ (HD.out.on HB0.out)).mono ?_;rintro e9 w1 ⟨g,rfl,hr1,hb1⟩;refine Hid.out ?_)
 refine Lib.hid ?_
 have hs1:w.heap.size+1<=w1.heap.size:=by have:=hb1.size;simpa using this
 have hg1:w.heap.size+1<=g/\g<w1.heap.size:=by have:=hr1.lt g rfl;simpa using this
 have HR1:Hid (w1.ownsRow (w.heap.size+1) 3 1 (.slice (some ⟨g,0,none⟩) N N) N (nats (lowM C))/\Below w.heap.size w w1):=⟨own_low hr1 (by simp),HB0.out.trans (hb1.mono (by simp))⟩
 clear hr1 hb1
 go_wp2_with (first|(at_make;refine wpList_make_full _ rfl _ _ 62 rfl w1.heap.size 3 i2 (.int .i64 0) 1 Tryz.underlying62 hk hx0 hx1 .i64 .i64 _ _ N rfl rfl rfl rfl (by rw[hx2];omega) (by unfold maxLen;omega) (by omega) ?_;intro w2 hrow hg2;refine Hid.out ?_))
 refine Lib.hid ?_
 rw[made_zeroN,HZ0.out]at hrow
 have HP0:Hid (w2.ownsRow (w.heap.size+1) 3 1 (.slice (some ⟨g,0,none⟩) N N) N (nats (lowM C))/\w2.ownsRow w1.heap.size 3 1 (.slice (some ⟨w1.heap.size,0,none⟩) N N) N (nats (ovTo C 1))/\Below w.heap.size w w2):=⟨own_any HR1.out.1 hg2,hrow,HR1.out.2.grown hg2 HR1.out.2.size (fun q hq=>by cases hq)⟩
 clear hrow hg2 HR1
 go_wp2
 go_loopw [3,5] (fun v3 v5 wr=>∃ j:Nat,1<=j/\j<=N/\v5=.int .i64 (j:Nat)/\v3=.int .i64 (rootsN (lowM C) j:Nat)/\Hid (wr.ownsRow (w.heap.size+1) 3 1 (.slice (some ⟨g,0,none⟩) N N) N (nats (lowM C))/\wr.ownsRow w1.heap.size 3 1 (.slice (some ⟨w1.heap.size,0,none⟩) N N) N (nats (ovTo C j))/\Below w.heap.size w wr)) (fun _ v5 _=>N-(intOf v5).toNat)
 case atStart=>exact⟨1,Nat.le_refl _,hN1,rfl,(by simp[rootsN]),HP0.out⟩
 case round=>
  clear HP0
  rename World=>W1
  obtain⟨j,hj1,hjn,rfl,rfl,hp⟩:=hrel
  have hlt:=(hp.out.2.1.lt w1.heap.size rfl).2
  have hr1:=rootsN_le (lowM C) j
  by_cases hjl:j<N
  · obtain⟨q,hq⟩:∃ q,(lowM C).getD j 0=q:=⟨_,rfl⟩
    have hqj:q<=j:=by rw[<-hq];exact HLS.out.le hjl
    have hq1:1<=q:=by rw[<-hq];exact HLP.out j hj1 hjl
    have hqN:q<N:=by omega
    have e0:W1.cell? ⟨g,j,none⟩=some (.int .i64 (q:Nat)):=by
     rw[hp.out.1.cellAt j (by omega),nats_get _ j (by rw[HLS.out.1];omega),hq]
    by_cases hql:q<j
    · have HQR:Hid ((lowM C).getD q 0=q):=(by have h:=HLS.out.root hjl;rw[hq]at h;exact h:(lowM C).getD q 0=q)
      have HOV:Hid (ovM C j=rootsN (lowM C) q):=(by unfold ovM;rw[hq]:ovM C j=rootsN (lowM C) q)
      have e1:W1.cell? ⟨w1.heap.size,q,none⟩=some (.int .i64 (rootsN (lowM C) q:Nat)):=by
       rw[hp.out.2.1.cellAt q (by omega),nats_get _ q (by rw[ovTo_len];have:=HN.out;omega),ovTo_at _ _ _ (by have:=HN.out;omega),if_pos ⟨hql,hq1⟩]
       unfold ovM
       rw[HQR.out]
      have HR1:Hid (rootsN (lowM C) (j+1)=rootsN (lowM C) j):=(by simp only[rootsN];rw[if_neg (fun z=>by have:=z.2;omega)];simp:rootsN (lowM C) (j+1)=rootsN (lowM C) j)
      have hdq:decide ((q:Int)<(j:Int))=true:=by simp;omega
      have hdq2:decide (q<j)=true:=by simp;omega
      clear hq
      have hst:=hp.out.2.1.stored j (.int .i64 (rootsN (lowM C) q:Nat))
      rw[nats_set,ovTo_next C j (rootsN (lowM C) q) (by have:=HN.out;omega) hj1 HOV.out]at hst
      have HST:Hid ((W1.setCell ⟨w1.heap.size,j,none⟩ (.int .i64 (rootsN (lowM C) q:Nat))).ownsRow (w.heap.size+1) 3 1 (.slice (some ⟨g,0,none⟩) N N) N (nats (lowM C))/\(W1.setCell ⟨w1.heap.size,j,none⟩ (.int .i64 (rootsN (lowM C) q:Nat))).ownsRow w1.heap.size 3 1 (.slice (some ⟨w1.heap.size,0,none⟩) N N) N (nats (ovTo C (j+1)))/\Below w.heap.size w (W1.setCell ⟨w1.heap.size,j,none⟩ (.int .i64 (rootsN (lowM C) q:Nat)))):=⟨hp.out.1.kept hst.2 (Or.inr (fun e=>by have:g=w1.heap.size:=Option.some.inj e;omega)),hst.1,hp.out.2.2.grown hst.2 hp.out.2.2.size (fun q hq=>by have:=Option.some.inj hq;omega)⟩
      have z0:W1.frozen? ⟨w1.heap.size,j,none⟩=false:=hp.out.2.1.frozenAt j
      have eo:W1.cell? ⟨w1.heap.size,j,none⟩=some (.int .i64 ((ovTo C j).getD j 0:Nat)):=by
       rw[hp.out.2.1.cellAt j (by omega)];exact nats_get _ j (by rw[ovTo_len];have:=HN.out;omega)
      clear hst
      go_wp2
      go_roundw
      case rel=>exact⟨j+1,by omega,by omega,by go_num,(by rw[HR1.out]),HST.out⟩
      case measure=>simp only[intOf];omega
    · obtain rfl:q=j:=by omega
      have HOV:Hid (ovM C q=rootsN (lowM C) q):=(by unfold ovM;rw[hq]:ovM C q=rootsN (lowM C) q)
      have HR1:Hid (rootsN (lowM C) (q+1)=rootsN (lowM C) q+1):=(by simp only[rootsN];rw[if_pos ⟨hq1,hq⟩]:rootsN (lowM C) (q+1)=rootsN (lowM C) q+1)
      have hdq:decide ((q:Int)<(q:Int))=false:=by simp
      have hdq2:decide (q<q)=false:=by simp
      clear hq
      have hst:=hp.out.2.1.stored q (.int .i64 (rootsN (lowM C) q:Nat))
      rw[nats_set,ovTo_next C q (rootsN (lowM C) q) (by have:=HN.out;omega) hj1 HOV.out]at hst
      have HST:Hid ((W1.setCell ⟨w1.heap.size,q,none⟩ (.int .i64 (rootsN (lowM C) q:Nat))).ownsRow (w.heap.size+1) 3 1 (.slice (some ⟨g,0,none⟩) N N) N (nats (lowM C))/\(W1.setCell ⟨w1.heap.size,q,none⟩ (.int .i64 (rootsN (lowM C) q:Nat))).ownsRow w1.heap.size 3 1 (.slice (some ⟨w1.heap.size,0,none⟩) N N) N (nats (ovTo C (q+1)))/\Below w.heap.size w (W1.setCell ⟨w1.heap.size,q,none⟩ (.int .i64 (rootsN (lowM C) q:Nat)))):=⟨hp.out.1.kept hst.2 (Or.inr (fun e=>by have:g=w1.heap.size:=Option.some.inj e;omega)),hst.1,hp.out.2.2.grown hst.2 hp.out.2.2.size (fun q hq=>by have:=Option.some.inj hq;omega)⟩
      have z0:W1.frozen? ⟨w1.heap.size,q,none⟩=false:=hp.out.2.1.frozenAt q
      have eo:W1.cell? ⟨w1.heap.size,q,none⟩=some (.int .i64 ((ovTo C q).getD q 0:Nat)):=by
       rw[hp.out.2.1.cellAt q (by omega)];exact nats_get _ q (by rw[ovTo_len];have:=HN.out;omega)
      clear hst
      go_wp2
      go_roundw
      case rel=>exact⟨q+1,by omega,by omega,by go_num,(by rw[HR1.out];go_num),HST.out⟩
      case measure=>simp only[intOf];omega
  · obtain rfl:N=j:=by omega
    go_wp2
    go_ret2
    exact⟨_,rfl,own_low hp.out.2.1 (by omega),hp.out.2.2⟩
end Go.Proofs.YtbobljddklldjaaGreatDoor
/- One more than the greatest number of a list; the walk of ref.mostOf. -/
namespace Go.Proofs.YtbobljddklldjaaGreatDoor
open Go.RowKit
def mostTo (l:List Nat):Nat->Nat
 |0=>0
 |k+1=>max (mostTo l k) (l.getD k 0+1)
theorem mostTo_le (l:List Nat) (B k:Nat) (hk:k<=l.length) (h:∀ x,x∈l->x<B):mostTo l k<=B:=by
 induction k with
 |zero=>exact Nat.zero_le _
 |succ k ih=>
  have:=ih (by omega)
  have h2:=h (l.getD k 0) (by rw[List.getD_eq_getElem?_getD,List.getElem?_eq_getElem (by omega)];exact List.getElem_mem _)
  simp only[mostTo]
  omega
theorem mostTo_ov {C:List Cr} (hL:Least (ovE C) (2*C.length+1) (lowM C)) (hpos:∀ v,1<=v->v<2*C.length+1->1<=(lowM C).getD v 0) (k:Nat) (hk:k<=2*C.length):mostTo (ovL C (2*C.length)) k=rootsN (lowM C) (k+1):=by
 induction k with
 |zero=>simp[mostTo,rootsN]
 |succ k ih=>
  have h1:=ih (by omega)
  have e:(ovL C (2*C.length)).getD k 0=ovM C (k+1):=by simp[ovL,List.getD_eq_getElem?_getD,show k<2*C.length by omega]
  have hv:k+1<2*C.length+1:=by omega
  simp only[mostTo]
  rw[h1,e]
  show max (rootsN (lowM C) (k+1)) (ovM C (k+1)+1)=rootsN (lowM C) (k+1)+(if 1<=k+1/\(lowM C).getD (k+1) 0=k+1 then 1 else 0)
  by_cases hr:(lowM C).getD (k+1) 0=k+1
  · rw[if_pos ⟨by omega,hr⟩]
    unfold ovM
    rw[hr]
    omega
  · rw[if_neg (fun z=>hr z.2)]
    have hle:=hL.le hv
    have hp:=hpos (k+1) (by omega) hv
    have hroot:=hL.root hv
    have h3:rootsN (lowM C) ((lowM C).getD (k+1) 0+1)=ovM C (k+1)+1:=by
     show rootsN (lowM C) _+_=_
     rw[if_pos ⟨hp,hroot⟩]
     rfl
    have h4:=rootsN_mono (lowM C) ((lowM C).getD (k+1) 0+1) (k+1) (by omega)
    omega
end Go.Proofs.YtbobljddklldjaaGreatDoor
/- The walk of colour.Overs. -/
namespace Go.Proofs.YtbobljddklldjaaGreatDoor
open Go.RowKit
set_option maxHeartbeats 4000000
set_option maxRecDepth 100000
theorem overs_yes (hFR : FaceRingsOk) (v : Value) (C : List Cr) (loops : Int) (w : World) (hn : noN C loops = 0) (h : Crs w w.heap.size v C) :
    Calls Tryz.prog 56 #[.agg #[v,.int .i64 loops]] w fun e w'=>∃ a c,e=.returned (.tuple #[.slice a (2*C.length) c,.int .i64 0])/\Slots w' w'.heap.size (.slice a (2*C.length) c) (nats (ovL C (2*C.length)))/\Below w.heap.size w w':=by
 have HC:Hid (Crs w w.heap.size v C):=h
 obtain⟨hm,hp⟩:=noN_zero hn
 have HM:Hid (mayD C loops=true):=hm
 have HP:Hid (planarB C=true):=hp
 have HFA:Hid FaceRingsOk:=hFR
 obtain⟨s1,s2,s3,s4⟩:=sizeB_iff (may_size hm)
 obtain⟨a,cap,rfl,-,-⟩:=h
 have HB1:Hid (Below w.heap.size w (w.alloc (.cells #[.slice a C.length cap,.int .i64 loops] 24))):=(Below.refl _ _).alloc (Nat.le_refl _) _
 clear hm hp hn hFR
 go_enter Tryz.func56,Tryz.ntmps56
 go_wp2_with (go_at_call 24;refine(flat_yes HFA.out _ C loops _ HM.out HP.out (HC.out.up HB1.out)).mono ?_;rintro e9 w2 ⟨a',cap',gF,cF,gT,cT,rfl,hdr,hb2⟩;refine Hid.out ?_)
 refine Lib.hid ?_
 have HDR:Hid (Dr w2 a' cap' C gF gT):=hdr
 have HOV:Hid (∀ W,Dr W a' cap' C gF gT->Calls Tryz.prog 27 #[drV a' cap' C loops gF cF gT cT] W fun e w'=>∃ g,e=.returned (.tuple #[.slice (some ⟨g,0,none⟩) (2*C.length+1) (2*C.length+1),.int .i64 (ovC C:Nat)])/\w'.ownsRow W.heap.size 3 1 (.slice (some ⟨g,0,none⟩) (2*C.length+1) (2*C.length+1)) (2*C.length+1) (nats (ovTo C (2*C.length+1)))/\Below W.heap.size W w'):=fun W hW=>overpasses_any a' cap' C loops gF cF gT cT W HM.out hW
 unfold drV at HOV
 unfold drV
 have HB2:Hid (Below w.heap.size w w2):=HB1.out.trans (hb2.mono HB1.out.size)
 have hs2:=HB2.out.size
 have HBA:Hid (Below w2.heap.size w2 (w2.alloc (.cells #[.slice a' C.length cap',.int .i64 loops,.slice (some ⟨gF,0,none⟩) (2*C.length+1) cF,.slice (some ⟨gT,0,none⟩) (2*C.length+1) cT] 42))):=(Below.refl _ _).alloc (Nat.le_refl _) _
 clear hb2 hdr
 go_wp2_with (go_at_call 27;refine(HOV.out _ (HDR.out.on HBA.out)).mono ?_;rintro e9 w3 ⟨g,rfl,hr3,hb3⟩;refine Hid.out ?_)
 refine Lib.hid ?_
 have HSL : Hid (∀ c, Slots w3 w3.heap.size (.slice (some ⟨g, 1, none⟩) (2 * C.length) c) (nats (ovL C (2 * C.length)))) := fun c => ⟨_, _, by rw [nats_len, ovL_len], fun _ => ⟨g, 1, rfl, (hr3.lt g rfl).2, fun i hi => by
  rw[nats_len,ovL_len]at hi
  have e:(nats (ovL C (2*C.length))).getD i (.bool false)=.int .i64 ((ovL C (2*C.length)).getD i 0:Nat):=by
   rw[List.getD_eq_getElem?_getD,nats_get _ i (by rw[ovL_len];exact hi)];rfl
  rw[hr3.cellAt (1+i) (by omega),nats_get _ (1+i) (by rw[ovTo_len];omega),e,<-ovTo_drop]
  simp[List.getD_eq_getElem?_getD,Nat.add_comm 1 i]⟩⟩
 have HSN:Hid (∀ a c,Slots w3 w3.heap.size (.slice a 0 c) (nats (ovL C 0))):=fun a c=>⟨_,_,by rw[nats_len,ovL_len],fun h1=>by rw[nats_len,ovL_len]at h1;omega⟩
 have HB3:Hid (Below w.heap.size w w3):=HB2.out.trans ((HBA.out.trans (hb3.mono (by simp))).mono hs2)
 clear hr3 hb3
 go_wp2
 all_goals
  go_ret2
  first
   |exact⟨_,_,rfl,HSL.out _,HB3.out⟩
   |exact⟨_,_,rfl,HSN.out _ _,HB3.out⟩
end Go.Proofs.YtbobljddklldjaaGreatDoor
/- The walks of colour.prime, ref.Prime, colour.inverse and ref.mostOf. -/
namespace Go.Proofs.YtbobljddklldjaaGreatDoor
open Go.RowKit
set_option maxHeartbeats 4000000
set_option maxRecDepth 100000
theorem primeN_no {p f:Nat} (h1:2<=f) (h2:f<p) (h:p%f=0):primeN p=false:=by
 cases e:primeN p with
 |false=>rfl
 |true=>
  have:=List.all_eq_true.1 (Bool.and_eq_true_iff.1 e).2 f (List.mem_range.2 h2)
  simp[h]at this
  omega
theorem sq_all:((List.range 98).all fun p=>(List.range 12).all fun f=>decide (f*f<=p)||(List.range f).any (fun k=>decide (2<=k)&&decide (p%k=0))||(primeN p==decide (2<=p)))=true:=by decide +kernel
theorem sq_prime {p f:Nat} (hp:p<98) (hf:f<12) (hq:p<f*f) (h:∀ k,2<=k->k<f->p%k≠0):primeN p=decide (2<=p):=by
 have h1:=List.all_eq_true.1 (List.all_eq_true.1 sq_all p (List.mem_range.2 hp)) f (List.mem_range.2 hf)
 rcases Bool.or_eq_true_iff.1 h1 with h2|h2
 · rcases Bool.or_eq_true_iff.1 h2 with h3|h3
   · have:f*f<=p:=by simpa using h3
     omega
   · obtain⟨k,hk,e⟩:=List.any_eq_true.1 h3
     have e1:=Bool.and_eq_true_iff.1 e
     exact absurd (by simpa using e1.2) (h k (by simpa using e1.1) (List.mem_range.1 hk))
 · simpa using h2
theorem prime_any (p : Int) (w : World) (hp : p ≤ 97) (hlo : -9223372036854775808 ≤ p) :
    Calls Tryz.prog 26 #[.int .i64 p] w fun e w'=>e=.returned (.bool (primeN p.toNat))/\Below w.heap.size w w':=by
 have HB:Hid (Below w.heap.size w w):=Below.refl _ _
 go_enter Tryz.func26,Tryz.ntmps26
 go_wp2
 go_loopw [3] (fun v3 wr=>∃ f:Nat,2<=f/\f<=10/\v3=.int .i64 (f:Nat)/\Hid (∀ k,2<=k->k<f->p.toNat%k≠0)/\Hid (Below w.heap.size w wr)) (fun v3 _=>11-(intOf v3).toNat)
 case atStart=>exact⟨2,by omega,by omega,rfl,(fun k h1 h2=>by omega),HB.out⟩
 case round=>
  clear HB
  rename World=>W1
  obtain⟨f,hf1,hf2,rfl,hno,hb⟩:=hrel
  obtain⟨s,hs⟩:∃ s:Nat,f*f=s:=⟨_,rfl⟩
  have HS:Hid (f*f=s):=hs
  have hs1:s<=100:=by rw[<-hs];exact Nat.mul_le_mul hf2 hf2
  have hs3:2*f<=s:=by rw[<-hs];exact Nat.mul_le_mul_right f hf1
  have hs2:(f:Int)*(f:Int)=(s:Int):=by rw[<-hs];push_cast;rfl
  have ew:IntKind.i64.wrap ((f:Int)*(f:Int))=(s:Int):=by rw[hs2];exact IntWalk.i64_in _ (by omega)
  have ew2:IntKind.i64.wrap (s:Int)=(s:Int):=IntWalk.i64_in _ (by omega)
  clear hs
  by_cases hle:(s:Int)<=p
  · obtain⟨q,rfl⟩:∃ q:Nat,p=(q:Int):=⟨p.toNat,by omega⟩
    have hq:(q:Int).toNat=q:=Int.toNat_natCast q
    rw[hq]at hno
    have er:(q:Int).tmod (f:Int)=((q%f:Nat):Int):=rfl
    have hf0:((f:Int)==0)=false:=by simp;omega
    have hfn:(f:Int)≠0:=by omega
    have hlt:q%f<f:=Nat.mod_lt _ (by omega)
    obtain⟨r,hr⟩:∃ r,q%f=r:=⟨_,rfl⟩
    have HR:Hid (q%f=r):=hr
    rw[hr]at er hlt
    clear hr
    by_cases hr0:r=0
    · subst hr0
      have HP:Hid (primeN (q:Int).toNat=false):=(by rw[hq];exact primeN_no hf1 (by omega) HR.out:primeN (q:Int).toNat=false)
      clear hq
      go_wp2
      go_ret
      exact⟨by rw[HP.out];rfl,hb.out⟩
    · have hrz:((r:Int)==0)=false:=by simp;omega
      have hf9:f<=9:=by
       rcases Nat.lt_or_ge f 10 with h|h
       · omega
       · obtain rfl:f=10:=by omega
         have:=HS.out
         omega
      clear hq
      go_wp2
      go_roundw
      case rel => exact ⟨f + 1, by omega, by omega, by go_num, (fun k h1 h2 => by
       have h3:(q:Int).toNat=q:=Int.toNat_natCast q
       rw[h3]
       by_cases e:k=f
       · rw[e,HR.out];exact hr0
       · exact hno.out k h1 (by omega):∀ k,2<=k->k<f+1->(q:Int).toNat%k≠0),hb.out⟩
      case measure=>simp only[intOf];omega
  · have HP:Hid (primeN p.toNat=decide (2<=p.toNat)):=sq_prime (by omega) (by omega) (by rw[HS.out];omega) hno.out
    have HE : Hid (decide (2 ≤ p) = decide (2 ≤ p.toNat)) := (by
     by_cases h2:2<=p
     · rw[decide_eq_true h2,decide_eq_true (by omega)]
     · rw[decide_eq_false h2,decide_eq_false (by omega)]:decide (2<=p)=decide (2<=p.toNat))
    go_wp2
    go_ret
    exact⟨ret_bool (by rw[HP.out,<-HE.out]),hb.out⟩
theorem inverse_any (a p : Nat) (w : World) (hp : p < 98) (hpr : primeN p = true) (ha : a < p) (h0 : a ≠ 0) :
    Calls Tryz.prog 78 #[.int .i64 (a:Nat),.int .i64 (p:Nat)] w fun e w'=>∃ b:Nat,e=.returned (.int .i64 (b:Nat))/\b<p/\a*b%p=1/\Below w.heap.size w w':=by
 have HB:Hid (Below w.heap.size w w):=Below.refl _ _
 have HEX:Hid (∃ b,b<p/\a*b%p=1):=inv_ex hp hpr ha h0
 go_enter Tryz.func78,Tryz.ntmps78
 go_wp2
 go_loopw [7] (fun v7 wr=>∃ b:Nat,b<=p/\v7=.int .i64 (b:Nat)/\Hid (∀ k,k<b->a*k%p≠1)/\Hid (Below w.heap.size w wr)) (fun v7 _=>p-(intOf v7).toNat)
 case atStart=>exact⟨0,by omega,rfl,(fun k h1=>by omega),HB.out⟩
 case round=>
  clear HB
  rename World=>W1
  obtain⟨b,hb1,rfl,hno,hb⟩:=hrel
  by_cases hle:b<p
  · obtain⟨s,hs⟩:∃ s:Nat,a*b=s:=⟨_,rfl⟩
    have HS:Hid (a*b=s):=hs
    have hs1:s<=97*97:=by rw[<-hs];exact Nat.mul_le_mul (by omega) (by omega)
    have hs2:(a:Int)*(b:Int)=(s:Int):=by rw[<-hs];push_cast;rfl
    have ew:IntKind.i64.wrap ((a:Int)*(b:Int))=(s:Int):=by rw[hs2];exact IntWalk.i64_in _ (by omega)
    have ew2:IntKind.i64.wrap (s:Int)=(s:Int):=IntWalk.i64_in _ (by omega)
    have er:(s:Int).tmod (p:Int)=((s%p:Nat):Int):=rfl
    have hf0:((p:Int)==0)=false:=by simp;omega
    have hfn:(p:Int)≠0:=by omega
    have hlt:s%p<p:=Nat.mod_lt _ (by omega)
    obtain⟨r,hr⟩:∃ r,s%p=r:=⟨_,rfl⟩
    have HR:Hid (s%p=r):=hr
    rw[hr]at er hlt
    clear hr hs hpr
    by_cases hr0:r=1
    · subst hr0
      go_wp2
      go_ret
      exact⟨b,rfl,hle,(by rw[HS.out];exact HR.out),hb.out⟩
    · have hrz:((r:Int)==1)=false:=by simp;omega
      have hrz2:(r==1)=false:=by simp;omega
      go_wp2
      go_roundw
      case rel => exact ⟨b + 1, by omega, by go_num, (fun k h1 => by
       by_cases e:k=b
       · rw[e,HS.out,HR.out];exact hr0
       · exact hno.out k (by omega):∀ k,k<b+1->a*k%p≠1),hb.out⟩
      case measure=>simp only[intOf];omega
  · obtain⟨c,hc1,hc2⟩:=HEX.out
    exact absurd hc2 (hno.out c (by omega))
end Go.Proofs.YtbobljddklldjaaGreatDoor
/- What few says at 12; the walk of bracket.drawn. -/
namespace Go.Proofs.YtbobljddklldjaaGreatDoor
open Go.RowKit
set_option maxHeartbeats 4000000
set_option maxRecDepth 100000
theorem hidS0 {P:Prop} (h:P):Hid P:=h
def fewM (C:List Cr) (loops:Int):Int:=if noN C loops=0/\12<C.length then 2 else noN C loops
theorem drawn_no (hFR : FaceRingsOk) (a : Option Addr) (cap : Nat) (C : List Cr) (loops : Int) (w : World) (hn : noN C loops ≠ 0) (h : Crs w w.heap.size (.slice a C.length cap) C) :
    Calls Tryz.prog 15 #[.agg #[.slice a C.length cap,.int .i64 loops]] w fun e w'=>(e=.returned (.tuple #[noDrawing,.int .i64 (noN C loops)]))/\Below w.heap.size w w':=by
 have HC:Hid (Crs w w.heap.size (.slice a C.length cap) C):=h
 have HF:=hidS0 (fun W hW=>flat_not hFR a cap C loops W hn hW)
 generalize noN C loops=r at hn HF
 have hr0:(r==0)=false:=beq_eq_false_iff_ne.2 hn
 have HB1:Hid (Below w.heap.size w ((w.alloc (.cells #[.slice a C.length cap,.int .i64 loops] 24)).alloc (.cells #[.slice none 0 0,.int .i64 0,.slice none 0 0,.slice none 0 0] 42))):=below2 _ _ _
 go_enter Tryz.func15,Tryz.ntmps15
 go_wp2_with (go_at_call 24;refine(HF.out _ (HC.out.up HB1.out)).mono ?_;rintro e9 w2 ⟨rfl,hb2⟩;refine Hid.out ?_)
 refine Lib.hid ?_
 unfold noDrawing
 have HB2:Hid (Below w.heap.size w w2):=HB1.out.trans (hb2.mono (by simp;omega))
 have hR:w2.heap[w.heap.size+1]?=some (.cells #[.slice none 0 0,.int .i64 0,.slice none 0 0,.slice none 0 0] 42 (0,0)):=(hb2.block _ (by simp)).trans (alloc_at (by simp))
 have hs2:w.heap.size+2<=w2.heap.size:=by have:=hb2.size;simpa using this
 have hA:(w2.alloc (.cells #[.slice none 0 0,.int .i64 0,.slice none 0 0,.slice none 0 0] 42)).heap[w.heap.size+1]?=some (.cells #[.slice none 0 0,.int .i64 0,.slice none 0 0,.slice none 0 0] 42 (0,0)):=alloc_old hR
 have HA:Hid ((w2.alloc (.cells #[.slice none 0 0,.int .i64 0,.slice none 0 0,.slice none 0 0] 42)).heap[w.heap.size+1]?=some (.cells #[.slice none 0 0,.int .i64 0,.slice none 0 0,.slice none 0 0] 42 (0,0))):=hA
 have HBA:Hid (Below w.heap.size w (w2.alloc (.cells #[.slice none 0 0,.int .i64 0,.slice none 0 0,.slice none 0 0] 42))):=HB2.out.alloc HB2.out.size _
 have c0:(w2.alloc (.cells #[.slice none 0 0,.int .i64 0,.slice none 0 0,.slice none 0 0] 42)).cell? ⟨w.heap.size+1,0,none⟩=some (.slice none 0 0):=block_cell hA rfl
 have c1:(w2.alloc (.cells #[.slice none 0 0,.int .i64 0,.slice none 0 0,.slice none 0 0] 42)).cell? ⟨w.heap.size+1,1,none⟩=some (.int .i64 0):=block_cell hA rfl
 have c2:(w2.alloc (.cells #[.slice none 0 0,.int .i64 0,.slice none 0 0,.slice none 0 0] 42)).cell? ⟨w.heap.size+1,2,none⟩=some (.slice none 0 0):=block_cell hA rfl
 have c3:(w2.alloc (.cells #[.slice none 0 0,.int .i64 0,.slice none 0 0,.slice none 0 0] 42)).cell? ⟨w.heap.size+1,3,none⟩=some (.slice none 0 0):=block_cell hA rfl
 have f0:(w2.alloc (.cells #[.slice none 0 0,.int .i64 0,.slice none 0 0,.slice none 0 0] 42)).frozen? ⟨w.heap.size+1,0,none⟩=false:=block_frozen hA
 have f1:(w2.alloc (.cells #[.slice none 0 0,.int .i64 0,.slice none 0 0,.slice none 0 0] 42)).frozen? ⟨w.heap.size+1,1,none⟩=false:=block_frozen hA
 have f2:(w2.alloc (.cells #[.slice none 0 0,.int .i64 0,.slice none 0 0,.slice none 0 0] 42)).frozen? ⟨w.heap.size+1,2,none⟩=false:=block_frozen hA
 have f3:(w2.alloc (.cells #[.slice none 0 0,.int .i64 0,.slice none 0 0,.slice none 0 0] 42)).frozen? ⟨w.heap.size+1,3,none⟩=false:=block_frozen hA
 clear hb2 hR hA
 go_wp2
 have hG:=st4_grown (w2.alloc (.cells #[.slice none 0 0,.int .i64 0,.slice none 0 0,.slice none 0 0] 42)) (w.heap.size+1) (.slice none 0 0) (.int .i64 0) (.slice none 0 0) (.slice none 0 0)
 have hX:=st4_block (a:=.slice none 0 0) (b:=.int .i64 0) (c:=.slice none 0 0) (d:=.slice none 0 0) HA.out
 have x0:=block_cell (i:=0) (v:=.slice none 0 0) hX rfl
 have x1:=block_cell (i:=1) (v:=.int .i64 0) hX rfl
 have x2:=block_cell (i:=2) (v:=.slice none 0 0) hX rfl
 have x3:=block_cell (i:=3) (v:=.slice none 0 0) hX rfl
 have hbb:=HBA.out.grown hG HBA.out.size (fun k hk=>by have:=Option.some.inj hk;omega)
 unfold st4 at x0 x1 x2 x3
 exact bodyPost_ret (v:=.tuple #[.agg #[.slice none 0 0,.int .i64 0,.slice none 0 0,.slice none 0 0],.int .i64 r]) (by simp[results,Tryz.results15,go_sem,x0,x1,x2,x3]) rfl ⟨rfl,hbb⟩
theorem drawn_size (hFR : FaceRingsOk) (a : Option Addr) (cap : Nat) (C : List Cr) (loops : Int) (w : World) (hn : noN C loops = 0) (h12 : 12 < C.length) (h : Crs w w.heap.size (.slice a C.length cap) C) :
    Calls Tryz.prog 15 #[.agg #[.slice a C.length cap,.int .i64 loops]] w fun e w'=>(e=.returned (.tuple #[noDrawing,.int .i64 2]))/\Below w.heap.size w w':=by
 have HC:Hid (Crs w w.heap.size (.slice a C.length cap) C):=h
 obtain⟨hm,hp⟩:=noN_zero hn
 have HF:=hidS0 (fun W hW=>flat_yesB hFR a cap C loops W hm hp hW)
 have hz1:decide ((12:Int)<(C.length:Int))=true:=by simp;omega
 clear hm hp
 have HB1:Hid (Below w.heap.size w ((w.alloc (.cells #[.slice a C.length cap,.int .i64 loops] 24)).alloc (.cells #[.slice none 0 0,.int .i64 0,.slice none 0 0,.slice none 0 0] 42))):=below2 _ _ _
 go_enter Tryz.func15,Tryz.ntmps15
 go_wp2_with (go_at_call 24;refine(HF.out _ (HC.out.up HB1.out)).mono ?_;rintro e9 w2 ⟨gF,cF,gT,cT,rfl,-,hb2⟩;refine Hid.out ?_)
 refine Lib.hid ?_
 unfold drV
 have HB2:Hid (Below w.heap.size w w2):=HB1.out.trans (hb2.mono (by simp;omega))
 have hR:w2.heap[w.heap.size+1]?=some (.cells #[.slice none 0 0,.int .i64 0,.slice none 0 0,.slice none 0 0] 42 (0,0)):=(hb2.block _ (by simp)).trans (alloc_at (by simp))
 have hs2:w.heap.size+2<=w2.heap.size:=by have:=hb2.size;simpa using this
 have hA:(w2.alloc (.cells #[.slice a C.length cap,.int .i64 loops,.slice (some ⟨gF,0,none⟩) (2*C.length+1) cF,.slice (some ⟨gT,0,none⟩) (2*C.length+1) cT] 42)).heap[w.heap.size+1]?=some (.cells #[.slice none 0 0,.int .i64 0,.slice none 0 0,.slice none 0 0] 42 (0,0)):=alloc_old hR
 have HA:Hid ((w2.alloc (.cells #[.slice a C.length cap,.int .i64 loops,.slice (some ⟨gF,0,none⟩) (2*C.length+1) cF,.slice (some ⟨gT,0,none⟩) (2*C.length+1) cT] 42)).heap[w.heap.size+1]?=some (.cells #[.slice none 0 0,.int .i64 0,.slice none 0 0,.slice none 0 0] 42 (0,0))):=hA
 have HBA:Hid (Below w.heap.size w (w2.alloc (.cells #[.slice a C.length cap,.int .i64 loops,.slice (some ⟨gF,0,none⟩) (2*C.length+1) cF,.slice (some ⟨gT,0,none⟩) (2*C.length+1) cT] 42))):=HB2.out.alloc HB2.out.size _
 have c0:(w2.alloc (.cells #[.slice a C.length cap,.int .i64 loops,.slice (some ⟨gF,0,none⟩) (2*C.length+1) cF,.slice (some ⟨gT,0,none⟩) (2*C.length+1) cT] 42)).cell? ⟨w.heap.size+1,0,none⟩=some (.slice none 0 0):=block_cell hA rfl
 have c1:(w2.alloc (.cells #[.slice a C.length cap,.int .i64 loops,.slice (some ⟨gF,0,none⟩) (2*C.length+1) cF,.slice (some ⟨gT,0,none⟩) (2*C.length+1) cT] 42)).cell? ⟨w.heap.size+1,1,none⟩=some (.int .i64 0):=block_cell hA rfl
 have c2:(w2.alloc (.cells #[.slice a C.length cap,.int .i64 loops,.slice (some ⟨gF,0,none⟩) (2*C.length+1) cF,.slice (some ⟨gT,0,none⟩) (2*C.length+1) cT] 42)).cell? ⟨w.heap.size+1,2,none⟩=some (.slice none 0 0):=block_cell hA rfl
 have c3:(w2.alloc (.cells #[.slice a C.length cap,.int .i64 loops,.slice (some ⟨gF,0,none⟩) (2*C.length+1) cF,.slice (some ⟨gT,0,none⟩) (2*C.length+1) cT] 42)).cell? ⟨w.heap.size+1,3,none⟩=some (.slice none 0 0):=block_cell hA rfl
 have f0:(w2.alloc (.cells #[.slice a C.length cap,.int .i64 loops,.slice (some ⟨gF,0,none⟩) (2*C.length+1) cF,.slice (some ⟨gT,0,none⟩) (2*C.length+1) cT] 42)).frozen? ⟨w.heap.size+1,0,none⟩=false:=block_frozen hA
 have f1:(w2.alloc (.cells #[.slice a C.length cap,.int .i64 loops,.slice (some ⟨gF,0,none⟩) (2*C.length+1) cF,.slice (some ⟨gT,0,none⟩) (2*C.length+1) cT] 42)).frozen? ⟨w.heap.size+1,1,none⟩=false:=block_frozen hA
 have f2:(w2.alloc (.cells #[.slice a C.length cap,.int .i64 loops,.slice (some ⟨gF,0,none⟩) (2*C.length+1) cF,.slice (some ⟨gT,0,none⟩) (2*C.length+1) cT] 42)).frozen? ⟨w.heap.size+1,2,none⟩=false:=block_frozen hA
 have f3:(w2.alloc (.cells #[.slice a C.length cap,.int .i64 loops,.slice (some ⟨gF,0,none⟩) (2*C.length+1) cF,.slice (some ⟨gT,0,none⟩) (2*C.length+1) cT] 42)).frozen? ⟨w.heap.size+1,3,none⟩=false:=block_frozen hA
 have hN:(w2.alloc (.cells #[.slice a C.length cap,.int .i64 loops,.slice (some ⟨gF,0,none⟩) (2*C.length+1) cF,.slice (some ⟨gT,0,none⟩) (2*C.length+1) cT] 42)).heap[w2.heap.size]?=some (.cells #[.slice a C.length cap,.int .i64 loops,.slice (some ⟨gF,0,none⟩) (2*C.length+1) cF,.slice (some ⟨gT,0,none⟩) (2*C.length+1) cT] 42 (0,0)):=alloc_at rfl
 clear hb2 hR hA
 go_wp2
 have hG:=st4_grown (w2.alloc (.cells #[.slice a C.length cap,.int .i64 loops,.slice (some ⟨gF,0,none⟩) (2*C.length+1) cF,.slice (some ⟨gT,0,none⟩) (2*C.length+1) cT] 42)) (w.heap.size+1) (.slice none 0 0) (.int .i64 0) (.slice none 0 0) (.slice none 0 0)
 have hX:=st4_block (a:=.slice none 0 0) (b:=.int .i64 0) (c:=.slice none 0 0) (d:=.slice none 0 0) HA.out
 have x0:=block_cell (i:=0) (v:=.slice none 0 0) hX rfl
 have x1:=block_cell (i:=1) (v:=.int .i64 0) hX rfl
 have x2:=block_cell (i:=2) (v:=.slice none 0 0) hX rfl
 have x3:=block_cell (i:=3) (v:=.slice none 0 0) hX rfl
 have hbb:=HBA.out.grown hG HBA.out.size (fun k hk=>by have:=Option.some.inj hk;omega)
 unfold st4 at x0 x1 x2 x3
 exact bodyPost_ret (v:=.tuple #[.agg #[.slice none 0 0,.int .i64 0,.slice none 0 0,.slice none 0 0],.int .i64 2]) (by simp[results,Tryz.results15,go_sem,x0,x1,x2,x3]) rfl ⟨rfl,hbb⟩
theorem drawn_yes (hFR : FaceRingsOk) (a : Option Addr) (cap : Nat) (C : List Cr) (loops : Int) (w : World) (hn : noN C loops = 0) (h12 : C.length ≤ 12) (h : Crs w w.heap.size (.slice a C.length cap) C) :
    Calls Tryz.prog 15 #[.agg #[.slice a C.length cap,.int .i64 loops]] w fun e w'=>(∃ gF cF gT cT,e=.returned (.tuple #[drV a cap C loops gF cF gT cT,.int .i64 0]))/\Below w.heap.size w w':=by
 have HC:Hid (Crs w w.heap.size (.slice a C.length cap) C):=h
 obtain⟨hm,hp⟩:=noN_zero hn
 have HF:=hidS0 (fun W hW=>flat_yesB hFR a cap C loops W hm hp hW)
 have hz1:decide ((12:Int)<(C.length:Int))=false:=by simp;omega
 clear hm hp
 have HB1:Hid (Below w.heap.size w ((w.alloc (.cells #[.slice a C.length cap,.int .i64 loops] 24)).alloc (.cells #[.slice none 0 0,.int .i64 0,.slice none 0 0,.slice none 0 0] 42))):=below2 _ _ _
 go_enter Tryz.func15,Tryz.ntmps15
 go_wp2_with (go_at_call 24;refine(HF.out _ (HC.out.up HB1.out)).mono ?_;rintro e9 w2 ⟨gF,cF,gT,cT,rfl,-,hb2⟩;refine Hid.out ?_)
 refine Lib.hid ?_
 unfold drV
 have HB2:Hid (Below w.heap.size w w2):=HB1.out.trans (hb2.mono (by simp;omega))
 have hR:w2.heap[w.heap.size+1]?=some (.cells #[.slice none 0 0,.int .i64 0,.slice none 0 0,.slice none 0 0] 42 (0,0)):=(hb2.block _ (by simp)).trans (alloc_at (by simp))
 have hs2:w.heap.size+2<=w2.heap.size:=by have:=hb2.size;simpa using this
 have hA:(w2.alloc (.cells #[.slice a C.length cap,.int .i64 loops,.slice (some ⟨gF,0,none⟩) (2*C.length+1) cF,.slice (some ⟨gT,0,none⟩) (2*C.length+1) cT] 42)).heap[w.heap.size+1]?=some (.cells #[.slice none 0 0,.int .i64 0,.slice none 0 0,.slice none 0 0] 42 (0,0)):=alloc_old hR
 have HA:Hid ((w2.alloc (.cells #[.slice a C.length cap,.int .i64 loops,.slice (some ⟨gF,0,none⟩) (2*C.length+1) cF,.slice (some ⟨gT,0,none⟩) (2*C.length+1) cT] 42)).heap[w.heap.size+1]?=some (.cells #[.slice none 0 0,.int .i64 0,.slice none 0 0,.slice none 0 0] 42 (0,0))):=hA
 have HBA:Hid (Below w.heap.size w (w2.alloc (.cells #[.slice a C.length cap,.int .i64 loops,.slice (some ⟨gF,0,none⟩) (2*C.length+1) cF,.slice (some ⟨gT,0,none⟩) (2*C.length+1) cT] 42))):=HB2.out.alloc HB2.out.size _
 have c0:(w2.alloc (.cells #[.slice a C.length cap,.int .i64 loops,.slice (some ⟨gF,0,none⟩) (2*C.length+1) cF,.slice (some ⟨gT,0,none⟩) (2*C.length+1) cT] 42)).cell? ⟨w.heap.size+1,0,none⟩=some (.slice none 0 0):=block_cell hA rfl
 have c1:(w2.alloc (.cells #[.slice a C.length cap,.int .i64 loops,.slice (some ⟨gF,0,none⟩) (2*C.length+1) cF,.slice (some ⟨gT,0,none⟩) (2*C.length+1) cT] 42)).cell? ⟨w.heap.size+1,1,none⟩=some (.int .i64 0):=block_cell hA rfl
 have c2:(w2.alloc (.cells #[.slice a C.length cap,.int .i64 loops,.slice (some ⟨gF,0,none⟩) (2*C.length+1) cF,.slice (some ⟨gT,0,none⟩) (2*C.length+1) cT] 42)).cell? ⟨w.heap.size+1,2,none⟩=some (.slice none 0 0):=block_cell hA rfl
 have c3:(w2.alloc (.cells #[.slice a C.length cap,.int .i64 loops,.slice (some ⟨gF,0,none⟩) (2*C.length+1) cF,.slice (some ⟨gT,0,none⟩) (2*C.length+1) cT] 42)).cell? ⟨w.heap.size+1,3,none⟩=some (.slice none 0 0):=block_cell hA rfl
 have f0:(w2.alloc (.cells #[.slice a C.length cap,.int .i64 loops,.slice (some ⟨gF,0,none⟩) (2*C.length+1) cF,.slice (some ⟨gT,0,none⟩) (2*C.length+1) cT] 42)).frozen? ⟨w.heap.size+1,0,none⟩=false:=block_frozen hA
 have f1:(w2.alloc (.cells #[.slice a C.length cap,.int .i64 loops,.slice (some ⟨gF,0,none⟩) (2*C.length+1) cF,.slice (some ⟨gT,0,none⟩) (2*C.length+1) cT] 42)).frozen? ⟨w.heap.size+1,1,none⟩=false:=block_frozen hA
 have f2:(w2.alloc (.cells #[.slice a C.length cap,.int .i64 loops,.slice (some ⟨gF,0,none⟩) (2*C.length+1) cF,.slice (some ⟨gT,0,none⟩) (2*C.length+1) cT] 42)).frozen? ⟨w.heap.size+1,2,none⟩=false:=block_frozen hA
 have f3:(w2.alloc (.cells #[.slice a C.length cap,.int .i64 loops,.slice (some ⟨gF,0,none⟩) (2*C.length+1) cF,.slice (some ⟨gT,0,none⟩) (2*C.length+1) cT] 42)).frozen? ⟨w.heap.size+1,3,none⟩=false:=block_frozen hA
 have hN:(w2.alloc (.cells #[.slice a C.length cap,.int .i64 loops,.slice (some ⟨gF,0,none⟩) (2*C.length+1) cF,.slice (some ⟨gT,0,none⟩) (2*C.length+1) cT] 42)).heap[w2.heap.size]?=some (.cells #[.slice a C.length cap,.int .i64 loops,.slice (some ⟨gF,0,none⟩) (2*C.length+1) cF,.slice (some ⟨gT,0,none⟩) (2*C.length+1) cT] 42 (0,0)):=alloc_at rfl
 clear hb2 hR hA
 go_wp2
 have hG:=st4_grown (w2.alloc (.cells #[.slice a C.length cap,.int .i64 loops,.slice (some ⟨gF,0,none⟩) (2*C.length+1) cF,.slice (some ⟨gT,0,none⟩) (2*C.length+1) cT] 42)) (w.heap.size+1) (.slice a C.length cap) (.int .i64 loops) (.slice (some ⟨gF,0,none⟩) (2*C.length+1) cF) (.slice (some ⟨gT,0,none⟩) (2*C.length+1) cT)
 have hX:=st4_block (a:=.slice a C.length cap) (b:=.int .i64 loops) (c:=.slice (some ⟨gF,0,none⟩) (2*C.length+1) cF) (d:=.slice (some ⟨gT,0,none⟩) (2*C.length+1) cT) HA.out
 have x0:=block_cell (i:=0) (v:=.slice a C.length cap) hX rfl
 have x1:=block_cell (i:=1) (v:=.int .i64 loops) hX rfl
 have x2:=block_cell (i:=2) (v:=.slice (some ⟨gF,0,none⟩) (2*C.length+1) cF) hX rfl
 have x3:=block_cell (i:=3) (v:=.slice (some ⟨gT,0,none⟩) (2*C.length+1) cT) hX rfl
 have hbb:=HBA.out.grown hG HBA.out.size (fun k hk=>by have:=Option.some.inj hk;omega)
 unfold st4 at x0 x1 x2 x3
 exact bodyPost_ret (v:=.tuple #[.agg #[.slice a C.length cap,.int .i64 loops,.slice (some ⟨gF,0,none⟩) (2*C.length+1) cF,.slice (some ⟨gT,0,none⟩) (2*C.length+1) cT],.int .i64 0]) (by simp[results,Tryz.results15,go_sem,x0,x1,x2,x3]) rfl ⟨⟨gF,cF,gT,cT,rfl⟩,hbb⟩
theorem drawn_bad (hFR : FaceRingsOk) (a : Option Addr) (cap : Nat) (C : List Cr) (loops r : Int) (w : World) (hr : r ≠ 0) (hF : fewM C loops = r) (h : Crs w w.heap.size (.slice a C.length cap) C) :
    Calls Tryz.prog 15 #[.agg #[.slice a C.length cap,.int .i64 loops]] w fun e w'=>(e=.returned (.tuple #[noDrawing,.int .i64 r]))/\Below w.heap.size w w':=by
 by_cases hn:noN C loops=0
 · by_cases hz:12<C.length
   · have e:r=2:=by rw[<-hF];exact if_pos ⟨hn,hz⟩
     rw[e];exact drawn_size hFR a cap C loops w hn hz h
   · exact absurd (hF.symm.trans ((if_neg (fun q=>hz q.2)).trans hn)) hr
 · have e:r=noN C loops:=by rw[<-hF];exact if_neg (fun q=>hn q.1)
   rw[e];exact drawn_no hFR a cap C loops w hn h
end Go.Proofs.YtbobljddklldjaaGreatDoor
/- The walks of wind.Genus, ref.OnePiece and ref.GenusOf. -/
namespace Go.Proofs.YtbobljddklldjaaGreatDoor
open Go.RowKit
def gN (C:List Cr):Int:=(2-((walksM C).length:Int)-((circM C).length:Int)+(C.length:Int)).tdiv 2
end Go.Proofs.YtbobljddklldjaaGreatDoor
