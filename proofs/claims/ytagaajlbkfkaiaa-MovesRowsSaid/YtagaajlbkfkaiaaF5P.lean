/- Several texts of the proof, one behind the other. -/
import Derived.Test.YtagaajlbkfkaiaaF4P
import Derived.Test.YtagaajlbkfkaiaaF2P
import Derived.Test.YtagaajlbkfkaiaaF1P
import Derived.Test.YtagaajlbkfkaiaaO0P
import Derived.Deep.RegionHeld3
import Derived.Deep.Cut
/- Rings of darts in a world; the walk of ref.PlanarIs. -/
namespace Go.Proofs.Ytagaajlbkfkaiaa
open Go.RowKit
def RingsAt (w:World) (B:Nat) (v:Value) (L:List (List Nat)):Prop:=∃ a cap,v=.slice a L.length cap/\(0<L.length->∃ b off,a=some ⟨b,off,none⟩/\b<w.heap.size/\B<=b/\∀ j,j<L.length->∃ g c,w.cell? ⟨b,off+j,none⟩=some (.slice (some ⟨g,0,none⟩) (L.getD j []).length c)/\g<w.heap.size/\B<=g/\∀ k,k<(L.getD j []).length->w.cell? ⟨g,k*2,none⟩=some (.int .i64 (dA ((L.getD j []).getD k 0):Nat))/\w.cell? ⟨g,k*2+1,none⟩=some (.bool (dB ((L.getD j []).getD k 0))))
theorem RingsAt.on {w w':World} {B:Nat} {v:Value} {L:List (List Nat)} (h:RingsAt w B v L) (hb:Below w.heap.size w w'):RingsAt w' B v L:=by
 obtain⟨a,cap,rfl,f⟩:=h
 refine⟨a,cap,rfl,fun h0=>?_⟩
 obtain⟨b,off,rfl,hlt,hB,hc⟩:=f h0
 refine⟨b,off,rfl,Nat.lt_of_lt_of_le hlt hb.size,hB,fun j hj=>?_⟩
 obtain⟨g,c,h1,h2,hG,h3⟩:=hc j hj
 exact⟨g,c,bcell hb hlt h1,Nat.lt_of_lt_of_le h2 hb.size,hG,fun k hk=>⟨bcell hb h2 (h3 k hk).1,bcell hb h2 (h3 k hk).2⟩⟩
theorem dd_get (l:List Nat) (k:Nat) (hk:k<l.length):(dd l).getD k (0,false)=(dA (l.getD k 0),dB (l.getD k 0)):=by
 simp[dd,List.getD_eq_getElem?_getD,hk]
theorem DartsOwn.rings {w:World} {B:Nat} {v:Value} {L:List (List Nat)} (h:DartsOwn w B v L) (hn:∀ j,j<L.length->0<(L.getD j []).length):RingsAt w B v L:=by
 obtain⟨ys,h1,h2,h3⟩:=h
 obtain⟨a,cap,ev,f⟩:=slots_of_own h2
 refine⟨a,cap,by rw[ev,h1],fun h0=>?_⟩
 obtain⟨b,off,ea,hlt,hc⟩:=f (by omega)
 refine⟨b,off,ea,hlt,(h2.lt b (by rw[ev,ea];rfl)).1,fun j hj=>?_⟩
 have hr:=h3 j hj
 have hpos:=hn j hj
 have hcell:=hc j (by omega)
 rcases hr.2 with⟨_,hz⟩|⟨g,c,cur,e1,hBg,hg,_,_,_,htk⟩
 · omega
 · rw[e1]at hcell
   refine⟨g,c,hcell,(Array.getElem?_eq_some_iff.1 hg).1,hBg,fun k hk=>?_⟩
   have hv:=vflat_get (dd (L.getD j [])) k (by rw[dd_len];exact hk)
   rw[dd_get _ k hk]at hv
   have hcl:=fun(o:Nat) (u:Value) (hu:(vflat (dd (L.getD j [])))[o]?=some u)=>hr.cells (g:=g) (by rw[e1];rfl) o u hu
   have hadd:∀ o,(⟨g,0,none⟩:Addr).add o=⟨g,o,none⟩:=fun o=>by unfold Addr.add;split<;>simp_all
   have a1:=hcl _ _ hv.1
   have a2:=hcl _ _ hv.2
   rw[hadd]at a1 a2
   exact⟨a1,a2⟩
theorem facesM_facts {C:List Cr} {loops:Int} (hm:mayD C loops=true):(facesM C).length<=4*C.length/\∀ j,j<(facesM C).length->0<((facesM C).getD j []).length/\((facesM C).getD j []).length<=4*C.length+1/\∀ k,k<((facesM C).getD j []).length->1<=((facesM C).getD j []).getD k 0/\((facesM C).getD j []).getD k 0<=4*C.length:=by
 refine⟨walksTo_count _ _ _,fun j hj=>?_⟩
 have hmem:(facesM C).getD j []∈facesM C:=by rw[List.getD_eq_getElem?_getD,List.getElem?_eq_getElem hj];exact List.getElem_mem hj
 obtain⟨h1,h2,h3⟩:=walksTo_mem (fd_closed hm) (4*C.length) (Nat.le_refl _) _ hmem
 refine⟨List.length_pos_iff.2 h1,h2,fun k hk=>h3 _ ?_⟩
 generalize (facesM C).getD j []=l at hk ⊢
 rw[List.getD_eq_getElem?_getD,List.getElem?_eq_getElem hk]
 exact List.getElem_mem hk
theorem facesM_pos {C:List Cr} (h:0<C.length):0<(facesM C).length:=by
 have h1:=walks_once (fd C) (4*C.length) 1 (Nat.le_refl _) (by omega)
 unfold facesM
 cases hl:(walksTo (fd C) (4*C.length) (4*C.length)).1 with
 |nil=>rw[hl]at h1;simp at h1
 |cons x l=>simp
def headsM (C:List Cr):List Nat:=(facesM C).map fun l=>dC C (l.getD 0 0)
theorem headsM_len (C:List Cr):(headsM C).length=(facesM C).length:=by simp[headsM]
theorem headsM_at (C:List Cr) (i:Nat) (hi:i<(facesM C).length):(headsM C).getD i 0=dC C (((facesM C).getD i []).getD 0 0):=by
 simp[headsM,List.getD_eq_getElem?_getD,hi]
theorem headsM_lt {C:List Cr} {loops:Int} (hm:mayD C loops=true):∀ g,g∈headsM C->g<C.length:=fun g hg=>by
 obtain⟨l,hl,rfl⟩:=List.mem_map.1 hg
 obtain⟨j,hj,rfl⟩:=List.getElem_of_mem hl
 obtain⟨h1,_,h3⟩:=(facesM_facts hm).2 j hj
 have e:(facesM C).getD j []=(facesM C)[j]:=by rw[List.getD_eq_getElem?_getD,List.getElem?_eq_getElem hj];rfl
 rw[e]at h1 h3
 exact(d_may hm _ (h3 0 h1).1 (h3 0 h1).2).2.1
def whoM (C:List Cr):List Nat:=levR (List.range C.length) (arcE C) C.length
def planarB (C:List Cr):Bool:=(List.range C.length).all fun p=>!decide ((whoM C).getD p 0=p)||decide (exN C.length (headsM C) (whoM C) p=2)
theorem planarB_iff (C:List Cr):planarB C=true↔∀ p,p<C.length->(whoM C).getD p 0=p->exN C.length (headsM C) (whoM C) p=2:=by
 unfold planarB
 rw[List.all_eq_true]
 constructor
 · intro h p hp e
   have:=h p (List.mem_range.2 hp)
   rw[e]at this
   simpa only[decide_true,Bool.not_true,Bool.false_or,decide_eq_true_eq] using this
 · intro h p hp
   by_cases e:(whoM C).getD p 0=p
   · simp only[e,decide_true,Bool.not_true,Bool.false_or,decide_eq_true_eq];exact h p (List.mem_range.1 hp) e
   · simp only[e,decide_false,Bool.not_false,Bool.true_or]
theorem whoM_least {C:List Cr} {loops:Int} (hm:mayD C loops=true):Least (arcE C) C.length (whoM C):=levR_least (arcE_lt hm) C.length (Nat.le_refl _)
def cntN (W:List Nat) (p:Nat) (i:Nat):Nat:=(List.range i).countP fun v=>decide (W.getD v 0=p)
theorem cntN_next (W:List Nat) (p i:Nat):cntN W p (i+1)=cntN W p i+if W.getD i 0=p then 1 else 0:=by
 unfold cntN
 rw[List.range_succ,List.countP_append]
 congr 1
 by_cases h:W.getD i 0=p
 · rw[if_pos h];simp only[List.countP_cons,List.countP_nil,h,decide_true,if_true]
 · rw[if_neg h];simp only[List.countP_cons,List.countP_nil,h,decide_false];rfl
theorem cntN_le (W:List Nat) (p i:Nat):cntN W p i<=i:=by
 have:=List.countP_le_length (p:=fun v=>decide (W.getD v 0=p)) (l:=List.range i)
 simpa[cntN] using this
def cntG (G:List Nat) (W:List Nat) (p:Nat) (i:Nat):Nat:=(G.take i).countP fun g=>decide (W.getD g 0=p)
theorem cntG_next (G W:List Nat) (p i:Nat) (hi:i<G.length):cntG G W p (i+1)=cntG G W p i+if W.getD (G.getD i 0) 0=p then 1 else 0:=by
 unfold cntG
 rw[List.take_add_one,List.countP_append]
 congr 1
 have e:G[i]?=some (G.getD i 0):=by rw[List.getD_eq_getElem?_getD,List.getElem?_eq_getElem hi];rfl
 rw[e]
 by_cases h:W.getD (G.getD i 0) 0=p
 · rw[if_pos h];simp only[Option.toList_some,List.countP_cons,List.countP_nil,h,decide_true,if_true]
 · rw[if_neg h];simp only[Option.toList_some,List.countP_cons,List.countP_nil,h,decide_false];rfl
theorem cntG_le (G W:List Nat) (p i:Nat):cntG G W p i<=G.length:=by
 have:=List.countP_le_length (p:=fun g=>decide (W.getD g 0=p)) (l:=G.take i)
 unfold cntG
 have h2:=List.length_take_le i G
 have h3:(G.take i).length<=G.length:=by rw[List.length_take];omega
 omega
theorem ex_cnt (n:Nat) (G W:List Nat) (p:Nat):exN n G W p=(cntG G W p G.length:Int)-(cntN W p n:Int):=by
 unfold exN cntG cntN
 rw[List.take_length]
end Go.Proofs.Ytagaajlbkfkaiaa
/- The walk of ref.PlanarIs. -/
namespace Go.Proofs.Ytagaajlbkfkaiaa
open Go.RowKit
set_option maxHeartbeats 16000000
set_option maxRecDepth 100000
theorem planarIs_any (a:Option Addr) (cap:Nat) (C:List Cr) (loops:Int) (w:World) (hm:mayD C loops=true) (hD:Crs w w.heap.size (.slice a C.length cap) C):
    Calls Try.prog 32 #[.agg #[.slice a C.length cap,.int .i64 loops]] w fun e w'=>e=.returned (.bool (planarB C))/\Below w.heap.size w w':=by
 obtain⟨s1,-,-,-⟩:=sizeB_iff (may_size hm)
 have HM:Hid (mayD C loops=true):=hm
 have HD:Hid (Crs w w.heap.size (.slice a C.length cap) C):=hD
 obtain⟨hfl,hfr⟩:=facesM_facts hm
 have HFR:Hid (∀ j,j<(facesM C).length->0<((facesM C).getD j []).length/\((facesM C).getD j []).length<=4*C.length+1/\∀ k,k<((facesM C).getD j []).length->1<=((facesM C).getD j []).getD k 0/\((facesM C).getD j []).getD k 0<=4*C.length):=hfr
 clear hm hD hfr
 obtain⟨w0,hw0⟩:∃ w0,w0=w.alloc (.cells #[.slice a C.length cap,.int .i64 loops] 24):=⟨_,rfl⟩
 have HW0:Hid (w0=w.alloc (.cells #[.slice a C.length cap,.int .i64 loops] 24)):=hw0
 have hs0:w0.heap.size=w.heap.size+1:=by rw[hw0];simp
 have HB0:Hid (Below w.heap.size w w0):=(by rw[hw0];exact(Below.refl _ _).alloc (Nat.le_refl _) _:Below w.heap.size w w0)
 have HT0:Hid (w0.heap[w.heap.size]?=some (.cells #[.slice a C.length cap,.int .i64 loops] 24 (0,0))):=(by rw[hw0];exact alloc_at rfl:w0.heap[w.heap.size]?=some (.cells #[.slice a C.length cap,.int .i64 loops] 24 (0,0)))
 have HD0:Hid (Crs w0 w0.heap.size (.slice a C.length cap) C):=HD.out.up HB0.out
 clear hw0
 go_enter Try.func32,Try.ntmps32
 go_wp2_with (go_at_call 62;rw[<-HW0.out];refine(piecesOf_any a cap C loops _ HM.out HD0.out).mono ?_;rintro e9 w1 ⟨vw,W,rfl,hrow,hle,hb1⟩;refine Hid.out ?_)
 refine Lib.hid ?_
 have HLE:Hid (W=whoM C):=hle.eq (whoM_least HM.out)
 have HWL:Hid (W.length=C.length):=hle.1
 obtain⟨aw,cw,rfl,fw⟩:=slots_of_own hrow
 have HFW:Hid (0<C.length->∃ b off,aw=some ⟨b,off,none⟩/\b<w1.heap.size/\∀ i,i<C.length->w1.cell? ⟨b,off+i,none⟩=some (.int .i64 (W.getD i 0:Nat))):=fun h0=>by
  obtain⟨b,off,e,hlt,hc⟩:=fw (by rw[nats_len,hle.1];exact h0)
  refine⟨b,off,e,hlt,fun i hi=>?_⟩
  rw[hc i (by rw[nats_len,hle.1];exact hi),List.getD_eq_getElem?_getD,nats_get W i (by rw[hle.1];exact hi)]
  rfl
 rw[nats_len,hle.1]
 have HB1:Hid (Below w0.heap.size w0 w1):=hb1
 have hs1:=hb1.size
 have g1:=(hb1.block _ (by omega)).trans HT0.out
 have p0:w1.cell? ⟨w.heap.size,0,none⟩=some (.slice a C.length cap):=block_cell g1 rfl
 have p1:w1.cell? ⟨w.heap.size,1,none⟩=some (.int .i64 loops):=block_cell g1 rfl
 have HD1:Hid (Crs w1 w1.heap.size (.slice a C.length cap) C):=HD0.out.up hb1
 clear hrow hle fw hb1 g1
 go_wp2_with (go_at_call 57;refine(facesOf_any a cap C loops _ HM.out HD1.out).mono ?_;rintro e9 w2 ⟨vf,rfl,hrf,hb2⟩;refine Hid.out ?_)
 refine Lib.hid ?_
 have hrg:=hrf.rings (fun j hj=>(HFR.out j hj).1)
 obtain⟨af,cf,rfl,ff⟩:=hrg
 have HRG:Hid (RingsAt w2 w1.heap.size (.slice af (facesM C).length cf) (facesM C)):=⟨af,cf,rfl,ff⟩
 have HB2:Hid (Below w0.heap.size w0 w2):=HB1.out.trans (hb2.mono hs1)
 have hs2:=hb2.size
 have HFW2:Hid (∀ w',Below w2.heap.size w2 w'->0<C.length->∃ b off,aw=some ⟨b,off,none⟩/\b<w'.heap.size/\∀ i,i<C.length->w'.cell? ⟨b,off+i,none⟩=some (.int .i64 (W.getD i 0:Nat))):=fun w' hb h0=>by
  obtain⟨b,off,e,hlt,hc⟩:=HFW.out h0
  have hbb:=hb2.trans (hb.mono hs2)
  exact⟨b,off,e,Nat.lt_of_lt_of_le hlt hbb.size,fun i hi=>bcell hbb hlt (hc i hi)⟩
 have HT2:Hid (w2.heap[w.heap.size]?=some (.cells #[.slice a C.length cap,.int .i64 loops] 24 (0,0))):=(HB2.out.block _ (by omega)).trans HT0.out
 have HWB:Hid (Below w.heap.size w w2):=HB0.out.trans (HB2.out.mono (by omega))
 clear hrf ff hb2 p0 p1 HB1 HB2 HD1 HD0 HT0 HB0 HFW
 by_cases hz:C.length=0
 · have HPB:Hid (planarB C=true):=((planarB_iff C).2 fun p hp=>by omega:planarB C=true)
   go_wp2
   go_loopw [5] (fun v5 wr=>v5=.int .i64 0/\Below w2.heap.size w2 wr) (fun _ _=>0)
   case atStart=>exact⟨rfl,Below.refl _ _⟩
   case round=>
    obtain⟨rfl,hb⟩:=hrel
    have hzi:(C.length:Int)=0:=by omega
    go_wp2
    go_ret
    exact⟨by rw[HPB.out];rfl,HWB.out.trans (hb.mono HWB.out.size)⟩
 · have hpos:0<C.length:=by omega
   obtain⟨bw,ow,rfl,hbw,hcw⟩:=HFW2.out w2 (Below.refl _ _) hpos
   obtain⟨af',cf',ef,ff⟩:=HRG.out
   injection ef with ef1 ef2 ef3
   obtain⟨bf,of,efa,hbf,-,hcf⟩:=ff (facesM_pos hpos)
   rw[<-ef1]at efa
   subst efa
   have HCW:Hid (∀ w',Below w2.heap.size w2 w'->∀ i,i<C.length->w'.cell? ⟨bw,ow+i,none⟩=some (.int .i64 (W.getD i 0:Nat))):=fun w' hb i hi=>bcell hb hbw (hcw i hi)
   have HCF:Hid (∀ j,j<(facesM C).length->∃ g c,w2.cell? ⟨bf,of+j,none⟩=some (.slice (some ⟨g,0,none⟩) ((facesM C).getD j []).length c)/\g<w2.heap.size/\∀ k,k<((facesM C).getD j []).length->w2.cell? ⟨g,k*2,none⟩=some (.int .i64 (dA (((facesM C).getD j []).getD k 0):Nat))/\w2.cell? ⟨g,k*2+1,none⟩=some (.bool (dB (((facesM C).getD j []).getD k 0)))):=fun j hj=>(let ⟨g,c,h1,h2,_,h3⟩:=hcf j hj;⟨g,c,h1,h2,h3⟩)
   have HEF:Hid (af'=some ⟨bf,of,none⟩):=ef1.symm
   clear ff hcf hcw ef1 ef2 ef3 HRG HFW2 hz
   go_wp2
   go_loopw [5] (fun v5 wr=>∃ p:Nat,p<=C.length/\v5=.int .i64 (p:Nat)/\Hid (∀ q,q<p->W.getD q 0=q->exN C.length (headsM C) W q=2)/\Below w2.heap.size w2 wr) (fun v5 _=>C.length-(intOf v5).toNat)
   case atStart=>exact⟨0,Nat.zero_le _,rfl,(fun q hq=>absurd hq (Nat.not_lt_zero _):∀ q,q<0->W.getD q 0=q->exN C.length (headsM C) W q=2),Below.refl _ _⟩
   case round =>
    rename World=>W1
    obtain⟨p,hpn,rfl,hq,hb⟩:=hrel
    have HB:Hid (Below w2.heap.size w2 W1):=hb
    have hsW:=hb.size
    clear hb
    by_cases hpl:p<C.length
    · have e0 := HCW.out W1 HB.out p hpl
      obtain⟨up,hup⟩:∃ up,W.getD p 0=up:=⟨_,rfl⟩
      rw[hup]at e0
      have HUP:Hid (W.getD p 0=up):=hup
      clear hup
      by_cases hwp:up=p
      · subst hwp
        have hne:((up:Int) != (up:Int))=false:=by simp
        go_wp2
        go_loopw [6,7] (fun v6 v7 wr=>∃ i:Nat,i<=C.length/\v7=.int .i64 (i:Nat)/\v6=.int .i64 (-(cntN W up i:Int))/\Below w2.heap.size w2 wr) (fun _ v7 _=>C.length-(intOf v7).toNat)
        case atStart=>exact⟨0,Nat.zero_le _,rfl,by simp[cntN],HB.out⟩
        case round=>
         rename World=>W3
         obtain⟨i,hin,rfl,rfl,hb⟩:=hrel
         have HB3:Hid (Below w2.heap.size w2 W3):=hb
         have hs3:=hb.size
         clear hb
         have hcl:=cntN_le W up i
         by_cases hil:i<C.length
         · have e1:=HCW.out W3 HB3.out i hil
           have hc:=cntN_next W up i
           obtain⟨u,hu⟩:∃ u,W.getD i 0=u:=⟨_,rfl⟩
           rw[hu]at e1 hc
           clear hu
           by_cases hwi:u=up
           · rw[hwi]at e1 hc
             rw[if_pos rfl]at hc
             clear hwi
             have HCN:Hid (cntN W up (i+1)=cntN W up i+1):=hc
             clear hc
             go_wp2
             go_roundw
             case rel=>exact⟨i+1,by omega,by go_num,by rw[HCN.out];congr 1;first|omega|(rw[IntWalk.i64_in _ (by omega)];omega),HB3.out⟩
             case measure=>simp only[intOf];omega
           · rw[if_neg hwi]at hc
             have HCN:Hid (cntN W up (i+1)=cntN W up i):=(by omega:cntN W up (i+1)=cntN W up i)
             have hne2:((u:Int)==(up:Int))=false:=by simp only[beq_eq_false_iff_ne];omega
             clear hc
             go_wp2
             go_roundw
             case rel=>exact⟨i+1,by omega,by go_num,by rw[HCN.out],HB3.out⟩
             case measure=>simp only[intOf];omega
         · obtain rfl:i=C.length:=by omega
           have HB3c:Hid (Below w2.heap.size w2 W3):=HB3.out
           have hcn:=cntN_le W up C.length
           obtain⟨bd,od,ea,hbd,hCd⟩:=crs_some HD.out hpos
           have HEA:Hid (a=some ⟨bd,od,none⟩):=ea
           have HCC:Hid (∀ w',Below w2.heap.size w2 w'->CrossAt w' bd od C/\bd<w'.heap.size):=fun w' hb=>by
            have hb':=HWB.out.trans (hb.mono HWB.out.size)
            exact⟨hCd.on hb' hbd,Nat.lt_of_lt_of_le hbd hb'.size⟩
           clear ea hCd hcl hin
           go_wp2
           go_loopw [6,8] (fun v6 v8 wr=>∃ i:Nat,i<=(facesM C).length/\v8=.int .i64 (i:Nat)/\v6=.int .i64 ((cntG (headsM C) W up i:Int)-(cntN W up C.length:Int))/\Below w2.heap.size w2 wr) (fun _ v8 _=>(facesM C).length-(intOf v8).toNat)
           case atStart=>exact⟨0,Nat.zero_le _,rfl,by simp[cntG],HB3c.out⟩
           case round =>
            rename World=>W4
            obtain⟨i,hin,rfl,rfl,hb⟩:=hrel
            have HB4':Hid (Below w2.heap.size w2 W4):=hb
            have hs4:=hb.size
            clear hb
            have hcg:=cntG_le (headsM C) W up i
            rw[headsM_len]at hcg
            by_cases hil:i<(facesM C).length
            · obtain⟨gj,cj,k0,k1,k2⟩:=HCF.out i hil
              obtain⟨l0,l1,l2⟩:=HFR.out i hil
              have hx12:=l2 0 l0
              have k3:=k2 0 l0
              have hcx:=cntG_next (headsM C) W up i (by rw[headsM_len];exact hil)
              rw[headsM_at C i hil]at hcx
              obtain⟨nF,hnF⟩:∃ nF,((facesM C).getD i []).length=nF:=⟨_,rfl⟩
              obtain⟨x,hx⟩:∃ x,((facesM C).getD i []).getD 0 0=x:=⟨_,rfl⟩
              rw[hnF]at k0 l0
              rw[hx]at k3 hx12 hcx
              obtain⟨d1,d2,d3⟩:=d_may HM.out x hx12.1 hx12.2
              have dle:=dA_le hx12.1 hx12.2
              obtain⟨y,hy⟩:∃ y,dC C x=y:=⟨_,rfl⟩
              obtain⟨ys,hys⟩:∃ ys,dS C x=ys:=⟨_,rfl⟩
              rw[hy]at d1 d2 hcx
              rw[hys]at d1
              obtain⟨u,hu⟩:∃ u,W.getD y 0=u:=⟨_,rfl⟩
              rw[hu]at hcx
              obtain⟨xA,hxA⟩:∃ xA,dA x=xA:=⟨_,rfl⟩
              obtain⟨xB,hxB⟩:∃ xB,dB x=xB:=⟨_,rfl⟩
              rw[hxA,hxB]at d1 k3
              rw[hxA]at dle
              have HE:Hid (∀ V,bd<V.heap.size->CrossAt V bd od C->Calls Try.prog 63 #[.agg #[.slice (some ⟨bd,od,none⟩) C.length cap,.int .i64 loops],.int .i64 xA,.bool xB] V fun e w'=>e=.returned (.agg #[.int .i64 (y:Nat),.int .i64 (ys:Nat)])/\Below V.heap.size V w'):=fun V hV hCV=>by
               have h:=endOf_any bd od cap C loops xA xB V HM.out dle.1 dle.2 hV hCV
               rw[d1]at h
               exact h
              have HF:Hid (∀ w',Below w2.heap.size w2 w'->w'.cell? ⟨w.heap.size,0,none⟩=some (.slice (some ⟨bd,od,none⟩) C.length cap)/\w'.cell? ⟨w.heap.size,1,none⟩=some (.int .i64 loops)/\w'.cell? ⟨bf,of+i,none⟩=some (.slice (some ⟨gj,0,none⟩) nF cj)/\w'.cell? ⟨gj,0,none⟩=some (.int .i64 (xA:Nat))/\w'.cell? ⟨gj,1,none⟩=some (.bool xB)/\w'.cell? ⟨bw,ow+y,none⟩=some (.int .i64 (u:Nat))):=fun w' hb=>by
               have g:=(hb.block _ (by omega)).trans HT2.out
               rw[HEA.out]at g
               have hw:=HCW.out w' hb y d2
               rw[hu]at hw
               exact⟨block_cell g rfl,block_cell g rfl,bcell hb hbf k0,bcell hb k1 k3.1,bcell hb k1 k3.2,hw⟩
              have HD4:Hid (Below w2.heap.size w2 W4.drew):=HB4'.out.drew
              have HCX:Hid (cntG (headsM C) W up (i+1)=cntG (headsM C) W up i+if u=up then 1 else 0):=hcx
              have hfs:=field_spot
              have i0:(0:Int)<=(i:Int):=by omega
              have i1:(i:Int)<((facesM C).length:Int):=by omega
              have i2:(0:Int)<(nF:Int):=by omega
              have i3:(0:Int)<=(y:Int):=by omega
              have i4:(y:Int)<(C.length:Int):=by omega
              clear k0 k1 k2 k3 l1 l2 hcx hnF hx hy hys hu hxA hxB d1 d3 dle hx12
              go_wp2
              obtain⟨t0,t1,t2,t3,t4,t5⟩:=HF.out W4 HB4'.out
              go_region_held3 (fun w' => w'.cell? ⟨w.heap.size, 0, none⟩ = some (.slice (some ⟨bd, od, none⟩) C.length cap) ∧ w'.cell? ⟨w.heap.size, 1, none⟩ = some (.int .i64 loops) ∧ w'.cell? ⟨bf, of + i, none⟩ = some (.slice (some ⟨gj, 0, none⟩) nF cj) ∧ w'.cell? ⟨gj, 0, none⟩ = some (.int .i64 (xA : Nat)) ∧ w'.cell? ⟨gj, 1, none⟩ = some (.bool xB) ∧ w'.cell? ⟨bw, ow + y, none⟩ = some (.int .i64 (u : Nat))) (first | exact HF.out _ HB4.out | exact HF.out _ HD4.out) (first
               | (go_at_call 63; refine (HE.out W4.drew (HCC.out _ HD4.out).2 (HCC.out _ HD4.out).1).mono ?_; rintro e9 w4 ⟨rfl, hb4⟩
                  have HB4:Hid (Below w2.heap.size w2 w4):=HD4.out.trans (hb4.mono HD4.out.size)
                  clear hb4))
              all_goals
               clear t0 t1 t2 t3 t4 t5 hfs
               have hs4':=HB4.out.size
               by_cases hwu:u=up
               · rw[if_pos hwu]at HCX
                 have hde:((u:Int)==(up:Int))=true:=by simp only[beq_iff_eq];omega
                 go_wp2
                 go_roundw
                 case rel=>exact⟨i+1,by omega,by go_num,by rw[HCX.out];congr 1;omega,HB4.out⟩
                 case measure=>simp only[intOf];omega
               · rw[if_neg hwu]at HCX
                 have hde:((u:Int)==(up:Int))=false:=by simp only[beq_eq_false_iff_ne];omega
                 go_wp2
                 go_roundw
                 case rel=>exact⟨i+1,by omega,by go_num,by rw[HCX.out];rfl,HB4.out⟩
                 case measure=>simp only[intOf];omega
            · obtain rfl:i=(facesM C).length:=by omega
              obtain⟨m,hm⟩:∃ m,((cntG (headsM C) W up (facesM C).length:Int) - (cntN W up C.length:Int))=m:=⟨_,rfl⟩
              have HEX:Hid (exN C.length (headsM C) W up=m):=(by rw[ex_cnt,headsM_len];exact hm:exN C.length (headsM C) W up=m)
              rw[hm]
              clear hm
              by_cases hm2:m=2
              · have hde:(m != 2)=false:=by simp[hm2]
                have HM2:Hid (m=2):=hm2
                clear hm2
                go_wp2
                go_roundw
                case rel=>
                 refine⟨up+1,by omega,by go_num,(fun q hq1 e=>?_:∀ q,q<up+1->W.getD q 0=q->exN C.length (headsM C) W q=2),HB4'.out⟩
                 by_cases e2:q=up
                 · rw[e2,HEX.out];exact HM2.out
                 · exact hq.out q (by omega) e
                case measure=>simp only[intOf];omega
              · have hde:(m != 2)=true:=by simp[hm2]
                have HPB:Hid (planarB C=false):=(by
                 cases hb:planarB C with
                 |false=>rfl
                 |true=>
                  have h:=(planarB_iff C).1 hb up (by omega) (by rw[<-HLE.out];exact HUP.out)
                  rw[<-HLE.out,HEX.out]at h
                  exact absurd h hm2:planarB C=false)
                clear hm2
                go_wp2
                go_ret
                exact⟨by rw[HPB.out];rfl,HWB.out.trans (HB4'.out.mono HWB.out.size)⟩
      · have hne:((up:Int) != (p:Int))=true:=by simp only[bne_iff_ne];omega
        have hne2:((up:Int)==(p:Int))=false:=by simp only[beq_eq_false_iff_ne];omega
        go_wp2
        go_roundw
        case rel=>
         refine⟨p+1,by omega,by go_num,(fun q hq1 e=>?_:∀ q,q<p+1->W.getD q 0=q->exN C.length (headsM C) W q=2),HB.out⟩
         by_cases e2:q=p
         · rw[e2,HUP.out]at e;exact absurd e hwp
         · exact hq.out q (by omega) e
        case measure=>simp only[intOf];omega
    · obtain rfl:p=C.length:=by omega
      have HPB:Hid (planarB C=true):=((planarB_iff C).2 fun q hq1 e=>by rw[<-HLE.out]at e ⊢;exact hq.out q hq1 e:planarB C=true)
      go_wp2
      go_ret
      exact⟨by rw[HPB.out];rfl,HWB.out.trans (HB.out.mono HWB.out.size)⟩
end Go.Proofs.Ytagaajlbkfkaiaa
/- Two rows of rings are held against one another. -/
namespace Go.Proofs.Ytagaajlbkfkaiaa
open Go.RowKit
theorem DartsOwn.vs {w:World} {B:Nat} {v:Value} {L:List (List Nat)} (h:DartsOwn w B v L):VsAt w v (L.map dd):=by
 obtain⟨ys,h1,h2,h3⟩:=h
 refine⟨ys,by simp[h1],slots_of_own h2,fun j hj=>?_⟩
 have hj':j<L.length:=by simpa using hj
 have e:(L.map dd).getD j []=dd (L.getD j []):=by simp[List.getD_eq_getElem?_getD,hj']
 rw[e]
 have:=h3 j hj'
 rw[<-dd_len (L.getD j [])]at this
 exact vs_own this
theorem eqDart (a c:Int) (b d:Bool) (w:World):(Op.equalIn 10000 26 (.agg #[.int .i64 a,.bool b]) (.agg #[.int .i64 c,.bool d])).run Try.prog w=.ok (a==c&&b==d) w:=by
 have u3:=Try.underlying3
 have a3:=Try.isAgg3
 have z3:=Try.sizeOf3
 have u4:=Try.underlying4
 have a4:=Try.isAgg4
 have z4:=Try.sizeOf4
 have hS:Try.prog.underlying 26=some (.struct (Try.prog.fieldsOf 26)):=by kernel_rfl
 have hp:Try.prog.stoodInHeld 26=false:=by kernel_rfl
 rw[show(10000:Nat)=9999+1 from rfl,run_equalIn_agg w 9999 26 _ _ hS hp]
 simp only[Program.fieldsOf,Try.underlying26]
 go_simp
 by_cases h1:a=c<;>by_cases h2:b=d<;>simp[h1,h2]
end Go.Proofs.Ytagaajlbkfkaiaa
/- The walk of ref.DiagramOf, with what it owns (J7 without ref.ChangeOf). -/
namespace Go.Proofs.Ytagaajlbkfkaiaa
open Go.RowKit
set_option maxHeartbeats 2000000
set_option maxRecDepth 100000
theorem own_block'' {w:World} {B e s n:Nat} {v:Value} {xs:List Value} (h:w.ownsRow B e s v n xs) (hn:0<n):∃ g c,v=.slice (some ⟨g,0,none⟩) n c:=by
 obtain⟨g,c,h1,-⟩:=own_block h hn
 exact⟨g,c,h1⟩
theorem diagramOf_own (b off cap:Nat) (C:List Cr) (loops:Int) (w:World) (hl:C.length*40<=140737488355328) (hlt:b<w.heap.size) (hC:CrossAt w b off C):
    Calls Try.prog 10 #[.agg #[.slice (some ⟨b,off,none⟩) C.length cap,.int .i64 loops]] w fun e w'=>∃ v',e=.returned (.agg #[v',.int .i64 loops])/\w'.ownsRow w.heap.size 71 5 v' C.length (crossCells C)/\Below w.heap.size w w':=by
 obtain⟨i0,hi,hz0,hz1,hz2⟩:=info_parts infoCross
 have hm:C.length<=maxLen:=by unfold maxLen;omega
 obtain⟨w0,hw0⟩:∃ w0,w0=(w.alloc (.cells #[.slice (some ⟨b,off,none⟩) C.length cap,.int .i64 loops] 24)).alloc (.cells #[.slice none 0 0,.int .i64 0] 24):=⟨_,rfl⟩
 have HW0:Hid (w0=(w.alloc (.cells #[.slice (some ⟨b,off,none⟩) C.length cap,.int .i64 loops] 24)).alloc (.cells #[.slice none 0 0,.int .i64 0] 24)):=hw0
 have hs0:w0.heap.size=w.heap.size+2:=by rw[hw0];simp
 have HB0:Hid (Below w.heap.size w w0):=(by rw[hw0];exact below2 _ _ _:Below w.heap.size w w0)
 clear hw0
 have c0:w0.heap[w.heap.size]?=some (.cells #[.slice (some ⟨b,off,none⟩) C.length cap,.int .i64 loops] 24 (0,0)):=by rw[HW0.out];exact alloc_old (alloc_at rfl)
 have c1:w0.heap[w.heap.size+1]?=some (.cells #[.slice none 0 0,.int .i64 0] 24 (0,0)):=by rw[HW0.out];exact alloc_at (by simp)
 have HC0:Hid (w0.heap[w.heap.size]?=some (.cells #[.slice (some ⟨b,off,none⟩) C.length cap,.int .i64 loops] 24 (0,0))):=c0
 have HC1:Hid (w0.heap[w.heap.size+1]?=some (.cells #[.slice none 0 0,.int .i64 0] 24 (0,0))):=c1
 clear c0 c1
 have HCA:Hid (CrossAt ((w.alloc (.cells #[.slice (some ⟨b,off,none⟩) C.length cap,.int .i64 loops] 24)).alloc (.cells #[.slice none 0 0,.int .i64 0] 24)) b off C):=hC.on (below2 _ _ _) hlt
 clear hC
 go_enter Try.func10,Try.ntmps10
 go_wp2_with (at_builtin;refine wpList_append_own _ rfl _ _ 22 rfl (w.heap.size+2) 71 i0 (.agg #[.int .i64 0,.int .i64 0,.int .i64 0,.int .i64 0,.bool false]) 5 40 Try.underlying22 hi hz0 hz1 hz2 rfl (by decide) _ 0 [] rfl (World.ownsRow_nil _ _ _ _) ⟨b,off,none⟩ C.length cap (crossCells C) rfl (cells_length C) (cells_at HCA.out) (cells_one C) (by unfold maxLen;omega) (by omega) (by simp) ?_;intro v' w1 hown hgr _;refine Hid.out ?_)
 refine Lib.hid ?_
 rw[<-HW0.out]at hgr
 have HGR:Hid (w0.grownBy w1 none):=hgr
 have HOW:Hid (w1.ownsRow (w.heap.size+2) 71 5 v' (0+C.length) ([]++(crossCells C))):=hown
 obtain⟨a',c',rfl⟩:=own_capS hown
 have hs1:=hgr.size
 clear hown hgr
 have hg0:=(HGR.out.block _ (by omega) (by simp)).trans HC0.out
 have hg1:=(HGR.out.block _ (by omega) (by simp)).trans HC1.out
 have p0:w1.cell? ⟨w.heap.size,0,none⟩=some (.slice (some ⟨b,off,none⟩) C.length cap):=block_cell hg0 rfl
 have p1:w1.cell? ⟨w.heap.size,1,none⟩=some (.int .i64 loops):=block_cell hg0 rfl
 have p2:w1.cell? ⟨w.heap.size+1,0,none⟩=some (.slice none 0 0):=block_cell hg1 rfl
 have p3:w1.cell? ⟨w.heap.size+1,1,none⟩=some (.int .i64 0):=block_cell hg1 rfl
 have f0:w1.frozen? ⟨w.heap.size,0,none⟩=false:=block_frozen hg0
 have f2:w1.frozen? ⟨w.heap.size+1,0,none⟩=false:=block_frozen hg1
 have f3:w1.frozen? ⟨w.heap.size+1,1,none⟩=false:=block_frozen hg1
 have HG1:Hid (w1.heap[w.heap.size+1]?=some (.cells #[.slice none 0 0,.int .i64 0] 24 (0,0))):=hg1
 clear hg0 hg1
 go_wp2
 have hq0:=((set_grown w1 w.heap.size 0 (.slice a' C.length c')).block (w.heap.size+1) (by omega) (fun e=>by have:=Option.some.inj e;omega)).trans HG1.out
 have hq:=set_block (i:=1) (u:=.int .i64 loops) (set_block (i:=0) (u:=.slice a' C.length c') hq0)
 have x0:=block_cell (i:=0) (v:=.slice a' C.length c') hq rfl
 have x1:=block_cell (i:=1) (v:=.int .i64 loops) hq rfl
 have hk1:=HOW.out.kept (set_grown w1 w.heap.size 0 (.slice a' C.length c')) (by rcases HOW.out.2 with⟨e,_⟩|⟨g,cp,cu,e,hg,_⟩<;>injection e with e1 e2 e3<;>subst e1<;>first|exact Or.inl rfl|(refine Or.inr (fun e=>?_);have:g=w.heap.size:=Option.some.inj e;omega))
 have hk2:=hk1.kept (st2_grown (w1.setCell ⟨w.heap.size,0,none⟩ (.slice a' C.length c')) (w.heap.size+1) 0 (.slice a' C.length c') (.int .i64 loops)) (by rcases HOW.out.2 with⟨e,_⟩|⟨g,cp,cu,e,hg,_⟩<;>injection e with e1 e2 e3<;>subst e1<;>first|exact Or.inl rfl|(refine Or.inr (fun e=>?_);have:g=w.heap.size+1:=Option.some.inj e;omega))
 refine bodyPost_ret (v:=.agg #[.slice a' C.length c',.int .i64 loops]) (by simp[results,Try.results10,go_sem,x0,x1]) rfl ⟨_,rfl,?_,?_⟩
 · rw[Nat.zero_add,List.nil_append]at hk2
   exact own_low hk2 (by omega)
 · exact((HB0.out.grown HGR.out (by omega) (fun k hk=>by cases hk)).grown (set_grown w1 w.heap.size 0 (.slice a' C.length c')) (by omega) (fun k hk=>by have:=Option.some.inj hk;omega)).grown (st2_grown (w1.setCell ⟨w.heap.size,0,none⟩ (.slice a' C.length c')) (w.heap.size+1) 0 (.slice a' C.length c') (.int .i64 loops)) (by simp;omega) (fun k hk=>by have:=Option.some.inj hk;omega)
theorem diagramOf_ownW (v:Value) (C:List Cr) (loops:Int) (w:World) (hl:C.length*40<=140737488355328) (h:CrsW w w.heap.size v C):
    Calls Try.prog 10 #[.agg #[v,.int .i64 loops]] w fun e w'=>∃ v',e=.returned (.agg #[v',.int .i64 loops])/\w'.ownsRow w.heap.size 71 5 v' C.length (crossCells C)/\Below w.heap.size w w':=by
 obtain⟨i0,hi,hz0,hz1,hz2⟩:=info_parts infoCross
 have hm:C.length<=maxLen:=by unfold maxLen;omega
 obtain⟨w0,hw0⟩:∃ w0,w0=(w.alloc (.cells #[v,.int .i64 loops] 24)).alloc (.cells #[.slice none 0 0,.int .i64 0] 24):=⟨_,rfl⟩
 have HW0:Hid (w0=(w.alloc (.cells #[v,.int .i64 loops] 24)).alloc (.cells #[.slice none 0 0,.int .i64 0] 24)):=hw0
 have hs0:w0.heap.size=w.heap.size+2:=by rw[hw0];simp
 have HB0:Hid (Below w.heap.size w w0):=(by rw[hw0];exact below2 _ _ _:Below w.heap.size w w0)
 clear hw0
 rcases h with⟨rfl,rfl⟩|⟨ad,cap,rfl,rfl⟩|⟨b,off,cap,rfl,hlt,hC⟩
 · go_enter Try.func10,Try.ntmps10
   go_wp2_with (at_builtin;refine wpList_append_own_none rfl _ _ 22 rfl w.heap.size 71 i0 5 Try.underlying22 hi _ 0 [] rfl (World.ownsRow_nil _ _ _ _) rfl ?_)
   exact bodyPost_ret (v:=.agg #[.slice none 0 0,.int .i64 loops]) (by simp[results,Try.results10,go_sem]) rfl ⟨_,rfl,World.ownsRow_nil _ _ _ _,below2 _ _ _⟩
 · have c0:w0.heap[w.heap.size]?=some (.cells #[.slice (some ad) 0 cap,.int .i64 loops] 24 (0,0)):=by rw[HW0.out];exact alloc_old (alloc_at rfl)
   have c1:w0.heap[w.heap.size+1]?=some (.cells #[.slice none 0 0,.int .i64 0] 24 (0,0)):=by rw[HW0.out];exact alloc_at (by simp)
   have HC0:Hid (w0.heap[w.heap.size]?=some (.cells #[.slice (some ad) 0 cap,.int .i64 loops] 24 (0,0))):=c0
   have HC1:Hid (w0.heap[w.heap.size+1]?=some (.cells #[.slice none 0 0,.int .i64 0] 24 (0,0))):=c1
   clear c0 c1
   go_enter Try.func10,Try.ntmps10
   go_wp2_with (at_builtin;refine wpList_append_own _ rfl _ _ 22 rfl (w.heap.size+2) 71 i0 (.agg #[.int .i64 0,.int .i64 0,.int .i64 0,.int .i64 0,.bool false]) 5 40 Try.underlying22 hi hz0 hz1 hz2 rfl (by decide) _ 0 [] rfl (World.ownsRow_nil _ _ _ _) ad 0 cap [] rfl rfl (fun j u h=>by simp at h) (fun u h=>by simp at h) (by decide) (by decide) (by simp) ?_;intro v' w1 hown hgr _;refine Hid.out ?_)
   refine Lib.hid ?_
   rw[<-HW0.out]at hgr
   have HGR:Hid (w0.grownBy w1 none):=hgr
   have HOW:Hid (w1.ownsRow (w.heap.size+2) 71 5 v' (0+0) ([]++[])):=hown
   obtain⟨a',c',rfl⟩:=own_capS hown
   have hs1:=hgr.size
   clear hown hgr
   have hg0:=(HGR.out.block _ (by omega) (by simp)).trans HC0.out
   have hg1:=(HGR.out.block _ (by omega) (by simp)).trans HC1.out
   have p0:w1.cell? ⟨w.heap.size,0,none⟩=some (.slice (some ad) 0 cap):=block_cell hg0 rfl
   have p1:w1.cell? ⟨w.heap.size,1,none⟩=some (.int .i64 loops):=block_cell hg0 rfl
   have p2:w1.cell? ⟨w.heap.size+1,0,none⟩=some (.slice none 0 0):=block_cell hg1 rfl
   have p3:w1.cell? ⟨w.heap.size+1,1,none⟩=some (.int .i64 0):=block_cell hg1 rfl
   have f0:w1.frozen? ⟨w.heap.size,0,none⟩=false:=block_frozen hg0
   have f2:w1.frozen? ⟨w.heap.size+1,0,none⟩=false:=block_frozen hg1
   have f3:w1.frozen? ⟨w.heap.size+1,1,none⟩=false:=block_frozen hg1
   have HG1:Hid (w1.heap[w.heap.size+1]?=some (.cells #[.slice none 0 0,.int .i64 0] 24 (0,0))):=hg1
   clear hg0 hg1
   go_wp2
   have hq0:=((set_grown w1 w.heap.size 0 (.slice a' 0 c')).block (w.heap.size+1) (by omega) (fun e=>by have:=Option.some.inj e;omega)).trans HG1.out
   have hq:=set_block (i:=1) (u:=.int .i64 loops) (set_block (i:=0) (u:=.slice a' 0 c') hq0)
   have x0:=block_cell (i:=0) (v:=.slice a' 0 c') hq rfl
   have x1:=block_cell (i:=1) (v:=.int .i64 loops) hq rfl
   have hk1:=HOW.out.kept (set_grown w1 w.heap.size 0 (.slice a' 0 c')) (by rcases HOW.out.2 with⟨e,_⟩|⟨g,cp,cu,e,hg,_⟩<;>injection e with e1 e2 e3<;>subst e1<;>first|exact Or.inl rfl|(refine Or.inr (fun e=>?_);have:g=w.heap.size:=Option.some.inj e;omega))
   have hk2:=hk1.kept (st2_grown (w1.setCell ⟨w.heap.size,0,none⟩ (.slice a' 0 c')) (w.heap.size+1) 0 (.slice a' 0 c') (.int .i64 loops)) (by rcases HOW.out.2 with⟨e,_⟩|⟨g,cp,cu,e,hg,_⟩<;>injection e with e1 e2 e3<;>subst e1<;>first|exact Or.inl rfl|(refine Or.inr (fun e=>?_);have:g=w.heap.size+1:=Option.some.inj e;omega))
   refine bodyPost_ret (v:=.agg #[.slice a' 0 c',.int .i64 loops]) (by simp[results,Try.results10,go_sem,x0,x1]) rfl ⟨_,rfl,?_,?_⟩
   · rw[Nat.zero_add,List.nil_append]at hk2
     exact own_low hk2 (by omega)
   · exact((HB0.out.grown HGR.out (by omega) (fun k hk=>by cases hk)).grown (set_grown w1 w.heap.size 0 (.slice a' 0 c')) (by omega) (fun k hk=>by have:=Option.some.inj hk;omega)).grown (st2_grown (w1.setCell ⟨w.heap.size,0,none⟩ (.slice a' 0 c')) (w.heap.size+1) 0 (.slice a' 0 c') (.int .i64 loops)) (by simp;omega) (fun k hk=>by have:=Option.some.inj hk;omega)
 · exact diagramOf_own b off cap C loops w hl hlt hC
end Go.Proofs.Ytagaajlbkfkaiaa
/- Plain mathematics: in a planar diagram of one piece a set of arcs that comes to each crossing an even number of times parts two sets of faces. -/
namespace Go.Proofs.Ytagaajlbkfkaiaa
def sides (C:List Cr) (g:Nat->Bool) (a:Nat):Bool:=xor (g (fo C (mkD a true))) (g (fo C (mkD a false)))
end Go.Proofs.Ytagaajlbkfkaiaa
/- Plain mathematics: a planar diagram of one piece: an even set of arcs parts two sets of faces. -/
namespace Go.Proofs.Ytagaajlbkfkaiaa
end Go.Proofs.Ytagaajlbkfkaiaa
/- Plain mathematics: a walk of one strand; how often it comes by, modulo two. -/
namespace Go.Proofs.Ytagaajlbkfkaiaa
theorem comes_over (x:Cr) (s:Nat) (hs:s<4):x.comes ((s+2)%4)=!x.comes s:=by
 have:s=0∨s=1∨s=2∨s=3:=by omega
 unfold Cr.comes
 rcases this with rfl|rfl|rfl|rfl<;>cases x.plus<;>rfl
theorem nx_inj {C:List Cr} {loops:Int} (hm:mayD C loops=true) (a b:Nat) (h1:1<=a) (h2:a<=2*C.length) (h3:1<=b) (h4:b<=2*C.length) (e:nx C a=nx C b):a=b:=by
 obtain⟨-,p2,p3,p4,p5⟩:=to_may hm a h1 h2
 obtain⟨-,q2,q3,q4,q5⟩:=to_may hm b h3 h4
 obtain⟨a1,a2,a3⟩:=nx_may hm a h1 h2
 obtain⟨b1,b2,b3⟩:=nx_may hm b h3 h4
 have ca:=comes_over (C.getD (toC C a) Cr.none) (toS C a) p3
 have cb:=comes_over (C.getD (toC C b) Cr.none) (toS C b) q3
 rw[p5]at ca
 rw[q5]at cb
 have e1:=end_one hm _ a2 a3 _ _ _ p2 (Nat.mod_lt _ (by decide)) a1 ca
 have e2:=end_one hm _ b2 b3 _ _ _ q2 (Nat.mod_lt _ (by decide)) b1 cb
 rw[e]at e1
 rw[e1]at e2
 have hcc:toC C a=toC C b:=by have:=congrArg Prod.fst e2;simp only at this;omega
 have hss:toS C a=toS C b:=by have:=congrArg Prod.snd e2;simp only at this;omega
 rw[hcc,hss]at p4
 omega
end Go.Proofs.Ytagaajlbkfkaiaa
/- Crossings that are taken out, their strands going on: what the reference's rounds and tests come to is what the code's merging comes to. Plain mathematics: no program is named here. -/
namespace Go.Proofs.Ytagaajlbkfkaiaa
theorem com_two (x:Cr) (s:Nat) (hs:s<4) (h:x.comes s=true):x.comes ((s+2)%4)=false:=by
 match s,hs,h with
 |0,_,_=>rfl
 |1,_,h=>simp[Cr.comes]at h ⊢;simp[h]
 |2,_,h=>simp[Cr.comes]at h
 |3,_,h=>simp[Cr.comes]at h ⊢;simp[h]
theorem com_three {x:Cr} (h:x.plus=true):x.comes 3=true:=by simp[Cr.comes,h]
theorem com_one {x:Cr} (h:x.plus=false):x.comes 1=true:=by simp[Cr.comes,h]
theorem nx_goes {C:List Cr} {loops:Int} (hm:mayD C loops=true):Goes C (nx C) where
 closed:=nx_closed hm
 inj:=fun a b a1 a2 b1 b2 e=>nx_inj hm a b a1 a2 b1 b2 e
 out:=fun a a1 a2=>by
  have ha:=nx_may hm a a1 a2
  obtain⟨-,i1,s1,r1,q1⟩:=to_may hm a a1 a2
  have ea:=end_one hm (nx C a) ha.2.1 ha.2.2 false (toC C a) ((toS C a+2)%4) i1 (by omega) ha.1 (com_two _ _ s1 q1)
  unfold enC
  rw[ea]
  rfl
def tkE (C:List Cr) (G:List Nat):List (Nat×Nat):=G.flatMap fun g=>[(((C.getD g Cr.none).arc 0).toNat,((C.getD g Cr.none).arc 2).toNat),(((C.getD g Cr.none).arc 1).toNat,((C.getD g Cr.none).arc 3).toNat)]
theorem mem_tkE {C:List Cr} {G:List Nat} {e:Nat×Nat}:e∈tkE C G↔∃ g,g∈G/\∃ k,k<2/\e=(((C.getD g Cr.none).arc k).toNat,((C.getD g Cr.none).arc (k+2)).toNat):=by
 unfold tkE
 rw[List.mem_flatMap]
 constructor
 · rintro⟨g,hg,he⟩
   rcases List.mem_cons.1 he with h|h
   · exact⟨g,hg,0,by omega,h⟩
   · rcases List.mem_cons.1 h with h|h
     · exact⟨g,hg,1,by omega,h⟩
     · cases h
 · rintro⟨g,hg,k,hk,rfl⟩
   refine⟨g,hg,?_⟩
   match k,hk with
   |0,_=>exact List.mem_cons_self
   |1,_=>exact List.mem_cons_of_mem _ List.mem_cons_self
theorem con_sub {E F:List (Nat×Nat)} (h:∀ e,e∈E->Con F e.1 e.2) {u v:Nat} (c:Con E u v):Con F u v:=fun S hS hu=>
 c S (fun e he=>⟨h e he S hS,(h e he).symm S hS⟩) hu
theorem nx_at {C:List Cr} {loops:Int} (hm:mayD C loops=true) (g s:Nat) (hg:g<C.length) (hs:s<4) (hc:(C.getD g Cr.none).comes s=true):
    1<=((C.getD g Cr.none).arc s).toNat/\((C.getD g Cr.none).arc s).toNat<=2*C.length/\toC C ((C.getD g Cr.none).arc s).toNat=g/\nx C ((C.getD g Cr.none).arc s).toNat=((C.getD g Cr.none).arc ((s+2)%4)).toNat:=by
 obtain⟨t1,t2,t3,t4⟩:=to_side hm g s hg hs hc
 have h:=(nx_may hm _ t1 t2).1
 rw[t3,t4]at h
 refine⟨t1,t2,t3,?_⟩
 omega
theorem con_tk {C:List Cr} {loops:Int} (hm:mayD C loops=true) (G:List Nat) (hG:∀ g,g∈G->g<C.length) (u v:Nat):Con (uTo C (nx C) G (2*C.length)) u v↔Con (tkE C G) u v:=by
 constructor
 · refine con_sub fun e he=>?_
   obtain⟨a,a1,a2,a3,rfl⟩:=mem_uTo.1 he
   obtain⟨-,i1,s1,r1,q1⟩:=to_may hm a a1 a2
   have h:=(nx_may hm a a1 a2).1
   have ea:a=((C.getD (toC C a) Cr.none).arc (toS C a)).toNat:=by omega
   have en:nx C a=((C.getD (toC C a) Cr.none).arc ((toS C a+2)%4)).toNat:=by omega
   show Con (tkE C G) a (nx C a)
   rw[en]
   have key:∀ k,k<2->Con (tkE C G) ((C.getD (toC C a) Cr.none).arc k).toNat ((C.getD (toC C a) Cr.none).arc (k+2)).toNat:=fun k hk=>Con.edge (mem_tkE.2 ⟨_,a3,k,hk,rfl⟩)
   conv=>lhs;rw[ea]
   generalize toS C a=s at s1 q1
   match s,s1,q1 with
   |0,_,_=>exact key 0 (by omega)
   |1,_,_=>exact key 1 (by omega)
   |2,_,q=>simp[Cr.comes]at q
   |3,_,_=>exact(key 1 (by omega)).symm
 · refine con_sub fun e he=>?_
   obtain⟨g,hg,k,hk,rfl⟩:=mem_tkE.1 he
   have hgl:=hG g hg
   have key:∀ s,s<4->(C.getD g Cr.none).comes s=true->Con (uTo C (nx C) G (2*C.length)) ((C.getD g Cr.none).arc s).toNat ((C.getD g Cr.none).arc ((s+2)%4)).toNat:=fun s hs hc=>by
    obtain⟨t1,t2,t3,t4⟩:=nx_at hm g s hgl hs hc
    rw[<-t4]
    exact Con.edge (mem_uTo.2 ⟨_,t1,t2,by rw[t3];exact hg,rfl⟩)
   match k,hk with
   |0,_=>exact key 0 (by omega) rfl
   |1,_=>
    cases hp:(C.getD g Cr.none).plus with
    |true=>exact(key 3 (by omega) (com_three hp)).symm
    |false=>exact key 1 (by omega) (com_one hp)
theorem tk_lt {C:List Cr} {loops:Int} (hm:mayD C loops=true) (G:List Nat) (hG:∀ g,g∈G->g<C.length):∀ e,e∈tkE C G->e.1<2*C.length+1/\e.2<2*C.length+1:=fun e he=>by
 obtain⟨g,hg,k,hk,rfl⟩:=mem_tkE.1 he
 have h1:=en_one hm g k (hG g hg) (by omega)
 have h2:=en_one hm g (k+2) (hG g hg) (by omega)
 exact⟨by have:=h1.2.1;simp only;omega,by have:=h2.2.1;simp only;omega⟩
theorem take_levels {C:List Cr} {loops:Int} (hm:mayD C loops=true) (G:List Nat) (hG:∀ g,g∈G->g<C.length):levR (List.range (2*C.length+1)) (tkE C G) (2*C.length+1)=uniM C (nx C) G:=by
 have h1:=uni_least (G:=G) (nx_goes hm).closed
 have h2:Least (tkE C G) (2*C.length+1) (uniM C (nx C) G):=⟨h1.1,fun v hv=>⟨(con_tk hm G hG _ _).1 (h1.2 v hv).1,fun u hu=>(h1.2 v hv).2 u ((con_tk hm G hG _ _).2 hu)⟩⟩
 exact Least.eq (levR_least (tk_lt hm G hG) _ (Nat.le_refl _)) h2
def thG (C:List Cr) (G:List Nat) (L:List Nat) (i s v:Nat):Bool:=((List.range i).any fun j=>decide (j ∉ G)&&rowB C L j 4 v)||(decide (i ∉ G)&&rowB C L i s v)
theorem thG_row (C:List Cr) (G:List Nat) (L:List Nat) (i v:Nat):thG C G L i 4 v=thG C G L (i+1) 0 v:=by
 unfold thG
 rw[List.range_succ,List.any_append]
 have e:rowB C L (i+1) 0 v=false:=by simp[rowB]
 rw[e]
 simp
theorem thG_skip (C:List Cr) (G:List Nat) (L:List Nat) (i v:Nat) (h:i∈G):thG C G L i 0 v=thG C G L (i+1) 0 v:=by
 rw[<-thG_row]
 unfold thG
 simp[h]
def tgTo (C:List Cr) (G:List Nat) (L:List Nat) (N i s:Nat):List Bool:=(List.range N).map (thG C G L i s)
theorem tgTo_len (C:List Cr) (G:List Nat) (L:List Nat) (N i s:Nat):(tgTo C G L N i s).length=N:=by simp[tgTo]
theorem tgTo_at (C:List Cr) (G:List Nat) (L:List Nat) (N i s v:Nat) (hv:v<N):(tgTo C G L N i s).getD v true=thG C G L i s v:=by simp[tgTo,List.getD_eq_getElem?_getD,hv]
theorem tgTo_zero (C:List Cr) (G:List Nat) (L:List Nat) (N:Nat):List.replicate N false=tgTo C G L N 0 0:=by
 refine List.ext_getElem (by simp[tgTo]) fun j h1 h2=>?_
 simp[tgTo,thG,rowB]
theorem tgTo_row (C:List Cr) (G:List Nat) (L:List Nat) (N i:Nat):tgTo C G L N i 4=tgTo C G L N (i+1) 0:=List.map_congr_left fun v _=>thG_row C G L i v
theorem tgTo_skip (C:List Cr) (G:List Nat) (L:List Nat) (N i:Nat) (h:i∈G):tgTo C G L N i 0=tgTo C G L N (i+1) 0:=List.map_congr_left fun v _=>thG_skip C G L i v h
theorem tgTo_next (C:List Cr) (G:List Nat) (L:List Nat) (N i s q:Nat) (hik:i ∉ G) (hq:L.getD ((C.getD i Cr.none).arc s).toNat 0=q):(tgTo C G L N i s).set q true=tgTo C G L N i (s+1):=by
 refine List.ext_getElem (by simp[tgTo]) fun j h1 h2=>?_
 simp only[List.getElem_set,tgTo,List.getElem_map,List.getElem_range]
 unfold thG
 rw[rowB_next,hq]
 by_cases e:q=j
 · subst e;rw[if_pos rfl];simp[hik]
 · rw[if_neg e];simp[e]
theorem thG_iff (C:List Cr) (G:List Nat) (L:List Nat) (v:Nat):thG C G L C.length 0 v=true↔thP C G L v:=by
 unfold thG thP
 have e:rowB C L C.length 0 v=false:=by simp[rowB]
 rw[e]
 simp only[Bool.and_false,Bool.or_false,List.any_eq_true,List.mem_range,Bool.and_eq_true,decide_eq_true_eq]
 unfold rowB
 simp only[List.any_eq_true,List.mem_range,decide_eq_true_eq]
 constructor
 · rintro⟨i,hi,hk,s,hs,h⟩
   exact⟨i,s,hi,hk,hs,h⟩
 · rintro⟨i,s,hi,hk,hs,h⟩
   exact⟨i,hi,hk,s,hs,h⟩
theorem take_same {C:List Cr} {loops:Int} (hm:mayD C loops=true) {f:Nat->Nat} (hf:Goes C f) (G:List Nat) (L:List Nat) (hL:uniM C f G=L):
    reTo C G (numM L (thG C G L C.length 0)) C.length=reTo C G (numM L (ltB L (stB C G L (2*C.length+1)))) C.length/\cntB (nfB L (thG C G L C.length 0)) (2*C.length+1)=cntB (lfB L (stB C G L (2*C.length+1))) (2*C.length+1):=by
 have hls:=uni_least (G:=G) hf.closed
 rw[hL]at hls
 have hpos:∀ v,1<=v->v<2*C.length+1->1<=L.getD v 0:=fun v h1 h2=>hls.pos (fun e he=>⟨(uTo_lt hf.closed e he).1.1,(uTo_lt hf.closed e he).2.1⟩) h2 h1
 have hst:∀ v,1<=v->(thG C G L C.length 0 v=true↔(L.getD v 0=v/\stB C G L (2*C.length+1) v=true)):=fun v h1=>by
  rw[thG_iff,stB_iff,<-hL]
  exact st_th hm hf G v h1
 have hP:∀ v,1<=v->thG C G L C.length 0 v=ltB L (stB C G L (2*C.length+1)) v:=fun v h1=>by
  rw[Bool.eq_iff_iff,hst v h1]
  unfold ltB
  simp
 have hQ:∀ v,1<=v->nfB L (thG C G L C.length 0) v=lfB L (stB C G L (2*C.length+1)) v:=fun v h1=>by
  unfold nfB lfB
  rw[hP v h1]
  unfold ltB
  generalize stB C G L (2*C.length+1) v=t
  generalize decide (L.getD v 0=v)=d
  cases d<;>cases t<;>rfl
 have hN:∀ a,1<=a->a<2*C.length+1->numM L (thG C G L C.length 0) a=numM L (ltB L (stB C G L (2*C.length+1))) a:=fun a h1 h2=>by
  have h3:=hpos a h1 h2
  unfold numM
  rw[hP _ h3,cntB_eq (fun u u1 _=>hP u u1)]
 refine⟨reTo_eq fun j hj _=>?_,cntB_eq fun u u1 _=>hQ u u1⟩
 have hg:=fun s (hs:s<4)=>en_one hm j s hj hs
 have h0:=hg 0 (by omega)
 have h1:=hg 1 (by omega)
 have h2:=hg 2 (by omega)
 have h3:=hg 3 (by omega)
 have a0:(C.getD j Cr.none).arc 0=(C.getD j Cr.none).a:=rfl
 have a1:(C.getD j Cr.none).arc 1=(C.getD j Cr.none).b:=rfl
 have a2:(C.getD j Cr.none).arc 2=(C.getD j Cr.none).c:=rfl
 have a3:(C.getD j Cr.none).arc 3=(C.getD j Cr.none).d:=rfl
 rw[a0]at h0
 rw[a1]at h1
 rw[a2]at h2
 rw[a3]at h3
 unfold reX
 rw[hN _ h0.1 (by omega),hN _ h1.1 (by omega),hN _ h2.1 (by omega),hN _ h3.1 (by omega)]
end Go.Proofs.Ytagaajlbkfkaiaa
/- The walk of ref.level. -/
namespace Go.Proofs.Ytagaajlbkfkaiaa
open Go.RowKit
set_option maxHeartbeats 4000000
set_option maxRecDepth 100000
theorem level_any (B g n c x y:Nat) (L:List Nat) (w:World) (hx:x<n) (hy:y<n) (hL:w.ownsRow B 3 1 (.slice (some ⟨g,0,none⟩) n c) n (nats L)):
    Calls Try.prog 65 #[.slice (some ⟨g,0,none⟩) n c,.int .i64 x,.int .i64 y] w fun e w'=>e=.returned (.tuple #[])/\w'.ownsRow B 3 1 (.slice (some ⟨g,0,none⟩) n c) n (nats (lev L x y))/\w.grownBy w' (some g):=by
 have HR:=hidB hL
 have hll:L.length=n:=by have h:=hL.1;rw[nats_len]at h;omega
 have e0:w.cell? ⟨g,x,none⟩=some (.int .i64 (L.getD x 0:Nat)):=by
  rw[hL.cellAt x (by omega)];exact nats_get _ x (by omega)
 have e1:w.cell? ⟨g,y,none⟩=some (.int .i64 (L.getD y 0:Nat)):=by
  rw[hL.cellAt y (by omega)];exact nats_get _ y (by omega)
 have hgl:=(hL.lt g rfl).2
 clear hL hll
 go_enter Try.func65,Try.ntmps65
 by_cases hlt:L.getD x 0<L.getD y 0
 · have hdx:decide (((L.getD x 0:Nat):Int)<((L.getD y 0:Nat):Int))=true:=by simp only[decide_eq_true_eq];omega
   have hdx2:decide (L.getD x 0<L.getD y 0)=true:=by simp only[decide_eq_true_eq];omega
   have hst:=HR.out.stored y (.int .i64 (L.getD x 0:Nat))
   rw[nats_set]at hst
   have HLV:=hidB (show lev L x y=L.set y (L.getD x 0) by unfold lev;rw[if_pos hlt])
   have HST:=hidB (show(w.setCell ⟨g,y,none⟩ (.int .i64 (L.getD x 0:Nat))).drew.ownsRow B 3 1 (.slice (some ⟨g,0,none⟩) n c) n (nats (lev L x y))/\w.grownBy (w.setCell ⟨g,y,none⟩ (.int .i64 (L.getD x 0:Nat))).drew (some g) by rw[HLV.out];exact⟨own_any hst.1 (grown_below ((Below.refl _ _).drew) none),⟨hst.2.os,hst.2.tape,hst.2.output,hst.2.size,hst.2.block⟩⟩)
   have z0:w.frozen? ⟨g,y,none⟩=false:=HR.out.frozenAt y
   clear hst
   go_wp2
   go_region_held3 (fun w'=>w'.cell? ⟨g,x,none⟩=some (.int .i64 (L.getD x 0:Nat))/\w'.cell? ⟨g,y,none⟩=some (.int .i64 (L.getD y 0:Nat))) (exact⟨e0,e1⟩) (fail)
   go_wp2
   exact bodyPost_end (v:=.tuple #[]) (by simp[results,Try.results65]) rfl ⟨rfl,HST.out⟩
 · have hdx:decide (((L.getD x 0:Nat):Int)<((L.getD y 0:Nat):Int))=false:=by simp only[decide_eq_false_iff_not];omega
   have hdx2:decide (L.getD x 0<L.getD y 0)=false:=by simp only[decide_eq_false_iff_not];omega
   have hst:=HR.out.stored x (.int .i64 (L.getD y 0:Nat))
   rw[nats_set]at hst
   have HLV:=hidB (show lev L x y=L.set x (L.getD y 0) by unfold lev;rw[if_neg hlt])
   have HST:=hidB (show(w.setCell ⟨g,x,none⟩ (.int .i64 (L.getD y 0:Nat))).drew.ownsRow B 3 1 (.slice (some ⟨g,0,none⟩) n c) n (nats (lev L x y))/\w.grownBy (w.setCell ⟨g,x,none⟩ (.int .i64 (L.getD y 0:Nat))).drew (some g) by rw[HLV.out];exact⟨own_any hst.1 (grown_below ((Below.refl _ _).drew) none),⟨hst.2.os,hst.2.tape,hst.2.output,hst.2.size,hst.2.block⟩⟩)
   have z0:w.frozen? ⟨g,x,none⟩=false:=HR.out.frozenAt x
   clear hst
   go_wp2
   go_region_held3 (fun w'=>w'.cell? ⟨g,x,none⟩=some (.int .i64 (L.getD x 0:Nat))/\w'.cell? ⟨g,y,none⟩=some (.int .i64 (L.getD y 0:Nat))) (exact⟨e0,e1⟩) (fail)
   go_wp2
   exact bodyPost_end (v:=.tuple #[]) (by simp[results,Try.results65]) rfl ⟨rfl,HST.out⟩
end Go.Proofs.Ytagaajlbkfkaiaa
