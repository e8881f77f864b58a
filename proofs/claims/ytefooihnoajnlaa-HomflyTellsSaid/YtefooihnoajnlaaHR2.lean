/- The first crossing that is met below first: the walk of knotworkref.firstBelow. -/
import Derived.Test.YtefooihnoajnlaaHA6P
import Derived.Test.YtefooihnoajnlaaW5P
import Derived.Test.YtefooihnoajnlaaW6P
import Derived.Test.YtefooihnoajnlaaJ8mP
import Derived.Test.YtefooihnoajnlaaTkh
import Derived.Deep.Cut
namespace Go.Proofs.Ytefooihnoajnlaa
open Go.RowKit
set_option maxHeartbeats 8000000
set_option maxRecDepth 100000
theorem hidHR {P:Prop} (h:P):Hid P:=h
def FbOk (C:List Cr) (l:List Nat):Prop:=(fbW C (fun _=>0) l).1=none/\∀ j,((fbW C (fun _=>0) l).2 j=0↔j ∉ l.map (toC C))
theorem fbOk_nil (C:List Cr):FbOk C []:=⟨rfl,fun j=>⟨fun _ h=>(by cases h),fun _=>rfl⟩⟩
theorem fb_snoc (C:List Cr) {l:List Nat} (h:FbOk C l) (x:Nat) (r:List Nat):fbW C (fun _=>0) (l++x::r)=fbW C (fbW C (fun _=>0) l).2 (x::r):=by
 rw[fbW_app,h.1]
theorem fbOk_more {C:List Cr} {l:List Nat} (h:FbOk C l) {x:Nat} (hx:toC C x∈l.map (toC C)∨toS C x≠0):FbOk C (l++[x]):=by
 unfold FbOk
 rw[fb_snoc C h x []]
 have e1:fbW C (fbW C (fun _=>0) l).2 [x]=if(fbW C (fun _=>0) l).2 (toC C x)=0 then if toS C x=0 then(some (toC C x),(fbW C (fun _=>0) l).2) else(none,upd (fbW C (fun _=>0) l).2 (toC C x) 1) else(none,(fbW C (fun _=>0) l).2):=rfl
 rw[e1]
 have hm:∀ j,j∈(l++[x]).map (toC C)↔j∈l.map (toC C)∨j=toC C x:=fun j=>by rw[List.map_append,List.mem_append];simp
 by_cases q:(fbW C (fun _=>0) l).2 (toC C x)=0
 · have hn:=(h.2 _).1 q
   rcases hx with hx|hx
   · exact absurd hx hn
   · rw[if_pos q,if_neg hx]
     refine⟨rfl,fun j=>?_⟩
     rw[hm]
     show upd _ _ _ j=0↔_
     by_cases e:j=toC C x
     · subst e
       rw[upd_same]
       simp
     · rw[upd_other _ _ e,h.2 j]
       simp[e]
 · rw[if_neg q]
   refine⟨rfl,fun j=>?_⟩
   rw[hm,h.2 j]
   have hin:toC C x∈l.map (toC C):=Classical.byContradiction fun z=>q ((h.2 _).2 z)
   constructor
   · intro h1 h2
     rcases h2 with h2|h2
     · exact h1 h2
     · exact h1 (h2▸hin)
   · intro h1 h2
     exact h1 (Or.inl h2)
theorem fb_here {C:List Cr} {l:List Nat} (h:FbOk C l) {x:Nat} (hx:toC C x ∉ l.map (toC C)) (h0:toS C x=0) (r:List Nat):(fbW C (fun _=>0) (l++x::r)).1=some (toC C x):=by
 rw[fb_snoc C h x r]
 show(if(fbW C (fun _=>0) l).2 (toC C x)=0 then if toS C x=0 then(some (toC C x),(fbW C (fun _=>0) l).2) else fbW C (upd (fbW C (fun _=>0) l).2 (toC C x) 1) r else fbW C (fbW C (fun _=>0) l).2 r).1=_
 rw[if_pos ((h.2 _).2 hx),if_pos h0]
theorem flat_cut (L:List (List Nat)) (i:Nat) (hi:i<L.length):L.flatten=(L.take i).flatten++(L.getD i []++(L.drop (i+1)).flatten):=by
 have e:L=L.take i++L.getD i []::L.drop (i+1):=by
  rw[List.getD_eq_getElem?_getD,List.getElem?_eq_getElem hi]
  exact(List.take_append_drop i L).symm.trans (by rw[List.drop_eq_getElem_cons hi];rfl)
 rw[<-List.flatten_cons,<-List.flatten_append,<-e]
theorem take_one (l:List Nat) (k:Nat) (hk:k<l.length):l.take (k+1)=l.take k++[l.getD k 0]:=by
 rw[List.take_add_one,List.getD_eq_getElem?_getD,List.getElem?_eq_getElem hk]
 rfl
theorem flat_takeH (L:List (List Nat)) (i:Nat) (hi:i<L.length):(L.take (i+1)).flatten=(L.take i).flatten++L.getD i []:=by
 have:L.take (i+1)=L.take i++[L.getD i []]:=by
  rw[List.take_add_one,List.getD_eq_getElem?_getD,List.getElem?_eq_getElem hi]
  rfl
 rw[this,List.flatten_append]
 simp
theorem list_cut (l:List Nat) (k:Nat) (hk:k<l.length):l=l.take k++l.getD k 0::l.drop (k+1):=by
 rw[List.getD_eq_getElem?_getD,List.getElem?_eq_getElem hk]
 exact(List.take_append_drop k l).symm.trans (by rw[List.drop_eq_getElem_cons hk];rfl)
theorem new_nat (W:World) (x:Value):∀ j u,[x][j]?=some u->(W.alloc (.cells #[x] 3)).cell? ((⟨W.heap.size,0,none⟩:Addr).add j)=some u:=by
 intro j u hj
 rw[Addr.add_lit,Nat.zero_add]
 have hh:(W.alloc (.cells #[x] 3)).heap[W.heap.size]?=some (.cells #[x] 3 (0,0)):=alloc_at rfl
 match j,hj with
 |0,hj=>simp at hj;subst hj;exact block_cell hh rfl
theorem own_nn {w:World} {B e s n:Nat} {v:Value} {xs:List Value} (_h:w.ownsRow B e s v n xs):v.ownBlock=none∨v.ownBlock≠none:=by
 cases v.ownBlock<;>simp
def fbV (C:List Cr):Int:=match fbC C with|some k=>(k:Nat)|none => -1
theorem firstBelow_any {lm : Int} (a : Option Addr) (cap : Nat) (C : List Cr) (loops : Int) (w : World) (hm : mayD C lm = true) (hD : Crs w w.heap.size (.slice a C.length cap) C) :
    Calls Try.prog 17 #[.agg #[.slice a C.length cap,.int .i64 loops]] w fun e w'=>e=.returned (.int .i64 (fbV C))/\Below w.heap.size w w':=by
 obtain⟨s1,-,-,-⟩:=sizeB_iff (may_size hm)
 obtain⟨i0,hi,hz0,hz1,hz2⟩:=info_parts infoInt
 have HM:Hid (mayD C lm=true):=hm
 have HD:Hid (Crs w w.heap.size (.slice a C.length cap) C):=hD
 obtain⟨hlw,hfw⟩:=walksM_facts hm
 have HFW:Hid (∀ j,j<(walksM C).length->0<((walksM C).getD j []).length/\((walksM C).getD j []).length<=2*C.length+1/\∀ i,i<((walksM C).getD j []).length->1<=((walksM C).getD j []).getD i 0/\((walksM C).getD j []).getD i 0<=2*C.length):=hfw
 have HFB:=hidHR (fb_walks hm)
 clear hm hD hfw
 obtain⟨w0,hw0⟩:∃ w0,w0=w.alloc (.cells #[.slice a C.length cap,.int .i64 loops] 24):=⟨_,rfl⟩
 have HW0:Hid (w0=w.alloc (.cells #[.slice a C.length cap,.int .i64 loops] 24)):=hw0
 have hs0:w0.heap.size=w.heap.size+1:=by rw[hw0];simp
 have HB0:Hid (Below w.heap.size w w0):=(by rw[hw0];exact(Below.refl _ _).alloc (Nat.le_refl _) _:Below w.heap.size w w0)
 have HT0:Hid (w0.heap[w.heap.size]?=some (.cells #[.slice a C.length cap,.int .i64 loops] 24 (0,0))):=(by rw[hw0];exact alloc_at rfl:w0.heap[w.heap.size]?=some (.cells #[.slice a C.length cap,.int .i64 loops] 24 (0,0)))
 have HD0:Hid (Crs w0 w0.heap.size (.slice a C.length cap) C):=HD.out.up HB0.out
 obtain⟨res,hres⟩:∃ res,fbV C=res:=⟨_,rfl⟩
 have HRES:=hidHR hres
 rw[hres]
 clear hres
 go_enter Try.func17,Try.ntmps17
 go_wp2_with (go_at_call 18;rw[<-HW0.out];refine(strandsOf_any a cap C loops _ HM.out HD0.out).mono ?_;rintro e9 w2 ⟨r,rfl,hr,hb2⟩;refine Hid.out ?_)
 refine Lib.hid ?_
 clear hw0
 have HWK:Hid (WksAt w2 r (walksM C)):=hr.wks
 have HB2:Hid (Below w.heap.size w w2):=HB0.out.trans (hb2.mono HB0.out.size)
 have HT2:Hid (w2.heap[w.heap.size]?=some (.cells #[.slice a C.length cap,.int .i64 loops] 24 (0,0))):=(hb2.block _ (by omega)).trans HT0.out
 have HD2:Hid (Crs w2 w2.heap.size (.slice a C.length cap) C):=HD.out.up HB2.out
 have hs2:w.heap.size+1<=w2.heap.size:=by have:=hb2.size;omega
 clear hr hb2 HT0 HB0 HD0 HW0
 obtain⟨ys,hyl,⟨ar,cr,rfl,gr⟩,hwk⟩:=HWK.out
 rw[hyl]at gr ⊢
 have HGR:Hid (0<(walksM C).length->∃ b off,ar=some ⟨b,off,none⟩/\b<w2.heap.size/\∀ i,i<(walksM C).length->w2.cell? ⟨b,off+i,none⟩=some (ys.getD i (.bool false))):=gr
 have HWS:Hid (∀ j,j<(walksM C).length->Slots w2 w2.heap.size (ys.getD j (.bool false)) (nats ((walksM C).getD j []))):=hwk
 clear gr hwk HWK
 obtain⟨L,hL⟩:∃ L,walksM C=L:=⟨_,rfl⟩
 rw[hL]at hyl hlw HFW HGR HWS HFB ⊢
 clear hL
 go_wp2
 go_loopw [4,5,6,7] (fun v4 v5 _ _ wr=>∃ k:Nat,k<=L.length/\v5=.int .i64 k/\wr.ownsRow w2.heap.size 3 1 v4 (L.take k).flatten.length (nats ((L.take k).flatten.map (toC C)))/\(L.take k).flatten.length<=33*k/\Hid (FbOk C (L.take k).flatten)/\Below w2.heap.size w2 wr) (fun _ v5 _ _ _=>L.length-(intOf v5).toNat)
 case atStart=>exact⟨0,Nat.zero_le _,rfl,World.ownsRow_nil _ _ _ _,Nat.le_refl _,fbOk_nil C,Below.refl _ _⟩
 case round=>
  rename World=>W1
  obtain⟨k,hkl,rfl,hown,hln,hfb,hb⟩:=hrel
  have hszW:=hb.size
  by_cases hlt:k<L.length
  · obtain⟨br,orr,rfl,hbr,hcr⟩:=HGR.out (by omega)
    obtain⟨aw,cw,hvw,gw⟩:=HWS.out k hlt
    rw[nats_len]at hvw gw
    have HC0:Hid (w2.cell? ⟨br,orr+k,none⟩=some (.slice aw (L.getD k []).length cw)):=(by rw[<-hvw];exact hcr k hlt:w2.cell? ⟨br,orr+k,none⟩=some (.slice aw (L.getD k []).length cw))
    obtain⟨hp,hlw2,hfx⟩:=HFW.out k hlt
    have HGW:Hid (0<(L.getD k []).length->∃ b off,aw=some ⟨b,off,none⟩/\b<w2.heap.size/\∀ i,i<(L.getD k []).length->w2.cell? ⟨b,off+i,none⟩=some ((nats (L.getD k [])).getD i (.bool false))):=gw
    have HFX:Hid (∀ i,i<(L.getD k []).length->1<=(L.getD k []).getD i 0/\(L.getD k []).getD i 0<=2*C.length):=hfx
    have HFL:=hidHR (flat_cut L k hlt)
    have HFT:=hidHR (flat_takeH L k hlt)
    clear hcr hvw gw hfx
    generalize L.getD k []=wk at HC0 hp hlw2 HGW HFX HFL HFT
    generalize (L.take k).flatten=F at hown hln hfb HFL HFT
    have HFB1:=hidHR hfb.out
    have hbr1:br<W1.heap.size:=by omega
    have hdk:decide ((k:Int)<(L.length:Int))=true:=by simp;omega
    have hdk2:decide (k<L.length)=true:=by simp;omega
    have HOW:=hidHR hown
    have HB1:=hidHR hb
    clear hown hfb hb
    go_wp2
    go_loopw [4,6,7] (fun v4 v6 _ ws=>∃ i:Nat,i<=wk.length/\v6=.int .i64 i/\ws.ownsRow w2.heap.size 3 1 v4 (F.length+i) (nats ((F++wk.take i).map (toC C)))/\Hid (FbOk C (F++wk.take i))/\Below w2.heap.size w2 ws) (fun _ v6 _ _=>wk.length-(intOf v6).toNat)
    case atStart=>
     refine⟨0,Nat.zero_le _,rfl,?_,?_,HB1.out⟩
     · rw[List.take_zero,List.append_nil,Nat.add_zero];exact HOW.out
     · rw[List.take_zero,List.append_nil];exact HFB1.out
    case round=>
     rename World=>W3
     obtain⟨i,hin,rfl,hrow,hfi,hb⟩:=hrel
     have hszY:=hb.size
     obtain⟨a7,c7,rfl⟩:=own_capS hrow
     have c0:=bcell hb hbr HC0.out
     have hbr3:br<W3.heap.size:=by omega
     by_cases hil:i<wk.length
     · obtain⟨bw,ow,rfl,hbw,hcw⟩:=HGW.out hp
       have e0:w2.cell? ⟨bw,ow+i,none⟩=some (.int .i64 (wk.getD i 0:Nat)):=by
        have h:=hcw i hil
        rw[List.getD_eq_getElem?_getD,nats_get wk i hil]at h
        exact h
       obtain⟨hx1,hx2⟩:=HFX.out i hil
       have HTK:=hidHR (take_one wk i hil)
       have HLC:=hidHR (list_cut wk i hil)
       clear hcw
       obtain⟨x,hxe⟩:∃ x,wk.getD i 0=x:=⟨_,rfl⟩
       rw[hxe]at e0 hx1 hx2 HTK HLC
       clear hxe
       obtain⟨b,off,ea,hbq,hC⟩:=crs_some HD2.out (by omega)
       subst ea
       have hlF:(F++wk.take i).length<=2000:=by rw[List.length_append,List.length_take];omega
       obtain⟨Q,hQ⟩:∃ Q,F++wk.take i=Q:=⟨_,rfl⟩
       have HQQ:=hidHR hQ
       rw[hQ]at hrow hfi hlF
       have HRW:=hidHR hrow
       have HFI:=hidHR hfi.out
       have HB3:=hidHR hb
       have HE0:=hidHR e0
       have HTO:Hid (endTo C x true C.length=((toC C x:Int),(toS C x:Int))):=(to_may HM.out x hx1 hx2).1
       have HTL:Hid (toS C x<4):=(to_may HM.out x hx1 hx2).2.2.1
       obtain⟨ci,hci⟩:∃ ci,toC C x=ci:=⟨_,rfl⟩
       obtain⟨cs,hcs⟩:∃ cs,toS C x=cs:=⟨_,rfl⟩
       rw[hci,hcs]at HTO
       have HCI:=hidHR hci
       have HCS:=hidHR hcs
       have HCX:=hidHR hC
       have HS:Hid (∀ W,Below W3.heap.size W3 W->(fun w':World=>w'.cell? ⟨w.heap.size,0,none⟩=some (.slice (some ⟨b,off,none⟩) C.length cap)/\w'.cell? ⟨w.heap.size,1,none⟩=some (.int .i64 loops)/\w'.cell? ⟨br,orr+k,none⟩=some (.slice (some ⟨bw,ow,none⟩) wk.length cw)/\w'.cell? ⟨bw,ow+i,none⟩=some (.int .i64 (x:Nat))) W):=fun w' hw'=>by
        have hB:=HB3.out.trans (hw'.mono HB3.out.size)
        have g0:=(hB.block _ (by omega)).trans HT2.out
        exact⟨block_cell g0 rfl,block_cell g0 rfl,bcell hB hbr HC0.out,bcell hB hbw HE0.out⟩
       have HEO:Hid (∀ W,Below W3.heap.size W3 W->Calls Try.prog 33 #[.agg #[.slice (some ⟨b,off,none⟩) C.length cap,.int .i64 loops],.int .i64 (x:Nat),.bool false] W fun e w'=>e=.returned (.agg #[.int .i64 (ci:Nat),.int .i64 (cs:Nat)])/\Below W.heap.size W w'):=fun W hW=>by
        have hB:=HB3.out.trans (hW.mono HB3.out.size)
        have:=endOf_any b off cap C loops x false W HM.out hx1 hx2 (Nat.lt_of_lt_of_le hbq hB.size) (HCX.out.on hB hbq)
        rw[show(!false)=true from rfl,HTO.out]at this
        exact this
       have HDW:Hid (Below W3.heap.size W3 W3.drew):=(Below.refl _ _).drew
       obtain⟨t0,t1,t2,t3⟩:=HS.out W3 (Below.refl _ _)
       clear e0 hC hci hcs hrow c0 hQ hfi hb
       have hdi:decide ((i:Int)<(wk.length:Int))=true:=by simp;omega
       have hdi2:decide (i<wk.length)=true:=by simp;omega
       go_upto_region 9 with(fail)
       clear t0 t1 t2 t3
       have n0:(0:Int)<=(i:Int):=by omega
       have n1:(i:Int)<(wk.length:Int):=by omega
       have n2:(0:Int)<=(k:Int):=by omega
       have n3:(k:Int)<(L.length:Int):=by omega
       refine rhd HS HDW.out (fun hHeld=>?_)
       refine tq 25 0 (h:=?_)
       refine tq 26 1 (h:=?_)
       refine tq 27 2 (h:=?_)
       refine tq 28 3 (h:=?_)
       refine tq 29 4 (h:=?_)
       refine tq 30 5 (h:=?_)
       refine tq 31 6 (h:=?_)
       refine tq 32 7 (h:=?_)
       simp only[List.setIfInBounds_toArray,List.set_cons_succ,List.set_cons_zero]
       refine rd2 8 9 ?_ ?_
       · intro K0 hK0
         go_simp
         go_wp2_with (go_at_call 33;refine(HEO.out _ HDW.out).mono ?_;rintro e9 w4 ⟨rfl,hb4⟩)
         have HB4:=hidHR (HDW.out.trans hb4)
         clear hb4
         refine hK0.out _ _ (HS.out _ HB4.out) (fun hHeld=>?_)
         clear hK0 K0
         try simp only[Act.put]
         try simp only[List.getElem_toArray]
         try simp only[List.getElem_cons_succ]
         try simp only[List.getElem_cons_zero]
         try simp only[List.setIfInBounds_toArray,List.set_cons_succ,List.set_cons_zero]
         refine rd1 9 ?_
         intro K0 hK0
         go_simp
         have HBA:Hid (Below W3.heap.size W3 (w4.alloc (.cells #[.int .i64 0,.int .i64 0] 82))):=HB4.out.alloc HB4.out.size _
         refine hK0.out _ _ (HS.out _ HBA.out) (fun hHeld=>?_)
         clear hK0 K0
         try simp only[Act.put]
         try simp only[List.getElem_toArray]
         try simp only[List.getElem_cons_succ]
         try simp only[List.getElem_cons_zero]
         try simp only[List.setIfInBounds_toArray,List.set_cons_succ,List.set_cons_zero]
         have HG1:Hid ((w4.alloc (.cells #[.int .i64 0,.int .i64 0] 82)).heap[w4.heap.size]?=some (.cells #[.int .i64 0,.int .i64 0] 82 (0,0))):=alloc_at rfl
         obtain⟨W5,hW5⟩:∃ W5,w4.alloc (.cells #[.int .i64 (ci:Nat),.int .i64 (cs:Nat)] 82)=W5:=⟨_,rfl⟩
         have HW5:=hidHR hW5
         have hl4:=HB4.out.size
         have HE5:Hid (W5.heap[w4.heap.size]?=some (.cells #[.int .i64 (ci:Nat),.int .i64 (cs:Nat)] 82 (0,0))):=(by rw[<-hW5];exact alloc_at rfl:W5.heap[w4.heap.size]?=_)
         have HB5:Hid (Below W3.heap.size W3 W5):=(by rw[<-hW5];exact HB4.out.alloc HB4.out.size _:Below W3.heap.size W3 W5)
         clear hW5
         have x0:=block_cell (i:=0) (v:=.int .i64 0) HG1.out rfl
         have x1:=block_cell (i:=1) (v:=.int .i64 0) HG1.out rfl
         have f0:(w4.alloc (.cells #[.int .i64 0,.int .i64 0] 82)).frozen? ⟨w4.heap.size,0,none⟩=false:=block_frozen HG1.out
         have f1:(w4.alloc (.cells #[.int .i64 0,.int .i64 0] 82)).frozen? ⟨w4.heap.size,1,none⟩=false:=block_frozen HG1.out
         have lP:w4.heap.size<(w4.alloc (.cells #[.int .i64 0,.int .i64 0] 82)).heap.size:=(Array.getElem?_eq_some_iff.1 HG1.out).1
         refine rd1 10 ?_
         intro K0 hK0
         go_simp
         rw[HW5.out]
         refine hK0.out _ _ (HS.out _ HB5.out) (fun _=>?_)
         clear hK0 K0 x0 x1 f0 f1 lP
         try simp only[Act.put]
         try simp only[List.getElem_toArray]
         try simp only[List.getElem_cons_succ]
         try simp only[List.getElem_cons_zero]
         try simp only[List.setIfInBounds_toArray,List.set_cons_succ,List.set_cons_zero]
         refine wpAnyH_done (by kernel_rfl) ?_ _
         clear hHeld
         have g7:=block_cell (i:=0) (v:=.int .i64 (ci:Nat)) HE5.out rfl
         have g8:=block_cell (i:=1) (v:=.int .i64 (cs:Nat)) HE5.out rfl
         have l7:w4.heap.size<W5.heap.size:=(Array.getElem?_eq_some_iff.1 HE5.out).1
         have HR5:=hidHR (HRW.out.kept (grown_below HB5.out none) (own_nn HRW.out))
         have hr5:=slots_of_own (HR5.out)
         have HWT:=hidHR (within_any (.slice a7 (F.length+i) c7) (Q.map (toC C)) (ci:Nat) W5 (by rw[List.length_map];omega) hr5)
         clear hr5
         go_wp2_with (go_at_call 34;refine HWT.out.mono ?_;rintro e9 w6 ⟨rfl,hb6⟩;refine Hid.out ?_)
         refine Lib.hid ?_
         have HB6:=hidHR (HB5.out.trans (hb6.mono HB5.out.size))
         have HE6:=hidHR ((hb6.block _ l7).trans HE5.out)
         have HR6:=hidHR (HR5.out.kept (grown_below hb6 none) (own_nn HR5.out))
         clear hb6 g7 g8 l7 HWT HR5 HE5
         have g7:=block_cell (i:=0) (v:=.int .i64 (ci:Nat)) HE6.out rfl
         have g8:=block_cell (i:=1) (v:=.int .i64 (cs:Nat)) HE6.out rfl
         have l7:w4.heap.size<w6.heap.size:=(Array.getElem?_eq_some_iff.1 HE6.out).1
         obtain⟨wv,hwv⟩:∃ wv,wi (Q.map (toC C)) (ci:Nat)=wv:=⟨_,rfl⟩
         rw[hwv]
         have HWV:=hidHR hwv
         clear hwv
         have HAPP:Hid (toC C x∈Q.map (toC C)∨toS C x≠0->FbOk C (F++wk.take (i+1))):=fun h=>by
          rw[HTK.out,<-List.append_assoc,HQQ.out]
          exact fbOk_more HFI.out h
         have HMAP:Hid ((F++wk.take (i+1)).map (toC C)=Q.map (toC C)++[ci]):=(by rw[HTK.out,<-List.append_assoc,HQQ.out,List.map_append,<-HCI.out];rfl:_=_)
         have hs6:=HB6.out.size
         have hlq:(Q.map (toC C)).length<=2000:=by rw[List.length_map];exact hlF
         have HBB:Hid (Below w2.heap.size w2 w6):=HB3.out.trans (HB6.out.mono HB3.out.size)
         have hs26:=HBB.out.size
         cases wv
         · by_cases h0:cs=0
           · have hd0:((cs:Int)==0)=true:=by rw[beq_iff_eq];omega
             have HANS : Hid (res = (ci : Nat)) := (by
              have hq:fbC C=some ci:=by
               rw[HFB.out,HFL.out,HLC.out,List.append_assoc,<-List.append_assoc,HQQ.out,<-HCI.out]
               refine fb_here HFI.out (fun q=>?_) (by rw[HCS.out];exact h0) _
               rw[HCI.out]at q
               have:=(wi_iff (Q.map (toC C)) ci).2 q
               rw[HWV.out]at this
               cases this
              rw[<-HRES.out]
              unfold fbV
              rw[hq]:res=(ci:Nat))
             clear h0
             go_wp2
             go_ret
             exact⟨by rw[HANS.out];rfl,HB2.out.trans (HBB.out.mono (by omega))⟩
           · have hd0:((cs:Int)==0)=false:=by rw[beq_eq_false_iff_ne];omega
             have HOK:=hidHR (HAPP.out (Or.inr (by rw[HCS.out];exact h0)))
             clear h0
             go_wp2_with (first
              |(at_builtin;refine wpList_append_own _ rfl _ _ 64 rfl w2.heap.size 3 i0 (.int .i64 0) 1 8 Try.underlying64 hi hz0 hz1 hz2 rfl (by decide) _ _ _ rfl (HR6.out.alloc _) ⟨w6.heap.size,0,none⟩ 1 1 [.int .i64 (ci:Nat)] rfl rfl (new_nat _ _) (by simp[Value.oneCell']) (by unfold maxLen;omega) (by omega) (by simp;omega) ?_;intro v8 w8 hown8 hg8 _;go_frame))
             go_roundw
             case rel=>
              refine⟨i+1,by omega,by go_num,?_,HOK.out,(HBB.out.alloc HBB.out.size _).grown hg8 (by simp;omega) (fun q hq=>(HR6.out.lt q hq).1)⟩
              rw[HMAP.out,nats_app,<-Nat.add_assoc]
              exact hown8
             case measure=>simp only[intOf];omega
         · have HOK:=hidHR (HAPP.out (Or.inl (by rw[HCI.out];exact(wi_iff _ _).1 HWV.out)))
           go_wp2_with (first
            |(at_builtin;refine wpList_append_own _ rfl _ _ 64 rfl w2.heap.size 3 i0 (.int .i64 0) 1 8 Try.underlying64 hi hz0 hz1 hz2 rfl (by decide) _ _ _ rfl (HR6.out.alloc _) ⟨w6.heap.size,0,none⟩ 1 1 [.int .i64 (ci:Nat)] rfl rfl (new_nat _ _) (by simp[Value.oneCell']) (by unfold maxLen;omega) (by omega) (by simp;omega) ?_;intro v8 w8 hown8 hg8 _;go_frame))
           go_roundw
           case rel=>
            refine⟨i+1,by omega,by go_num,?_,HOK.out,(HBB.out.alloc HBB.out.size _).grown hg8 (by simp;omega) (fun q hq=>(HR6.out.lt q hq).1)⟩
            rw[HMAP.out,nats_app,<-Nat.add_assoc]
            exact hown8
           case measure=>simp only[intOf];omega
       · intro K0 hK0
         go_simp
         have HBA:Hid (Below W3.heap.size W3 (W3.drew.alloc (.cells #[.int .i64 0,.int .i64 0] 82))):=HDW.out.alloc HDW.out.size _
         refine hK0.out _ _ (HS.out _ HBA.out) (fun hHeld=>?_)
         clear hK0 K0
         try simp only[Act.put]
         try simp only[List.getElem_toArray]
         try simp only[List.getElem_cons_succ]
         try simp only[List.getElem_cons_zero]
         try simp only[List.setIfInBounds_toArray,List.set_cons_succ,List.set_cons_zero]
         have HG0:Hid ((W3.drew.alloc (.cells #[.int .i64 0,.int .i64 0] 82)).heap[W3.heap.size]?=some (.cells #[.int .i64 0,.int .i64 0] 82 (0,0))):=alloc_at rfl
         refine rd1 8 ?_
         intro K0 hK0
         go_simp
         go_wp2_with (go_at_call 33;refine(HEO.out _ HBA.out).mono ?_;rintro e9 w4 ⟨rfl,hb4⟩)
         have HB4:=hidHR (HBA.out.trans (hb4.mono HBA.out.size))
         have HG1:=hidHR ((hb4.block _ (Array.getElem?_eq_some_iff.1 HG0.out).1).trans HG0.out)
         clear hb4
         refine hK0.out _ _ (HS.out _ HB4.out) (fun hHeld=>?_)
         clear hK0 K0
         try simp only[Act.put]
         try simp only[List.getElem_toArray]
         try simp only[List.getElem_cons_succ]
         try simp only[List.getElem_cons_zero]
         try simp only[List.setIfInBounds_toArray,List.set_cons_succ,List.set_cons_zero]
         obtain⟨W5,hW5⟩:∃ W5,(w4.setCell ⟨W3.heap.size,0,none⟩ (.int .i64 (ci:Nat))).setCell ⟨W3.heap.size,1,none⟩ (.int .i64 (cs:Nat))=W5:=⟨_,rfl⟩
         have HW5:=hidHR hW5
         have hl4:=HB4.out.size
         have HE5:Hid (W5.heap[W3.heap.size]?=some (.cells #[.int .i64 (ci:Nat),.int .i64 (cs:Nat)] 82 (0,0))):=(by rw[<-hW5,set_block (set_block HG1.out)];rfl:W5.heap[W3.heap.size]?=_)
         have HB5:Hid (Below W3.heap.size W3 W5):=(by rw[<-hW5];exact HB4.out.grown (grown_trans (set_grown _ _ _ _) (set_grown _ _ _ _)) HB4.out.size (fun q hq=>by have:=Option.some.inj hq;omega):Below W3.heap.size W3 W5)
         clear hW5
         have x0:=block_cell (i:=0) (v:=.int .i64 0) HG1.out rfl
         have x1:=block_cell (i:=1) (v:=.int .i64 0) HG1.out rfl
         have f0:w4.frozen? ⟨W3.heap.size,0,none⟩=false:=block_frozen HG1.out
         have f1:w4.frozen? ⟨W3.heap.size,1,none⟩=false:=block_frozen HG1.out
         have lP:W3.heap.size<w4.heap.size:=(Array.getElem?_eq_some_iff.1 HG1.out).1
         refine rd1 10 ?_
         intro K0 hK0
         go_simp
         rw[HW5.out]
         refine hK0.out _ _ (HS.out _ HB5.out) (fun _=>?_)
         clear hK0 K0 x0 x1 f0 f1 lP
         try simp only[Act.put]
         try simp only[List.getElem_toArray]
         try simp only[List.getElem_cons_succ]
         try simp only[List.getElem_cons_zero]
         try simp only[List.setIfInBounds_toArray,List.set_cons_succ,List.set_cons_zero]
         refine wpAnyH_done (by kernel_rfl) ?_ _
         clear hHeld
         have g7:=block_cell (i:=0) (v:=.int .i64 (ci:Nat)) HE5.out rfl
         have g8:=block_cell (i:=1) (v:=.int .i64 (cs:Nat)) HE5.out rfl
         have l7:W3.heap.size<W5.heap.size:=(Array.getElem?_eq_some_iff.1 HE5.out).1
         have HR5:=hidHR (HRW.out.kept (grown_below HB5.out none) (own_nn HRW.out))
         have hr5:=slots_of_own (HR5.out)
         have HWT:=hidHR (within_any (.slice a7 (F.length+i) c7) (Q.map (toC C)) (ci:Nat) W5 (by rw[List.length_map];omega) hr5)
         clear hr5
         go_wp2_with (go_at_call 34;refine HWT.out.mono ?_;rintro e9 w6 ⟨rfl,hb6⟩;refine Hid.out ?_)
         refine Lib.hid ?_
         have HB6:=hidHR (HB5.out.trans (hb6.mono HB5.out.size))
         have HE6:=hidHR ((hb6.block _ l7).trans HE5.out)
         have HR6:=hidHR (HR5.out.kept (grown_below hb6 none) (own_nn HR5.out))
         clear hb6 g7 g8 l7 HWT HR5 HE5
         have g7:=block_cell (i:=0) (v:=.int .i64 (ci:Nat)) HE6.out rfl
         have g8:=block_cell (i:=1) (v:=.int .i64 (cs:Nat)) HE6.out rfl
         have l7:W3.heap.size<w6.heap.size:=(Array.getElem?_eq_some_iff.1 HE6.out).1
         obtain⟨wv,hwv⟩:∃ wv,wi (Q.map (toC C)) (ci:Nat)=wv:=⟨_,rfl⟩
         rw[hwv]
         have HWV:=hidHR hwv
         clear hwv
         have HAPP:Hid (toC C x∈Q.map (toC C)∨toS C x≠0->FbOk C (F++wk.take (i+1))):=fun h=>by
          rw[HTK.out,<-List.append_assoc,HQQ.out]
          exact fbOk_more HFI.out h
         have HMAP:Hid ((F++wk.take (i+1)).map (toC C)=Q.map (toC C)++[ci]):=(by rw[HTK.out,<-List.append_assoc,HQQ.out,List.map_append,<-HCI.out];rfl:_=_)
         have hs6:=HB6.out.size
         have hlq:(Q.map (toC C)).length<=2000:=by rw[List.length_map];exact hlF
         have HBB:Hid (Below w2.heap.size w2 w6):=HB3.out.trans (HB6.out.mono HB3.out.size)
         have hs26:=HBB.out.size
         cases wv
         · by_cases h0:cs=0
           · have hd0:((cs:Int)==0)=true:=by rw[beq_iff_eq];omega
             have HANS : Hid (res = (ci : Nat)) := (by
              have hq:fbC C=some ci:=by
               rw[HFB.out,HFL.out,HLC.out,List.append_assoc,<-List.append_assoc,HQQ.out,<-HCI.out]
               refine fb_here HFI.out (fun q=>?_) (by rw[HCS.out];exact h0) _
               rw[HCI.out]at q
               have:=(wi_iff (Q.map (toC C)) ci).2 q
               rw[HWV.out]at this
               cases this
              rw[<-HRES.out]
              unfold fbV
              rw[hq]:res=(ci:Nat))
             clear h0
             go_wp2
             go_ret
             exact⟨by rw[HANS.out];rfl,HB2.out.trans (HBB.out.mono (by omega))⟩
           · have hd0:((cs:Int)==0)=false:=by rw[beq_eq_false_iff_ne];omega
             have HOK:=hidHR (HAPP.out (Or.inr (by rw[HCS.out];exact h0)))
             clear h0
             go_wp2_with (first
              |(at_builtin;refine wpList_append_own _ rfl _ _ 64 rfl w2.heap.size 3 i0 (.int .i64 0) 1 8 Try.underlying64 hi hz0 hz1 hz2 rfl (by decide) _ _ _ rfl (HR6.out.alloc _) ⟨w6.heap.size,0,none⟩ 1 1 [.int .i64 (ci:Nat)] rfl rfl (new_nat _ _) (by simp[Value.oneCell']) (by unfold maxLen;omega) (by omega) (by simp;omega) ?_;intro v8 w8 hown8 hg8 _;go_frame))
             go_roundw
             case rel=>
              refine⟨i+1,by omega,by go_num,?_,HOK.out,(HBB.out.alloc HBB.out.size _).grown hg8 (by simp;omega) (fun q hq=>(HR6.out.lt q hq).1)⟩
              rw[HMAP.out,nats_app,<-Nat.add_assoc]
              exact hown8
             case measure=>simp only[intOf];omega
         · have HOK:=hidHR (HAPP.out (Or.inl (by rw[HCI.out];exact(wi_iff _ _).1 HWV.out)))
           go_wp2_with (first
            |(at_builtin;refine wpList_append_own _ rfl _ _ 64 rfl w2.heap.size 3 i0 (.int .i64 0) 1 8 Try.underlying64 hi hz0 hz1 hz2 rfl (by decide) _ _ _ rfl (HR6.out.alloc _) ⟨w6.heap.size,0,none⟩ 1 1 [.int .i64 (ci:Nat)] rfl rfl (new_nat _ _) (by simp[Value.oneCell']) (by unfold maxLen;omega) (by omega) (by simp;omega) ?_;intro v8 w8 hown8 hg8 _;go_frame))
           go_roundw
           case rel=>
            refine⟨i+1,by omega,by go_num,?_,HOK.out,(HBB.out.alloc HBB.out.size _).grown hg8 (by simp;omega) (fun q hq=>(HR6.out.lt q hq).1)⟩
            rw[HMAP.out,nats_app,<-Nat.add_assoc]
            exact hown8
           case measure=>simp only[intOf];omega
     · obtain rfl:i=wk.length:=by omega
       have hdi:decide ((wk.length:Int)<(wk.length:Int))=false:=by simp
       have hdi2:¬ (wk.length:Int)<(wk.length:Int):=by omega
       have HFE:Hid ((L.take (k+1)).flatten=F++wk.take wk.length):=(by rw[HFT.out,List.take_length]:_=_)
       clear c0
       have c0:=bcell hb hbr HC0.out
       go_wp2
       go_roundw
       case rel=>
        refine⟨k+1,by omega,by go_num,?_,?_,?_,hb⟩
        · rw[HFE.out,List.length_append,List.length_take,Nat.min_self];exact hrow
        · rw[HFE.out,List.length_append,List.length_take];omega
        · show FbOk C (L.take (k+1)).flatten
          rw[HFE.out];exact hfi.out
       case measure=>simp only[intOf];omega
  · obtain rfl:k=L.length:=by omega
    have HANS : Hid (res = -1) := (by
     have hq:fbC C=none:=by
      rw[HFB.out]
      have:=hfb.out.1
      rw[List.take_length]at this
      exact this
     rw[<-HRES.out]
     unfold fbV
     rw[hq]:res = -1)
    have hdk2:¬ (L.length:Int)<(L.length:Int):=by omega
    go_wp2
    go_ret
    exact⟨by rw[HANS.out];rfl,HB2.out.trans (hb.mono (by omega))⟩
end Go.Proofs.Ytefooihnoajnlaa
