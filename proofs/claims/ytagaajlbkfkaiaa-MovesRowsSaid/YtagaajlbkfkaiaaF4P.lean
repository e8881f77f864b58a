/- Several texts of the proof, one behind the other. -/
import Derived.Test.YtagaajlbkfkaiaaF2P
import Derived.Test.YtagaajlbkfkaiaaF1P
import Derived.Test.YtagaajlbkfkaiaaW2P
import Derived.Test.YtagaajlbkfkaiaaO0P
/- The walk of ref.PiecesOf. -/
namespace Go.Proofs.Ytagaajlbkfkaiaa
open Go.RowKit
set_option maxHeartbeats 16000000
set_option maxRecDepth 100000
theorem made_zeroN (n:Nat):(madeCells (Value.int .i64 0).cells (n*1)).toList=nats (List.replicate n 0):=by
 have e:(Value.int .i64 0).cells=#[Value.int .i64 0]:=rfl
 rw[e,toList_madeCells_one,Nat.mul_one]
 simp[nats]
theorem nats_set (l:List Nat) (i z:Nat):(nats l).set i (.int .i64 (z:Nat))=nats (l.set i z):=by simp[nats,List.map_set]
theorem field_spot (a b:Int) (w:World):(Instr.field 96 (.agg #[.int .i64 a,.int .i64 b]) 0).run Try.prog w=.ok (.int .i64 a) w:=by
 simp[Instr.field,run_underlying Try.underlying96,go_sem,asAgg]
def labTo (n i:Nat):List Nat:=(List.range n).map fun v=>if v<i then v else 0
theorem labTo_zero (n:Nat):List.replicate n 0=labTo n 0:=by
 refine List.ext_getElem (by simp[labTo]) fun j h1 h2=>?_
 simp[labTo]
theorem labTo_next (n i:Nat):(labTo n i).set i i=labTo n (i+1):=by
 refine List.ext_getElem (by simp[labTo]) fun j h1 h2=>?_
 simp only[List.getElem_set,labTo,List.getElem_map,List.getElem_range]
 split
 · rename_i h;subst h;simp
 · rename_i h
   by_cases h3:j<i
   · rw[if_pos h3,if_pos (by omega)]
   · rw[if_neg h3,if_neg (by omega)]
theorem labTo_all (n:Nat):labTo n n=List.range n:=by
 refine List.ext_getElem (by simp[labTo]) fun j h1 h2=>?_
 simp only[labTo,List.getElem_map,List.getElem_range]
 rw[if_pos (by simpa[labTo] using h1)]
theorem arcE_next (C:List Cr) (i:Nat) (hi:i<2*C.length):(arcE C).take (i+1)=(arcE C).take i++[(enC C (i+1) true,enC C (i+1) false)]:=by
 rw[List.take_add_one]
 congr 1
 simp[arcE,hi]
theorem levs_step (V:List Nat) (C:List Cr) (i:Nat) (hi:i<2*C.length):levs V ((arcE C).take (i+1))=lev (levs V ((arcE C).take i)) (enC C (i+1) true) (enC C (i+1) false):=by
 rw[arcE_next C i hi,levs_app]
 rfl
theorem arcE_all (C:List Cr):(arcE C).take (2*C.length)=arcE C:=List.take_of_length_le (by simp[arcE])
theorem piecesOf_any (a:Option Addr) (cap:Nat) (C:List Cr) (loops:Int) (w:World) (hm:mayD C loops=true) (hD:Crs w w.heap.size (.slice a C.length cap) C):
    Calls Try.prog 62 #[.agg #[.slice a C.length cap,.int .i64 loops]] w fun e w'=>∃ v W,e=.returned v/\w'.ownsRow w.heap.size 3 1 v C.length (nats W)/\Least (arcE C) C.length W/\Below w.heap.size w w':=by
 obtain⟨s1,-,-,-⟩:=sizeB_iff (may_size hm)
 obtain⟨i2,hk,hx0,hx1,hx2⟩:=info_parts infoInt
 have HM:Hid (mayD C loops=true):=hm
 have HD:Hid (Crs w w.heap.size (.slice a C.length cap) C):=hD
 clear hm hD
 obtain⟨w0,hw0⟩:∃ w0,w0=w.alloc (.cells #[.slice a C.length cap,.int .i64 loops] 24):=⟨_,rfl⟩
 have HW0:Hid (w0=w.alloc (.cells #[.slice a C.length cap,.int .i64 loops] 24)):=hw0
 have hs0:w0.heap.size=w.heap.size+1:=by rw[hw0];simp
 have HB0:Hid (Below w.heap.size w w0):=(by rw[hw0];exact(Below.refl _ _).alloc (Nat.le_refl _) _:Below w.heap.size w w0)
 have HT0:Hid (w0.heap[w.heap.size]?=some (.cells #[.slice a C.length cap,.int .i64 loops] 24 (0,0))):=(by rw[hw0];exact alloc_at rfl:w0.heap[w.heap.size]?=some (.cells #[.slice a C.length cap,.int .i64 loops] 24 (0,0)))
 clear hw0
 go_enter Try.func62,Try.ntmps62
 go_wp2_with (first|(at_make;refine wpList_make_full _ rfl _ _ 46 rfl (w.heap.size+1) 3 i2 (.int .i64 0) 1 Try.underlying46 hk hx0 hx1 .i64 .i64 _ _ C.length rfl rfl rfl rfl (by rw[hx2];omega) (by unfold maxLen;omega) (by simp) ?_;intro w1 hrow hg1;refine Hid.out ?_))
 refine Lib.hid ?_
 rw[<-HW0.out]at hrow hg1
 rw[made_zeroN,hs0,labTo_zero]at hrow
 have HP0:Hid (w1.heap[w.heap.size]?=some (.cells #[.slice a C.length cap,.int .i64 loops] 24 (0,0))/\w1.ownsRow (w.heap.size+1) 3 1 (.slice (some ⟨w.heap.size+1,0,none⟩) C.length C.length) C.length (nats (labTo C.length 0))/\Below w.heap.size w w1):=⟨(hg1.block _ (by omega) (by simp)).trans HT0.out,hrow,HB0.out.grown hg1 (by omega) (fun k hk=>by cases hk)⟩
 have q1:IntKind.i64.wrap (2*(C.length:Int))=2*(C.length:Int):=IntWalk.i64_in _ (by omega)
 clear hrow hg1 HT0 HB0 hs0 HW0
 go_wp2
 go_loopw [5] (fun v5 wr=>∃ i:Nat,i<=C.length/\v5=.int .i64 (i:Nat)/\Hid (wr.heap[w.heap.size]?=some (.cells #[.slice a C.length cap,.int .i64 loops] 24 (0,0))/\wr.ownsRow (w.heap.size+1) 3 1 (.slice (some ⟨w.heap.size+1,0,none⟩) C.length C.length) C.length (nats (labTo C.length i))/\Below w.heap.size w wr)) (fun v5 _=>C.length-(intOf v5).toNat)
 case atStart=>exact⟨0,Nat.zero_le _,rfl,HP0.out⟩
 case round=>
  clear HP0
  rename World=>W1
  obtain⟨i,hin,rfl,hp⟩:=hrel
  have hlt:=hp.out.2.1.lt (w.heap.size+1) rfl
  by_cases hil:i<C.length
  · have hst:=hp.out.2.1.stored i (.int .i64 (i:Nat))
    rw[nats_set,labTo_next]at hst
    have HST:Hid ((W1.setCell ⟨w.heap.size+1,i,none⟩ (.int .i64 (i:Nat))).heap[w.heap.size]?=some (.cells #[.slice a C.length cap,.int .i64 loops] 24 (0,0))/\(W1.setCell ⟨w.heap.size+1,i,none⟩ (.int .i64 (i:Nat))).ownsRow (w.heap.size+1) 3 1 (.slice (some ⟨w.heap.size+1,0,none⟩) C.length C.length) C.length (nats (labTo C.length (i+1)))/\Below w.heap.size w (W1.setCell ⟨w.heap.size+1,i,none⟩ (.int .i64 (i:Nat)))):=⟨(hst.2.block _ (by omega) (fun e=>by have:w.heap.size=w.heap.size+1:=Option.some.inj e;omega)).trans hp.out.1,hst.1,hp.out.2.2.grown hst.2 hp.out.2.2.size (fun q hq=>by have:=Option.some.inj hq;omega)⟩
    have e0:W1.cell? ⟨w.heap.size+1,i,none⟩=some (.int .i64 ((labTo C.length i).getD i 0:Nat)):=by
     rw[hp.out.2.1.cellAt i (by omega)];exact nats_get _ i (by simp[labTo];omega)
    have z0:W1.frozen? ⟨w.heap.size+1,i,none⟩=false:=hp.out.2.1.frozenAt i
    clear hst
    go_wp2
    go_roundw
    case rel=>exact⟨i+1,by omega,by go_num,HST.out⟩
    case measure=>simp only[intOf];omega
  · obtain rfl:i=C.length:=by omega
    have HP1:Hid (W1.heap[w.heap.size]?=some (.cells #[.slice a C.length cap,.int .i64 loops] 24 (0,0))/\W1.ownsRow (w.heap.size+1) 3 1 (.slice (some ⟨w.heap.size+1,0,none⟩) C.length C.length) C.length (nats (levR (List.range C.length) (arcE C) 0))/\Below w.heap.size w W1):=(by have h:=hp.out;rw[labTo_all]at h;exact h:(W1.heap[w.heap.size]?=some (.cells #[.slice a C.length cap,.int .i64 loops] 24 (0,0))/\W1.ownsRow (w.heap.size+1) 3 1 (.slice (some ⟨w.heap.size+1,0,none⟩) C.length C.length) C.length (nats (levR (List.range C.length) (arcE C) 0))/\Below w.heap.size w W1))
    have HLN:Hid (∀ r,(levR (List.range C.length) (arcE C) r).length=C.length):=fun r=>(levR_lab (arcE_lt HM.out) ⟨by simp,fun v hv=>by simp[List.getD_eq_getElem?_getD,hv],fun v hv=>by simp[List.getD_eq_getElem?_getD,hv,Con.refl]⟩ r).len
    clear hp
    go_wp2
    go_loopw [6] (fun v6 wr=>∃ r:Nat,r<=C.length/\v6=.int .i64 (r:Nat)/\Hid (wr.heap[w.heap.size]?=some (.cells #[.slice a C.length cap,.int .i64 loops] 24 (0,0))/\wr.ownsRow (w.heap.size+1) 3 1 (.slice (some ⟨w.heap.size+1,0,none⟩) C.length C.length) C.length (nats (levR (List.range C.length) (arcE C) r))/\Below w.heap.size w wr)) (fun v6 _=>C.length-(intOf v6).toNat)
    case atStart=>exact⟨0,Nat.zero_le _,rfl,HP1.out⟩
    case round =>
     clear HP1
     rename World=>W2
     obtain⟨r,hrn,rfl,hp⟩:=hrel
     by_cases hrl:r<C.length
     · have hdr:decide ((r:Int)<(C.length:Int))=true:=by simp;omega
       have hdr2:decide (r<C.length)=true:=by simp;omega
       obtain⟨V,hV⟩:∃ V,levR (List.range C.length) (arcE C) r=V:=⟨_,rfl⟩
       have HV:Hid (levR (List.range C.length) (arcE C) r=V):=hV
       have HVL:Hid (V.length=C.length):=(by rw[<-hV];exact HLN.out r:V.length=C.length)
       have HP2:Hid (W2.heap[w.heap.size]?=some (.cells #[.slice a C.length cap,.int .i64 loops] 24 (0,0))/\W2.ownsRow (w.heap.size+1) 3 1 (.slice (some ⟨w.heap.size+1,0,none⟩) C.length C.length) C.length (nats (levs V ((arcE C).take 0)))/\Below w.heap.size w W2):=(by have h:=hp.out;rw[hV]at h;exact h:(W2.heap[w.heap.size]?=some (.cells #[.slice a C.length cap,.int .i64 loops] 24 (0,0))/\W2.ownsRow (w.heap.size+1) 3 1 (.slice (some ⟨w.heap.size+1,0,none⟩) C.length C.length) C.length (nats (levs V ((arcE C).take 0)))/\Below w.heap.size w W2))
       clear hp hV
       go_wp2
       go_loopw [7] (fun v7 wr=>∃ i j:Nat,i<=2*C.length/\Hid (j=i+1)/\v7=.int .i64 (j:Nat)/\Hid (wr.heap[w.heap.size]?=some (.cells #[.slice a C.length cap,.int .i64 loops] 24 (0,0))/\wr.ownsRow (w.heap.size+1) 3 1 (.slice (some ⟨w.heap.size+1,0,none⟩) C.length C.length) C.length (nats (levs V ((arcE C).take i)))/\Below w.heap.size w wr)) (fun v7 _=>2*C.length+1-(intOf v7).toNat)
       case atStart=>exact⟨0,1,Nat.zero_le _,(rfl:1=0+1),rfl,HP2.out⟩
       case round =>
        clear HP2
        rename World=>W3
        obtain⟨i,j,hin,hji,rfl,hp⟩:=hrel
        by_cases hil:i<2*C.length
        · have hj1:1<=j:=by have:=hji.out;omega
          have hj2:j<=2*C.length:=by have:=hji.out;omega
          have hdj:decide ((j:Int)<=2*(C.length:Int))=true:=by simp;omega
          have hdj2:decide (j<=2*C.length)=true:=by simp;omega
          obtain⟨b,off,ea,hbw,hC⟩:=crs_some HD.out (by omega)
          have HEA:Hid (a=some ⟨b,off,none⟩):=ea
          have HCC:Hid (∀ w',Below W3.heap.size W3 w'->CrossAt w' b off C):=fun w' hb=>(hC.on hp.out.2.2 hbw).on hb (Nat.lt_of_lt_of_le hbw hp.out.2.2.size)
          have hs3:=hp.out.2.2.size
          have hgl:=hp.out.2.1.lt (w.heap.size+1) rfl
          obtain⟨L,hL⟩:∃ L,levs V ((arcE C).take i)=L:=⟨_,rfl⟩
          have HLL:Hid (levs V ((arcE C).take i)=L):=hL
          have HP3:Hid (W3.heap[w.heap.size]?=some (.cells #[.slice a C.length cap,.int .i64 loops] 24 (0,0))/\W3.ownsRow (w.heap.size+1) 3 1 (.slice (some ⟨w.heap.size+1,0,none⟩) C.length C.length) C.length (nats L)/\Below w.heap.size w W3):=(by rw[<-hL];exact hp.out:(W3.heap[w.heap.size]?=some (.cells #[.slice a C.length cap,.int .i64 loops] 24 (0,0))/\W3.ownsRow (w.heap.size+1) 3 1 (.slice (some ⟨w.heap.size+1,0,none⟩) C.length C.length) C.length (nats L)/\Below w.heap.size w W3))
          have HLN2:Hid (L.length=C.length):=(by have h:=HP3.out.2.1.1;rw[nats_len]at h;omega:L.length=C.length)
          obtain⟨x1,x2,x3,-,-⟩:=en_may HM.out j true hj1 hj2
          obtain⟨y1,y2,y3,-,-⟩:=en_may HM.out j false hj1 hj2
          obtain⟨x,hx⟩:∃ x,enC C j true=x:=⟨_,rfl⟩
          obtain⟨y,hy⟩:∃ y,enC C j false=y:=⟨_,rfl⟩
          obtain⟨xs,hxs⟩:∃ xs,enS C j true=xs:=⟨_,rfl⟩
          obtain⟨ys,hys⟩:∃ ys,enS C j false=ys:=⟨_,rfl⟩
          have HE1:Hid (∀ W,b<W.heap.size->CrossAt W b off C->Calls Try.prog 63 #[.agg #[.slice (some ⟨b,off,none⟩) C.length cap,.int .i64 loops],.int .i64 j,.bool false] W fun e w'=>e=.returned (.agg #[.int .i64 (x:Nat),.int .i64 (xs:Nat)])/\Below W.heap.size W w'):=fun W hW hCW=>by
           have h:=endOf_any b off cap C loops j false W HM.out hj1 hj2 hW hCW
           rw[show(!false)=true from rfl,x1,hx,hxs]at h
           exact h
          have HE2:Hid (∀ W,b<W.heap.size->CrossAt W b off C->Calls Try.prog 63 #[.agg #[.slice (some ⟨b,off,none⟩) C.length cap,.int .i64 loops],.int .i64 j,.bool true] W fun e w'=>e=.returned (.agg #[.int .i64 (y:Nat),.int .i64 (ys:Nat)])/\Below W.heap.size W w'):=fun W hW hCW=>by
           have h:=endOf_any b off cap C loops j true W HM.out hj1 hj2 hW hCW
           rw[show(!true)=false from rfl,y1,hy,hys]at h
           exact h
          rw[hx]at x2
          rw[hy]at y2
          have HXX:Hid (enC C j true=x):=hx
          have HYY:Hid (enC C j false=y):=hy
          have HF:Hid (∀ w',Below W3.heap.size W3 w'->w'.cell? ⟨w.heap.size,0,none⟩=some (.slice (some ⟨b,off,none⟩) C.length cap)/\w'.cell? ⟨w.heap.size,1,none⟩=some (.int .i64 loops)):=fun w' hb=>by
           have g:=(hb.block _ (by omega)).trans HP3.out.1
           rw[HEA.out]at g
           exact⟨block_cell g rfl,block_cell g rfl⟩
          have HD3:Hid (Below W3.heap.size W3 W3.drew):=(Below.refl _ _).drew
          have hb3:b<W3.heap.size:=by omega
          have hfs:=field_spot
          clear hC ea hp hL hx hy hxs hys x1 y1 x3 y3
          go_wp2
          obtain⟨t0,t1⟩:=HF.out W3 (Below.refl _ _)
          go_region_held3 (fun w' => w'.cell? ⟨w.heap.size, 0, none⟩ = some (.slice (some ⟨b, off, none⟩) C.length cap) ∧ w'.cell? ⟨w.heap.size, 1, none⟩ = some (.int .i64 loops)) (first | exact HF.out _ H5.out | exact HF.out _ H4.out | exact HF.out _ HD3.out) (first
           | (go_at_call 63; have hAA := H4; clear hAA; refine (HE2.out _ hb4 (HCC.out _ H4.out)).mono ?_; rintro e9 w5 ⟨rfl, hb5⟩
              have H5:Hid (Below W3.heap.size W3 w5):=H4.out.trans (hb5.mono H4.out.size)
              clear hb5)
           | (go_at_call 63; refine (HE1.out W3.drew hb3 (HCC.out _ HD3.out)).mono ?_; rintro e9 w4 ⟨rfl, hb4'⟩
              have H4:Hid (Below W3.heap.size W3 w4):=HD3.out.trans (hb4'.mono HD3.out.size)
              have hb4:b<w4.heap.size:=by have:=H4.out.size;omega
              clear hb4'))
          all_goals
           clear hfs t0 t1
           have hs5:=H5.out.size
           have HR5:Hid (w5.ownsRow (w.heap.size+1) 3 1 (.slice (some ⟨w.heap.size+1,0,none⟩) C.length C.length) C.length (nats L)):=own_any HP3.out.2.1 (grown_below H5.out none)
           have HB5:Hid (Below w.heap.size w w5):=HP3.out.2.2.trans (H5.out.mono hs3)
           have HT5:Hid (w5.heap[w.heap.size]?=some (.cells #[.slice a C.length cap,.int .i64 loops] 24 (0,0))):=(H5.out.block _ (by omega)).trans HP3.out.1
           have e0:w5.cell? ⟨w.heap.size+1,x,none⟩=some (.int .i64 (L.getD x 0:Nat)):=by
            rw[HR5.out.cellAt x (by omega)];exact nats_get _ x (by rw[HLN2.out];exact x2)
           have e1:w5.cell? ⟨w.heap.size+1,y,none⟩=some (.int .i64 (L.getD y 0:Nat)):=by
            rw[HR5.out.cellAt y (by omega)];exact nats_get _ y (by rw[HLN2.out];exact y2)
           have l5:w.heap.size+1<w5.heap.size:=by omega
           by_cases hlt:L.getD x 0<L.getD y 0
           · have hdx:decide (((L.getD x 0:Nat):Int)<((L.getD y 0:Nat):Int))=true:=by simp only[decide_eq_true_eq];omega
             have hdx2:decide (L.getD x 0<L.getD y 0)=true:=by simp only[decide_eq_true_eq];omega
             have hst:=HR5.out.stored y (.int .i64 (L.getD x 0:Nat))
             rw[nats_set]at hst
             have HLV:Hid (levs V ((arcE C).take (i+1))=L.set y (L.getD x 0)):=(by rw[levs_step V C i hil,HLL.out,<-hji.out,HXX.out,HYY.out];unfold lev;rw[if_pos hlt]:levs V ((arcE C).take (i+1))=L.set y (L.getD x 0))
             have HST:Hid ((w5.setCell ⟨w.heap.size+1,y,none⟩ (.int .i64 (L.getD x 0:Nat))).drew.heap[w.heap.size]?=some (.cells #[.slice a C.length cap,.int .i64 loops] 24 (0,0))/\(w5.setCell ⟨w.heap.size+1,y,none⟩ (.int .i64 (L.getD x 0:Nat))).drew.ownsRow (w.heap.size+1) 3 1 (.slice (some ⟨w.heap.size+1,0,none⟩) C.length C.length) C.length (nats (levs V ((arcE C).take (i+1))))/\Below w.heap.size w (w5.setCell ⟨w.heap.size+1,y,none⟩ (.int .i64 (L.getD x 0:Nat))).drew):=(by rw[HLV.out];exact⟨(hst.2.block _ (by omega) (fun e=>by have:w.heap.size=w.heap.size+1:=Option.some.inj e;omega)).trans HT5.out,hst.1,(HB5.out.grown hst.2 HB5.out.size (fun q hq=>by have:=Option.some.inj hq;omega)).drew⟩:((w5.setCell ⟨w.heap.size+1,y,none⟩ (.int .i64 (L.getD x 0:Nat))).drew.heap[w.heap.size]?=some (.cells #[.slice a C.length cap,.int .i64 loops] 24 (0,0))/\(w5.setCell ⟨w.heap.size+1,y,none⟩ (.int .i64 (L.getD x 0:Nat))).drew.ownsRow (w.heap.size+1) 3 1 (.slice (some ⟨w.heap.size+1,0,none⟩) C.length C.length) C.length (nats (levs V ((arcE C).take (i+1))))/\Below w.heap.size w (w5.setCell ⟨w.heap.size+1,y,none⟩ (.int .i64 (L.getD x 0:Nat))).drew))
             have z0:w5.frozen? ⟨w.heap.size+1,y,none⟩=false:=HR5.out.frozenAt y
             clear hst
             go_wp2
             go_region_held3 (fun w'=>w'.cell? ⟨w.heap.size+1,x,none⟩=some (.int .i64 (L.getD x 0:Nat))/\w'.cell? ⟨w.heap.size+1,y,none⟩=some (.int .i64 (L.getD y 0:Nat))) (exact⟨e0,e1⟩) (fail)
             go_wp2
             go_roundw
             case rel=>exact⟨i+1,j+1,by omega,(by have:=hji.out;omega:j+1=i+1+1),by go_num,HST.out⟩
             case measure=>simp only[intOf];omega
           · have hdx:decide (((L.getD x 0:Nat):Int)<((L.getD y 0:Nat):Int))=false:=by simp only[decide_eq_false_iff_not];omega
             have hdx2:decide (L.getD x 0<L.getD y 0)=false:=by simp only[decide_eq_false_iff_not];omega
             have hst:=HR5.out.stored x (.int .i64 (L.getD y 0:Nat))
             rw[nats_set]at hst
             have HLV:Hid (levs V ((arcE C).take (i+1))=L.set x (L.getD y 0)):=(by rw[levs_step V C i hil,HLL.out,<-hji.out,HXX.out,HYY.out];unfold lev;rw[if_neg hlt]:levs V ((arcE C).take (i+1))=L.set x (L.getD y 0))
             have HST:Hid ((w5.setCell ⟨w.heap.size+1,x,none⟩ (.int .i64 (L.getD y 0:Nat))).drew.heap[w.heap.size]?=some (.cells #[.slice a C.length cap,.int .i64 loops] 24 (0,0))/\(w5.setCell ⟨w.heap.size+1,x,none⟩ (.int .i64 (L.getD y 0:Nat))).drew.ownsRow (w.heap.size+1) 3 1 (.slice (some ⟨w.heap.size+1,0,none⟩) C.length C.length) C.length (nats (levs V ((arcE C).take (i+1))))/\Below w.heap.size w (w5.setCell ⟨w.heap.size+1,x,none⟩ (.int .i64 (L.getD y 0:Nat))).drew):=(by rw[HLV.out];exact⟨(hst.2.block _ (by omega) (fun e=>by have:w.heap.size=w.heap.size+1:=Option.some.inj e;omega)).trans HT5.out,hst.1,(HB5.out.grown hst.2 HB5.out.size (fun q hq=>by have:=Option.some.inj hq;omega)).drew⟩:((w5.setCell ⟨w.heap.size+1,x,none⟩ (.int .i64 (L.getD y 0:Nat))).drew.heap[w.heap.size]?=some (.cells #[.slice a C.length cap,.int .i64 loops] 24 (0,0))/\(w5.setCell ⟨w.heap.size+1,x,none⟩ (.int .i64 (L.getD y 0:Nat))).drew.ownsRow (w.heap.size+1) 3 1 (.slice (some ⟨w.heap.size+1,0,none⟩) C.length C.length) C.length (nats (levs V ((arcE C).take (i+1))))/\Below w.heap.size w (w5.setCell ⟨w.heap.size+1,x,none⟩ (.int .i64 (L.getD y 0:Nat))).drew))
             have z0:w5.frozen? ⟨w.heap.size+1,x,none⟩=false:=HR5.out.frozenAt x
             clear hst
             go_wp2
             go_region_held3 (fun w'=>w'.cell? ⟨w.heap.size+1,x,none⟩=some (.int .i64 (L.getD x 0:Nat))/\w'.cell? ⟨w.heap.size+1,y,none⟩=some (.int .i64 (L.getD y 0:Nat))) (exact⟨e0,e1⟩) (fail)
             go_wp2
             go_roundw
             case rel=>exact⟨i+1,j+1,by omega,(by have:=hji.out;omega:j+1=i+1+1),by go_num,HST.out⟩
             case measure=>simp only[intOf];omega
        · obtain rfl:i=2*C.length:=by omega
          obtain rfl:j=2*C.length+1:=hji.out
          go_wp2
          go_roundw
          case rel=>exact⟨r+1,by omega,by go_num,(by have h:=hp.out;rw[arcE_all,<-HV.out]at h;exact h:(W3.heap[w.heap.size]?=some (.cells #[.slice a C.length cap,.int .i64 loops] 24 (0,0))/\W3.ownsRow (w.heap.size+1) 3 1 (.slice (some ⟨w.heap.size+1,0,none⟩) C.length C.length) C.length (nats (levR (List.range C.length) (arcE C) (r+1)))/\Below w.heap.size w W3))⟩
          case measure=>simp only[intOf];omega
     · obtain rfl:r=C.length:=by omega
       go_wp2
       go_ret
       exact⟨_,_,rfl,own_low hp.out.2.1 (by omega),levR_least (arcE_lt HM.out) C.length (Nat.le_refl _),hp.out.2.2⟩
end Go.Proofs.Ytagaajlbkfkaiaa
/- The walk of Drawing.united, with the arc on which the other strand goes on. -/
namespace Go.Proofs.Ytagaajlbkfkaiaa
open Go.RowKit
set_option maxHeartbeats 16000000
set_option maxRecDepth 100000
structure UnAt (w:World) (N:Nat) (box:Array Value) (L:List Nat) (wr:World):Prop where
 box:wr.heap[w.heap.size]?=some (.cells box 61 (0,0))
 row:wr.ownsRow (w.heap.size+1) 3 1 (.slice (some ⟨w.heap.size+1,0,none⟩) N N) N (nats L)
 bel:Below w.heap.size w wr
theorem UnAt.on {w wr w':World} {N:Nat} {box:Array Value} {L:List Nat} (h:UnAt w N box L wr) (hb:Below wr.heap.size wr w'):UnAt w N box L w':=
 ⟨(hb.block _ (Array.getElem?_eq_some_iff.1 h.box).1).trans h.box,own_any h.row (grown_below hb none),h.bel.trans (hb.mono h.bel.size)⟩
theorem UnAt.set {w wr:World} {N:Nat} {box:Array Value} {L M:List Nat} {i z:Nat} (h:UnAt w N box L wr) (e:L.set i z=M):UnAt w N box M (wr.setCell ⟨w.heap.size+1,i,none⟩ (.int .i64 (z:Nat))):=by
 have hst:=h.row.stored i (.int .i64 (z:Nat))
 rw[nats_set,e]at hst
 have hlt:=h.row.lt (w.heap.size+1) rfl
 exact⟨(hst.2.block _ (by omega) (fun e=>by have:w.heap.size=w.heap.size+1:=Option.some.inj e;omega)).trans h.box,hst.1,h.bel.grown hst.2 h.bel.size (fun q hq=>by have:=Option.some.inj hq;omega)⟩
theorem UnAt.at_ {w wr:World} {N:Nat} {box:Array Value} {L:List Nat} (h:UnAt w N box L wr) (hl:L.length=N) (i:Nat) (hi:i<N):wr.cell? ⟨w.heap.size+1,i,none⟩=some (.int .i64 (L.getD i 0:Nat)):=by
 rw[h.row.cellAt i (by omega)];exact nats_get _ i (by omega)
theorem UnAt.fz {w wr:World} {N:Nat} {box:Array Value} {L:List Nat} (h:UnAt w N box L wr) (i:Nat):wr.frozen? ⟨w.heap.size+1,i,none⟩=false:=h.row.frozenAt i
theorem UnAt.lt {w wr:World} {N:Nat} {box:Array Value} {L:List Nat} (h:UnAt w N box L wr):w.heap.size+1<wr.heap.size:=(h.row.lt (w.heap.size+1) rfl).2
def GonAt (w:World) (b:Nat) (G:List Nat):Prop:=b<w.heap.size/\∀ i,i<G.length->w.cell? ⟨b,0+i,none⟩=some (.int .i64 (G.getD i 0:Nat))
theorem GonAt.on {w w':World} {b:Nat} {G:List Nat} (h:GonAt w b G) (hb:Below w.heap.size w w'):GonAt w' b G:=⟨Nat.lt_of_lt_of_le h.1 hb.size,fun i hi=>bcell hb h.1 (h.2 i hi)⟩
theorem mers_uTo (C:List Cr) (f:Nat->Nat) (G:List Nat) (V:List Nat) (a:Nat):mers V (uTo C f G (a+1))=if toC C (a+1)∈G then mer (mers V (uTo C f G a)) (a+1) (f (a+1)) else mers V (uTo C f G a):=by
 rw[uTo,mers_app]
 split<;>rfl
theorem united_ahead (a:Option Addr) (cap:Nat) (C:List Cr) (loops:Int) (gF cF gT cT:Nat) (bG cG:Nat) (G:List Nat) (w:World) (hm:mayD C loops=true) (hD:Dr w a cap C gF gT) (hG1:G.length<=16) (hG:GonAt w bG G):
    Calls Try.prog 132 #[drV a cap C loops gF cF gT cT,.func (.func 97) #[drV a cap C loops gF cF gT cT] #[],.slice (some ⟨bG,0,none⟩) G.length cG] w fun e w'=>∃ g,e=.returned (.slice (some ⟨g,0,none⟩) (2*C.length+1) (2*C.length+1))/\w'.ownsRow w.heap.size 3 1 (.slice (some ⟨g,0,none⟩) (2*C.length+1) (2*C.length+1)) (2*C.length+1) (nats (uniM C (nx C) G))/\Below w.heap.size w w':=by
 obtain⟨s1,-,-,-⟩:=sizeB_iff (may_size hm)
 obtain⟨i2,hk,hx0,hx1,hx2⟩:=info_parts infoInt
 have HM:Hid (mayD C loops=true):=hm
 have HD:Hid (Dr w a cap C gF gT):=hD
 have HG:Hid (GonAt w bG G):=hG
 have hbG:=hG.1
 have HAS:Hid (∀ x W,1<=x->x<=2*C.length->Dr W a cap C gF gT->Calls Try.prog 97 #[drV a cap C loops gF cF gT cT,.int .i64 x] W fun e w'=>e=.returned (.int .i64 (nx C x:Nat))/\Below W.heap.size W w'):=fun x W h1 h2 hW=>ahead_any a cap C loops gF cF gT cT x W HM.out h1 h2 hW
 have HHS:Hid (∀ (x:Nat) W,Calls Try.prog 104 #[drV a cap C loops gF cF gT cT,.int .i64 (x:Nat)] W fun e w'=>e=.returned (.bool (hasB C x))/\Below W.heap.size W w'):=fun x W=>has_any a cap C loops gF cF gT cT x W s1
 unfold drV at HAS HHS ⊢
 obtain⟨N,hN⟩:∃ N,N=2*C.length+1:=⟨_,rfl⟩
 have HN:Hid (N=2*C.length+1):=hN
 have hN1:1<=N:=by omega
 have hN2:N<=33:=by omega
 rw[<-hN]at HAS HHS ⊢
 clear hN hm hD hG
 obtain⟨w0,hw0⟩:∃ w0,w0=w.alloc (.cells #[.slice a C.length cap,.int .i64 loops,.slice (some ⟨gF,0,none⟩) N cF,.slice (some ⟨gT,0,none⟩) N cT] 61):=⟨_,rfl⟩
 have HW0:Hid (w0=w.alloc (.cells #[.slice a C.length cap,.int .i64 loops,.slice (some ⟨gF,0,none⟩) N cF,.slice (some ⟨gT,0,none⟩) N cT] 61)):=hw0
 have hs0:w0.heap.size=w.heap.size+1:=by rw[hw0];simp
 have HB0:Hid (Below w.heap.size w w0):=(by rw[hw0];exact(Below.refl _ _).alloc (Nat.le_refl _) _:Below w.heap.size w w0)
 have HT0:Hid (w0.heap[w.heap.size]?=some (.cells #[.slice a C.length cap,.int .i64 loops,.slice (some ⟨gF,0,none⟩) N cF,.slice (some ⟨gT,0,none⟩) N cT] 61 (0,0))):=(by rw[hw0];exact alloc_at rfl:w0.heap[w.heap.size]?=some (.cells #[.slice a C.length cap,.int .i64 loops,.slice (some ⟨gF,0,none⟩) N cF,.slice (some ⟨gT,0,none⟩) N cT] 61 (0,0)))
 clear hw0
 go_enter Try.func132,Try.ntmps132
 go_wp2_with (first|(at_make;refine wpList_make_full _ rfl _ _ 46 rfl (w.heap.size+1) 3 i2 (.int .i64 0) 1 Try.underlying46 hk hx0 hx1 .i64 .i64 _ _ N rfl rfl rfl rfl (by rw[hx2];omega) (by unfold maxLen;omega) (by simp) ?_;intro w1 hrow hg1;refine Hid.out ?_))
 refine Lib.hid ?_
 rw[<-HW0.out]at hrow hg1
 rw[made_zeroN,hs0,labTo_zero]at hrow
 have HP0:Hid (UnAt w N #[.slice a C.length cap,.int .i64 loops,.slice (some ⟨gF,0,none⟩) N cF,.slice (some ⟨gT,0,none⟩) N cT] (labTo N 0) w1):=⟨(hg1.block _ (by omega) (by simp)).trans HT0.out,hrow,HB0.out.grown hg1 (by omega) (fun k hk=>by cases hk)⟩
 clear hrow hg1 HT0 HB0 hs0 HW0
 go_wp2
 go_loopw [19] (fun v5 wr=>∃ i:Nat,i<=N/\v5=.int .i64 (i:Nat)/\Hid (UnAt w N #[.slice a C.length cap,.int .i64 loops,.slice (some ⟨gF,0,none⟩) N cF,.slice (some ⟨gT,0,none⟩) N cT] (labTo N i) wr)) (fun v5 _=>N-(intOf v5).toNat)
 case atStart=>exact⟨0,Nat.zero_le _,rfl,HP0.out⟩
 case round=>
  clear HP0
  rename World=>W1
  obtain⟨i,hin,rfl,hp⟩:=hrel
  have hlt:=hp.out.lt
  by_cases hil:i<N
  · have HST:Hid (UnAt w N #[.slice a C.length cap,.int .i64 loops,.slice (some ⟨gF,0,none⟩) N cF,.slice (some ⟨gT,0,none⟩) N cT] (labTo N (i+1)) (W1.setCell ⟨w.heap.size+1,i,none⟩ (.int .i64 (i:Nat)))):=hp.out.set (labTo_next N i)
    have e0:=hp.out.at_ (by simp[labTo]) i hil
    have z0:=hp.out.fz i
    generalize (labTo N i).getD i 0=u at e0
    go_wp2
    go_roundw
    case rel=>exact⟨i+1,by omega,by go_num,HST.out⟩
    case measure=>simp only[intOf];omega
  · obtain rfl:N=i:=by omega
    have HP1:Hid (UnAt w N #[.slice a C.length cap,.int .i64 loops,.slice (some ⟨gF,0,none⟩) N cF,.slice (some ⟨gT,0,none⟩) N cT] (mers (List.range N) (uTo C (nx C) G 0)) W1):=(by have h:=hp.out;rw[labTo_all]at h;exact h:UnAt w N #[.slice a C.length cap,.int .i64 loops,.slice (some ⟨gF,0,none⟩) N cF,.slice (some ⟨gT,0,none⟩) N cT] (mers (List.range N) (uTo C (nx C) G 0)) W1)
    have hdn:decide ((N:Int)<(N:Int))=false:=by simp
    have hdn2:decide (N<N)=false:=by simp
    clear hp
    go_wp2
    go_loopw [9] (fun v9 wr=>∃ k:Nat,k<N/\v9=.int .i64 ((k+1:Nat):Int)/\Hid (UnAt w N #[.slice a C.length cap,.int .i64 loops,.slice (some ⟨gF,0,none⟩) N cF,.slice (some ⟨gT,0,none⟩) N cT] (mers (List.range N) (uTo C (nx C) G k)) wr)) (fun v9 _=>N+1-(intOf v9).toNat)
    case atStart=>exact⟨0,by omega,rfl,HP1.out⟩
    case round=>
     clear HP1
     rename World=>W2
     obtain⟨k,hkN,rfl,hp⟩:=hrel
     obtain⟨x,hxk⟩:∃ x,x=k+1:=⟨_,rfl⟩
     have HXK:Hid (x=k+1):=hxk
     rw[<-hxk]
     have hx1':1<=x:=by omega
     have hxN1:x<=N:=by omega
     have HLL:Hid ((mers (List.range N) (uTo C (nx C) G k)).length=N):=(by rw[mers_len];simp:(mers (List.range N) (uTo C (nx C) G k)).length=N)
     have HLV:Hid (mers (List.range N) (uTo C (nx C) G x)=if toC C x∈G then mer (mers (List.range N) (uTo C (nx C) G k)) x (nx C x) else mers (List.range N) (uTo C (nx C) G k)):=(by rw[hxk];exact mers_uTo C (nx C) G _ k:mers (List.range N) (uTo C (nx C) G x)=if toC C x∈G then mer (mers (List.range N) (uTo C (nx C) G k)) x (nx C x) else mers (List.range N) (uTo C (nx C) G k))
     have HDN : Hid (x = N → mers (List.range N) (uTo C (nx C) G k) = uniM C (nx C) G) := (fun e => by unfold uniM; rw [← HN.out]; have : k = 2 * C.length := by have := HN.out; omega
                                                                                                       rw [this] : x = N → mers (List.range N) (uTo C (nx C) G k) = uniM C (nx C) G)
     clear hxk
     obtain⟨L,hL⟩:∃ L,mers (List.range N) (uTo C (nx C) G k)=L:=⟨_,rfl⟩
     rw[hL]at HLL HLV HDN hp
     clear hL hkN
     have HP:Hid (UnAt w N #[.slice a C.length cap,.int .i64 loops,.slice (some ⟨gF,0,none⟩) N cF,.slice (some ⟨gT,0,none⟩) N cT] L W2):=hp.out
     have hs2:=hp.out.bel.size
     have hbx:=hp.out.box
     have t0:W2.cell? ⟨w.heap.size,0,none⟩=some (.slice a C.length cap):=block_cell hbx rfl
     have t1:W2.cell? ⟨w.heap.size,1,none⟩=some (.int .i64 loops):=block_cell hbx rfl
     have t2:W2.cell? ⟨w.heap.size,2,none⟩=some (.slice (some ⟨gF,0,none⟩) N cF):=block_cell hbx rfl
     have t3:W2.cell? ⟨w.heap.size,3,none⟩=some (.slice (some ⟨gT,0,none⟩) N cT):=block_cell hbx rfl
     have lt2:w.heap.size<W2.heap.size:=(Array.getElem?_eq_some_iff.1 hbx).1
     clear hbx hp
     by_cases hxl:x<N
     · have HHB:Hid (hasB C (x:Int)=true):=(by have:=HN.out;simp[hasB];omega:hasB C (x:Int)=true)
       have hx2':x<=2*C.length:=by have:=HN.out;omega
       go_wp2_with (go_at_call 104;refine(HHS.out x _).mono ?_;rw[HHB.out];rintro e9 w3 ⟨rfl,hb3⟩;refine Hid.out ?_)
       refine Lib.hid ?_
       have HP3:Hid (UnAt w N #[.slice a C.length cap,.int .i64 loops,.slice (some ⟨gF,0,none⟩) N cF,.slice (some ⟨gT,0,none⟩) N cT] L w3):=HP.out.on hb3
       have hs3:=HP3.out.bel.size
       have HTO:=(HD.out.on HP3.out.bel).toAt HM.out x hx1' hx2'
       have c3:w3.cell? ⟨w.heap.size,3,none⟩=some (.slice (some ⟨gT,0,none⟩) N cT):=block_cell HP3.out.box rfl
       have c4:=HTO.1
       have HG3:Hid (GonAt w3 bG G):=HG.out.on HP3.out.bel
       have lt3:w.heap.size<w3.heap.size:=(Array.getElem?_eq_some_iff.1 HP3.out.box).1
       have hgT:gT<w3.heap.size:=(HD.out.on HP3.out.bel).ltT
       clear hb3 HTO t0 t1 t2 t3
       by_cases hg:toC C x∈G
       · have HH:Hid (hasG G (toC C x:Nat)=true):=(by rw[hasG_nat];simpa using hg:hasG G (toC C x:Nat)=true)
         rw[if_pos hg]at HLV
         clear hg
         go_wp2_with (go_at_call 133;refine(containsG_any bG 0 cG G _ _ (by omega) HG3.out.1 HG3.out.2).mono ?_;rw[HH.out];rintro e9 w4 ⟨rfl,hb4⟩;refine Hid.out ?_)
         refine Lib.hid ?_
         have HP4:Hid (UnAt w N #[.slice a C.length cap,.int .i64 loops,.slice (some ⟨gF,0,none⟩) N cF,.slice (some ⟨gT,0,none⟩) N cT] L w4):=HP3.out.on hb4
         clear hb4 c3 c4
         have HD4:Hid (∀ W,Below w4.heap.size w4 W->Dr W a cap C gF gT):=fun W hW=>HD.out.on (HP4.out.on hW).bel
         have HD1:Hid (Below w4.heap.size w4 w4.drew):=(Below.refl _ _).drew
         have hsxc:=nx_closed HM.out x hx1' hx2'
         obtain⟨y,hy⟩:∃ y,nx C x=y:=⟨_,rfl⟩
         have HY:Hid (nx C x=y):=hy
         rw[hy]at hsxc HLV
         have hyN:y<N:=by have:=HN.out;omega
         clear hy
         obtain⟨p,hpx⟩:∃ p,L.getD x 0=p:=⟨_,rfl⟩
         obtain⟨q,hqx⟩:∃ q,L.getD y 0=q:=⟨_,rfl⟩
         have HPQ:Hid (L.getD x 0=p/\L.getD y 0=q):=⟨hpx,hqx⟩
         have HQ:Hid (∀ W,Below w4.heap.size w4 W->W.cell? ⟨w.heap.size+1,x,none⟩=some (.int .i64 (p:Nat))/\W.cell? ⟨w.heap.size+1,y,none⟩=some (.int .i64 (q:Nat))):=fun W hW=>by
          have h:=HP4.out.on hW
          exact⟨by rw[h.at_ HLL.out x hxl,HPQ.out.1],by rw[h.at_ HLL.out y hyN,HPQ.out.2]⟩
         clear hpx hqx
         have ix0:(0:Int)<=(x:Int):=by omega
         have ix1:(x:Int)<(N:Int):=by omega
         have iy0:(0:Int)<=(y:Int):=by omega
         have iy1:(y:Int)<(N:Int):=by omega
         go_wp2
         go_region_held3 (fun w'=>w'.cell? ⟨w.heap.size+1,x,none⟩=some (.int .i64 (p:Nat))/\w'.cell? ⟨w.heap.size+1,y,none⟩=some (.int .i64 (q:Nat))) (first|exact HQ.out _ HZ.out|exact HQ.out _ HD1.out|exact HQ.out _ (Below.refl _ _)) (first|(go_at_call 97;refine(HAS.out x _ hx1' hx2' (HD4.out _ HD1.out)).mono ?_;rw[HY.out];rintro e9 w5 ⟨rfl,hb5⟩;have HZ:Hid (Below w4.heap.size w4 w5):=HD1.out.trans (hb5.mono HD1.out.size);clear hb5))
         have HP5:Hid (UnAt w N #[.slice a C.length cap,.int .i64 loops,.slice (some ⟨gF,0,none⟩) N cF,.slice (some ⟨gT,0,none⟩) N cT] (merTo L x y 0) w5):=(by rw[merTo_zero];exact HP4.out.on HZ.out:UnAt w N #[.slice a C.length cap,.int .i64 loops,.slice (some ⟨gF,0,none⟩) N cF,.slice (some ⟨gT,0,none⟩) N cT] (merTo L x y 0) w5)
         obtain⟨lo,hlo⟩:∃ lo,min p q=lo:=⟨_,rfl⟩
         obtain⟨hi,hhi⟩:∃ hi,max p q=hi:=⟨_,rfl⟩
         have E1:(if q<p then(q:Int) else(p:Int))=(lo:Int):=by rw[<-hlo];split<;>omega
         have E2:(if p<q then(q:Int) else(p:Int))=(hi:Int):=by rw[<-hhi];split<;>omega
         have HLH:Hid (min p q=lo/\max p q=hi):=⟨hlo,hhi⟩
         clear hlo hhi
         have HME:Hid (∀ v,v<N->(mer L x y).getD v 0=if L.getD v 0=hi then lo else L.getD v 0):=fun v hv=>by rw[mer_at L x y v (by rw[HLL.out];exact hv),HPQ.out.1,HPQ.out.2,HLH.out.1,HLH.out.2]
         have hdx:decide ((x:Int)<(N:Int))=true:=by simp;omega
         clear HP HP3 HP4 HQ HD4 HD1 HZ HPQ HLH HG3
         go_wp2
         go_loopw [53] (fun v53 wr=>∃ j:Nat,j<=N/\v53=.int .i64 (j:Nat)/\Hid (UnAt w N #[.slice a C.length cap,.int .i64 loops,.slice (some ⟨gF,0,none⟩) N cF,.slice (some ⟨gT,0,none⟩) N cT] (merTo L x y j) wr)) (fun v53 _=>N-(intOf v53).toNat)
         case atStart=>exact⟨0,Nat.zero_le _,rfl,HP5.out⟩
         case round=>
          clear HP5
          rename World=>W3
          obtain⟨j,hjn,rfl,hq⟩:=hrel
          have hg3:=hq.out.lt
          by_cases hjl:j<N
          · have f0:W3.cell? ⟨w.heap.size+1,j,none⟩=some (.int .i64 (L.getD j 0:Nat)):=by
              rw[hq.out.at_ (by rw[merTo_len,HLL.out]) j hjl,merTo_at _ _ _ _ _ (by rw[HLL.out];exact hjl),if_neg (by omega)]
            obtain⟨z,hz⟩:∃ z,L.getD j 0=z:=⟨_,rfl⟩
            have HZ:Hid (L.getD j 0=z):=hz
            rw[hz]at f0
            clear hz
            by_cases hzh:z=hi
            · subst hzh
              have HST:Hid (UnAt w N #[.slice a C.length cap,.int .i64 loops,.slice (some ⟨gF,0,none⟩) N cF,.slice (some ⟨gT,0,none⟩) N cT] (merTo L x y (j+1)) (W3.setCell ⟨w.heap.size+1,j,none⟩ (.int .i64 (lo:Nat)))):=hq.out.set (merTo_next L x y j lo (by rw[HLL.out];exact hjl) (by rw[HME.out j hjl,HZ.out,if_pos rfl]))
              have z0:=hq.out.fz j
              have hzz:((z:Int)==(z:Int))=true:=by simp
              go_wp2
              go_roundw
              case rel=>exact⟨j+1,by omega,by go_num,HST.out⟩
              case measure=>simp only[intOf];omega
            · have hzz:((z:Int)==(hi:Int))=false:=by simp;omega
              have hzz2:(z==hi)=false:=by simp;omega
              have HST:Hid (UnAt w N #[.slice a C.length cap,.int .i64 loops,.slice (some ⟨gF,0,none⟩) N cF,.slice (some ⟨gT,0,none⟩) N cT] (merTo L x y (j+1)) W3):=(by rw[<-merTo_same L x y j (by rw[HLL.out];exact hjl) (by rw[HME.out j hjl,HZ.out,if_neg hzh])];exact hq.out:UnAt w N #[.slice a C.length cap,.int .i64 loops,.slice (some ⟨gF,0,none⟩) N cF,.slice (some ⟨gT,0,none⟩) N cT] (merTo L x y (j+1)) W3)
              go_wp2
              go_roundw
              case rel=>exact⟨j+1,by omega,by go_num,HST.out⟩
              case measure=>simp only[intOf];omega
          · obtain rfl:N=j:=by omega
            have HST:Hid (UnAt w N #[.slice a C.length cap,.int .i64 loops,.slice (some ⟨gF,0,none⟩) N cF,.slice (some ⟨gT,0,none⟩) N cT] (mers (List.range N) (uTo C (nx C) G x)) W3):=(by have h:=hq.out;rw[<-HLL.out,merTo_all,HLL.out]at h;rw[HLV.out];exact h:UnAt w N #[.slice a C.length cap,.int .i64 loops,.slice (some ⟨gF,0,none⟩) N cF,.slice (some ⟨gT,0,none⟩) N cT] (mers (List.range N) (uTo C (nx C) G x)) W3)
            clear hq
            go_wp2
            go_roundw
            case rel=>exact⟨x,hxl,by go_num,HST.out⟩
            case measure=>simp only[intOf];omega
       · have HH:Hid (hasG G (toC C x:Nat)=false):=(by rw[hasG_nat];simpa using hg:hasG G (toC C x:Nat)=false)
         rw[if_neg hg]at HLV
         clear hg
         go_wp2_with (go_at_call 133;refine(containsG_any bG 0 cG G _ _ (by omega) HG3.out.1 HG3.out.2).mono ?_;rw[HH.out];rintro e9 w4 ⟨rfl,hb4⟩;refine Hid.out ?_)
         refine Lib.hid ?_
         have HST:Hid (UnAt w N #[.slice a C.length cap,.int .i64 loops,.slice (some ⟨gF,0,none⟩) N cF,.slice (some ⟨gT,0,none⟩) N cT] (mers (List.range N) (uTo C (nx C) G x)) w4):=(by rw[HLV.out];exact HP3.out.on hb4:UnAt w N #[.slice a C.length cap,.int .i64 loops,.slice (some ⟨gF,0,none⟩) N cF,.slice (some ⟨gT,0,none⟩) N cT] (mers (List.range N) (uTo C (nx C) G x)) w4)
         clear hb4 c3 c4
         go_wp2
         go_roundw
         case rel=>exact⟨x,hxl,by go_num,HST.out⟩
         case measure=>simp only[intOf];omega
     · obtain rfl:N=x:=by omega
       have HDE:Hid (L=uniM C (nx C) G):=HDN.out rfl
       clear HDN
       have HHB:Hid (hasB C (N:Int)=false):=(by have:=HN.out;simp[hasB];omega:hasB C (N:Int)=false)
       go_wp2_with (go_at_call 104;refine(HHS.out N _).mono ?_;rw[HHB.out];rintro e9 w3 ⟨rfl,hb3⟩;refine Hid.out ?_)
       refine Lib.hid ?_
       have HP3:Hid (UnAt w N #[.slice a C.length cap,.int .i64 loops,.slice (some ⟨gF,0,none⟩) N cF,.slice (some ⟨gT,0,none⟩) N cT] (uniM C (nx C) G) w3):=(by rw[<-HDE.out];exact HP.out.on hb3:UnAt w N #[.slice a C.length cap,.int .i64 loops,.slice (some ⟨gF,0,none⟩) N cF,.slice (some ⟨gT,0,none⟩) N cT] (uniM C (nx C) G) w3)
       clear hb3
       go_wp2
       go_ret
       exact⟨_,rfl,own_low HP3.out.row (by omega),HP3.out.bel⟩
end Go.Proofs.Ytagaajlbkfkaiaa
