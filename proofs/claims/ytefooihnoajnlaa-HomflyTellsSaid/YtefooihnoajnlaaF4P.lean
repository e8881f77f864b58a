/- Several texts of the proof, one behind the other. -/
import Derived.Test.YtefooihnoajnlaaF2P
/- The walk of ref.PiecesOf. -/
namespace Go.Proofs.Ytefooihnoajnlaa
open Go.RowKit
set_option maxHeartbeats 16000000
set_option maxRecDepth 100000
theorem made_zeroN (n:Nat):(madeCells (Value.int .i64 0).cells (n*1)).toList=nats (List.replicate n 0):=by
 have e:(Value.int .i64 0).cells=#[Value.int .i64 0]:=rfl
 rw[e,toList_madeCells_one,Nat.mul_one]
 simp[nats]
theorem nats_set (l:List Nat) (i z:Nat):(nats l).set i (.int .i64 (z:Nat))=nats (l.set i z):=by simp[nats,List.map_set]
theorem field_spot (a b:Int) (w:World):(Instr.field 82 (.agg #[.int .i64 a,.int .i64 b]) 0).run Try.prog w=.ok (.int .i64 a) w:=by
 simp[Instr.field,run_underlying Try.underlying82,go_sem,asAgg]
def labTo (n i:Nat):List Nat:=(List.range n).map fun v=>if v<i then v else 0
theorem labTo_zero (n:Nat):List.replicate n 0=labTo n 0:=by
 refine List.ext_getElem (by simp[labTo]) fun j h1 h2=>?_
 simp[labTo]
theorem labTo_next (n i:Nat):(labTo n i).set i i=labTo n (i+1):=by
 refine List.ext_getElem (by simp[labTo]) fun j h1 h2=>?_
 simp only[List.getElem_set,labTo,List.getElem_map,List.getElem_range]
 split
 · rename_i h;subst h;simp
 · rename_i h
   by_cases h3:j<i
   · rw[if_pos h3,if_pos (by omega)]
   · rw[if_neg h3,if_neg (by omega)]
theorem labTo_all (n:Nat):labTo n n=List.range n:=by
 refine List.ext_getElem (by simp[labTo]) fun j h1 h2=>?_
 simp only[labTo,List.getElem_map,List.getElem_range]
 rw[if_pos (by simpa[labTo] using h1)]
theorem arcE_next (C:List Cr) (i:Nat) (hi:i<2*C.length):(arcE C).take (i+1)=(arcE C).take i++[(enC C (i+1) true,enC C (i+1) false)]:=by
 rw[List.take_add_one]
 congr 1
 simp[arcE,hi]
theorem levs_step (V:List Nat) (C:List Cr) (i:Nat) (hi:i<2*C.length):levs V ((arcE C).take (i+1))=lev (levs V ((arcE C).take i)) (enC C (i+1) true) (enC C (i+1) false):=by
 rw[arcE_next C i hi,levs_app]
 rfl
theorem arcE_all (C:List Cr):(arcE C).take (2*C.length)=arcE C:=List.take_of_length_le (by simp[arcE])
theorem piecesOf_any (a : Option Addr) (cap : Nat) (C : List Cr) (loops : Int) (w : World) (hm : mayD C loops = true) (hD : Crs w w.heap.size (.slice a C.length cap) C) :
    Calls Try.prog 50 #[.agg #[.slice a C.length cap,.int .i64 loops]] w fun e w'=>∃ v W,e=.returned v/\w'.ownsRow w.heap.size 3 1 v C.length (nats W)/\Least (arcE C) C.length W/\Below w.heap.size w w':=by
 obtain⟨s1,-,-,-⟩:=sizeB_iff (may_size hm)
 obtain⟨i2,hk,hx0,hx1,hx2⟩:=info_parts infoInt
 have HM:Hid (mayD C loops=true):=hm
 have HD:Hid (Crs w w.heap.size (.slice a C.length cap) C):=hD
 clear hm hD
 obtain⟨w0,hw0⟩:∃ w0,w0=w.alloc (.cells #[.slice a C.length cap,.int .i64 loops] 24):=⟨_,rfl⟩
 have HW0:Hid (w0=w.alloc (.cells #[.slice a C.length cap,.int .i64 loops] 24)):=hw0
 have hs0:w0.heap.size=w.heap.size+1:=by rw[hw0];simp
 have HB0:Hid (Below w.heap.size w w0):=(by rw[hw0];exact(Below.refl _ _).alloc (Nat.le_refl _) _:Below w.heap.size w w0)
 have HT0:Hid (w0.heap[w.heap.size]?=some (.cells #[.slice a C.length cap,.int .i64 loops] 24 (0,0))):=(by rw[hw0];exact alloc_at rfl:w0.heap[w.heap.size]?=some (.cells #[.slice a C.length cap,.int .i64 loops] 24 (0,0)))
 clear hw0
 go_enter Try.func50,Try.ntmps50
 go_wp2_with (first|(at_make;refine wpList_make_full _ rfl _ _ 64 rfl (w.heap.size+1) 3 i2 (.int .i64 0) 1 Try.underlying64 hk hx0 hx1 .i64 .i64 _ _ C.length rfl rfl rfl rfl (by rw[hx2];omega) (by unfold maxLen;omega) (by simp) ?_;intro w1 hrow hg1;refine Hid.out ?_))
 refine Lib.hid ?_
 rw[<-HW0.out]at hrow hg1
 rw[made_zeroN,hs0,labTo_zero]at hrow
 have HP0:Hid (w1.heap[w.heap.size]?=some (.cells #[.slice a C.length cap,.int .i64 loops] 24 (0,0))/\w1.ownsRow (w.heap.size+1) 3 1 (.slice (some ⟨w.heap.size+1,0,none⟩) C.length C.length) C.length (nats (labTo C.length 0))/\Below w.heap.size w w1):=⟨(hg1.block _ (by omega) (by simp)).trans HT0.out,hrow,HB0.out.grown hg1 (by omega) (fun k hk=>by cases hk)⟩
 have q1:IntKind.i64.wrap (2*(C.length:Int))=2*(C.length:Int):=IntWalk.i64_in _ (by omega)
 clear hrow hg1 HT0 HB0 hs0 HW0
 go_wp2
 go_loopw [5] (fun v5 wr=>∃ i:Nat,i<=C.length/\v5=.int .i64 (i:Nat)/\Hid (wr.heap[w.heap.size]?=some (.cells #[.slice a C.length cap,.int .i64 loops] 24 (0,0))/\wr.ownsRow (w.heap.size+1) 3 1 (.slice (some ⟨w.heap.size+1,0,none⟩) C.length C.length) C.length (nats (labTo C.length i))/\Below w.heap.size w wr)) (fun v5 _=>C.length-(intOf v5).toNat)
 case atStart=>exact⟨0,Nat.zero_le _,rfl,HP0.out⟩
 case round=>
  clear HP0
  rename World=>W1
  obtain⟨i,hin,rfl,hp⟩:=hrel
  have hlt:=hp.out.2.1.lt (w.heap.size+1) rfl
  by_cases hil:i<C.length
  · have hst:=hp.out.2.1.stored i (.int .i64 (i:Nat))
    rw[nats_set,labTo_next]at hst
    have HST:Hid ((W1.setCell ⟨w.heap.size+1,i,none⟩ (.int .i64 (i:Nat))).heap[w.heap.size]?=some (.cells #[.slice a C.length cap,.int .i64 loops] 24 (0,0))/\(W1.setCell ⟨w.heap.size+1,i,none⟩ (.int .i64 (i:Nat))).ownsRow (w.heap.size+1) 3 1 (.slice (some ⟨w.heap.size+1,0,none⟩) C.length C.length) C.length (nats (labTo C.length (i+1)))/\Below w.heap.size w (W1.setCell ⟨w.heap.size+1,i,none⟩ (.int .i64 (i:Nat)))):=⟨(hst.2.block _ (by omega) (fun e=>by have:w.heap.size=w.heap.size+1:=Option.some.inj e;omega)).trans hp.out.1,hst.1,hp.out.2.2.grown hst.2 hp.out.2.2.size (fun q hq=>by have:=Option.some.inj hq;omega)⟩
    have e0:W1.cell? ⟨w.heap.size+1,i,none⟩=some (.int .i64 ((labTo C.length i).getD i 0:Nat)):=by
     rw[hp.out.2.1.cellAt i (by omega)];exact nats_get _ i (by simp[labTo];omega)
    have z0:W1.frozen? ⟨w.heap.size+1,i,none⟩=false:=hp.out.2.1.frozenAt i
    clear hst
    go_wp2
    go_roundw
    case rel=>exact⟨i+1,by omega,by go_num,HST.out⟩
    case measure=>simp only[intOf];omega
  · obtain rfl:i=C.length:=by omega
    have HP1:Hid (W1.heap[w.heap.size]?=some (.cells #[.slice a C.length cap,.int .i64 loops] 24 (0,0))/\W1.ownsRow (w.heap.size+1) 3 1 (.slice (some ⟨w.heap.size+1,0,none⟩) C.length C.length) C.length (nats (levR (List.range C.length) (arcE C) 0))/\Below w.heap.size w W1):=(by have h:=hp.out;rw[labTo_all]at h;exact h:(W1.heap[w.heap.size]?=some (.cells #[.slice a C.length cap,.int .i64 loops] 24 (0,0))/\W1.ownsRow (w.heap.size+1) 3 1 (.slice (some ⟨w.heap.size+1,0,none⟩) C.length C.length) C.length (nats (levR (List.range C.length) (arcE C) 0))/\Below w.heap.size w W1))
    have HLN:Hid (∀ r,(levR (List.range C.length) (arcE C) r).length=C.length):=fun r=>(levR_lab (arcE_lt HM.out) ⟨by simp,fun v hv=>by simp[List.getD_eq_getElem?_getD,hv],fun v hv=>by simp[List.getD_eq_getElem?_getD,hv,Con.refl]⟩ r).len
    clear hp
    go_wp2
    go_loopw [6] (fun v6 wr=>∃ r:Nat,r<=C.length/\v6=.int .i64 (r:Nat)/\Hid (wr.heap[w.heap.size]?=some (.cells #[.slice a C.length cap,.int .i64 loops] 24 (0,0))/\wr.ownsRow (w.heap.size+1) 3 1 (.slice (some ⟨w.heap.size+1,0,none⟩) C.length C.length) C.length (nats (levR (List.range C.length) (arcE C) r))/\Below w.heap.size w wr)) (fun v6 _=>C.length-(intOf v6).toNat)
    case atStart=>exact⟨0,Nat.zero_le _,rfl,HP1.out⟩
    case round =>
     clear HP1
     rename World=>W2
     obtain⟨r,hrn,rfl,hp⟩:=hrel
     by_cases hrl:r<C.length
     · have hdr:decide ((r:Int)<(C.length:Int))=true:=by simp;omega
       have hdr2:decide (r<C.length)=true:=by simp;omega
       obtain⟨V,hV⟩:∃ V,levR (List.range C.length) (arcE C) r=V:=⟨_,rfl⟩
       have HV:Hid (levR (List.range C.length) (arcE C) r=V):=hV
       have HVL:Hid (V.length=C.length):=(by rw[<-hV];exact HLN.out r:V.length=C.length)
       have HP2:Hid (W2.heap[w.heap.size]?=some (.cells #[.slice a C.length cap,.int .i64 loops] 24 (0,0))/\W2.ownsRow (w.heap.size+1) 3 1 (.slice (some ⟨w.heap.size+1,0,none⟩) C.length C.length) C.length (nats (levs V ((arcE C).take 0)))/\Below w.heap.size w W2):=(by have h:=hp.out;rw[hV]at h;exact h:(W2.heap[w.heap.size]?=some (.cells #[.slice a C.length cap,.int .i64 loops] 24 (0,0))/\W2.ownsRow (w.heap.size+1) 3 1 (.slice (some ⟨w.heap.size+1,0,none⟩) C.length C.length) C.length (nats (levs V ((arcE C).take 0)))/\Below w.heap.size w W2))
       clear hp hV
       go_wp2
       go_loopw [7] (fun v7 wr=>∃ i j:Nat,i<=2*C.length/\Hid (j=i+1)/\v7=.int .i64 (j:Nat)/\Hid (wr.heap[w.heap.size]?=some (.cells #[.slice a C.length cap,.int .i64 loops] 24 (0,0))/\wr.ownsRow (w.heap.size+1) 3 1 (.slice (some ⟨w.heap.size+1,0,none⟩) C.length C.length) C.length (nats (levs V ((arcE C).take i)))/\Below w.heap.size w wr)) (fun v7 _=>2*C.length+1-(intOf v7).toNat)
       case atStart=>exact⟨0,1,Nat.zero_le _,(rfl:1=0+1),rfl,HP2.out⟩
       case round =>
        clear HP2
        rename World=>W3
        obtain⟨i,j,hin,hji,rfl,hp⟩:=hrel
        by_cases hil:i<2*C.length
        · have hj1:1<=j:=by have:=hji.out;omega
          have hj2:j<=2*C.length:=by have:=hji.out;omega
          have hdj:decide ((j:Int)<=2*(C.length:Int))=true:=by simp;omega
          have hdj2:decide (j<=2*C.length)=true:=by simp;omega
          obtain⟨b,off,ea,hbw,hC⟩:=crs_some HD.out (by omega)
          have HEA:Hid (a=some ⟨b,off,none⟩):=ea
          have HCC:Hid (∀ w',Below W3.heap.size W3 w'->CrossAt w' b off C):=fun w' hb=>(hC.on hp.out.2.2 hbw).on hb (Nat.lt_of_lt_of_le hbw hp.out.2.2.size)
          have hs3:=hp.out.2.2.size
          have hgl:=hp.out.2.1.lt (w.heap.size+1) rfl
          obtain⟨L,hL⟩:∃ L,levs V ((arcE C).take i)=L:=⟨_,rfl⟩
          have HLL:Hid (levs V ((arcE C).take i)=L):=hL
          have HP3:Hid (W3.heap[w.heap.size]?=some (.cells #[.slice a C.length cap,.int .i64 loops] 24 (0,0))/\W3.ownsRow (w.heap.size+1) 3 1 (.slice (some ⟨w.heap.size+1,0,none⟩) C.length C.length) C.length (nats L)/\Below w.heap.size w W3):=(by rw[<-hL];exact hp.out:(W3.heap[w.heap.size]?=some (.cells #[.slice a C.length cap,.int .i64 loops] 24 (0,0))/\W3.ownsRow (w.heap.size+1) 3 1 (.slice (some ⟨w.heap.size+1,0,none⟩) C.length C.length) C.length (nats L)/\Below w.heap.size w W3))
          have HLN2:Hid (L.length=C.length):=(by have h:=HP3.out.2.1.1;rw[nats_len]at h;omega:L.length=C.length)
          obtain⟨x1,x2,x3,-,-⟩:=en_may HM.out j true hj1 hj2
          obtain⟨y1,y2,y3,-,-⟩:=en_may HM.out j false hj1 hj2
          obtain⟨x,hx⟩:∃ x,enC C j true=x:=⟨_,rfl⟩
          obtain⟨y,hy⟩:∃ y,enC C j false=y:=⟨_,rfl⟩
          obtain⟨xs,hxs⟩:∃ xs,enS C j true=xs:=⟨_,rfl⟩
          obtain⟨ys,hys⟩:∃ ys,enS C j false=ys:=⟨_,rfl⟩
          have HE1:Hid (∀ W,b<W.heap.size->CrossAt W b off C->Calls Try.prog 33 #[.agg #[.slice (some ⟨b,off,none⟩) C.length cap,.int .i64 loops],.int .i64 j,.bool false] W fun e w'=>e=.returned (.agg #[.int .i64 (x:Nat),.int .i64 (xs:Nat)])/\Below W.heap.size W w'):=fun W hW hCW=>by
           have h:=endOf_any b off cap C loops j false W HM.out hj1 hj2 hW hCW
           rw[show(!false)=true from rfl,x1,hx,hxs]at h
           exact h
          have HE2:Hid (∀ W,b<W.heap.size->CrossAt W b off C->Calls Try.prog 33 #[.agg #[.slice (some ⟨b,off,none⟩) C.length cap,.int .i64 loops],.int .i64 j,.bool true] W fun e w'=>e=.returned (.agg #[.int .i64 (y:Nat),.int .i64 (ys:Nat)])/\Below W.heap.size W w'):=fun W hW hCW=>by
           have h:=endOf_any b off cap C loops j true W HM.out hj1 hj2 hW hCW
           rw[show(!true)=false from rfl,y1,hy,hys]at h
           exact h
          rw[hx]at x2
          rw[hy]at y2
          have HXX:Hid (enC C j true=x):=hx
          have HYY:Hid (enC C j false=y):=hy
          have HF:Hid (∀ w',Below W3.heap.size W3 w'->w'.cell? ⟨w.heap.size,0,none⟩=some (.slice (some ⟨b,off,none⟩) C.length cap)/\w'.cell? ⟨w.heap.size,1,none⟩=some (.int .i64 loops)):=fun w' hb=>by
           have g:=(hb.block _ (by omega)).trans HP3.out.1
           rw[HEA.out]at g
           exact⟨block_cell g rfl,block_cell g rfl⟩
          have HD3:Hid (Below W3.heap.size W3 W3.drew):=(Below.refl _ _).drew
          have hb3:b<W3.heap.size:=by omega
          have hfs:=field_spot
          clear hC ea hp hL hx hy hxs hys x1 y1 x3 y3
          go_wp2
          obtain⟨t0,t1⟩:=HF.out W3 (Below.refl _ _)
          go_region_held3 (fun w' => w'.cell? ⟨w.heap.size, 0, none⟩ = some (.slice (some ⟨b, off, none⟩) C.length cap) ∧ w'.cell? ⟨w.heap.size, 1, none⟩ = some (.int .i64 loops)) (first | exact HF.out _ H5.out | exact HF.out _ H4.out | exact HF.out _ HD3.out) (first
           | (go_at_call 33; have hAA := H4; clear hAA; refine (HE2.out _ hb4 (HCC.out _ H4.out)).mono ?_; rintro e9 w5 ⟨rfl, hb5⟩
              have H5:Hid (Below W3.heap.size W3 w5):=H4.out.trans (hb5.mono H4.out.size)
              clear hb5)
           | (go_at_call 33; refine (HE1.out W3.drew hb3 (HCC.out _ HD3.out)).mono ?_; rintro e9 w4 ⟨rfl, hb4'⟩
              have H4:Hid (Below W3.heap.size W3 w4):=HD3.out.trans (hb4'.mono HD3.out.size)
              have hb4:b<w4.heap.size:=by have:=H4.out.size;omega
              clear hb4'))
          all_goals
           clear hfs t0 t1
           have hs5:=H5.out.size
           have HR5:Hid (w5.ownsRow (w.heap.size+1) 3 1 (.slice (some ⟨w.heap.size+1,0,none⟩) C.length C.length) C.length (nats L)):=own_any HP3.out.2.1 (grown_below H5.out none)
           have HB5:Hid (Below w.heap.size w w5):=HP3.out.2.2.trans (H5.out.mono hs3)
           have HT5:Hid (w5.heap[w.heap.size]?=some (.cells #[.slice a C.length cap,.int .i64 loops] 24 (0,0))):=(H5.out.block _ (by omega)).trans HP3.out.1
           have e0:w5.cell? ⟨w.heap.size+1,x,none⟩=some (.int .i64 (L.getD x 0:Nat)):=by
            rw[HR5.out.cellAt x (by omega)];exact nats_get _ x (by rw[HLN2.out];exact x2)
           have e1:w5.cell? ⟨w.heap.size+1,y,none⟩=some (.int .i64 (L.getD y 0:Nat)):=by
            rw[HR5.out.cellAt y (by omega)];exact nats_get _ y (by rw[HLN2.out];exact y2)
           have l5:w.heap.size+1<w5.heap.size:=by omega
           by_cases hlt:L.getD x 0<L.getD y 0
           · have hdx:decide (((L.getD x 0:Nat):Int)<((L.getD y 0:Nat):Int))=true:=by simp only[decide_eq_true_eq];omega
             have hdx2:decide (L.getD x 0<L.getD y 0)=true:=by simp only[decide_eq_true_eq];omega
             have hst:=HR5.out.stored y (.int .i64 (L.getD x 0:Nat))
             rw[nats_set]at hst
             have HLV:Hid (levs V ((arcE C).take (i+1))=L.set y (L.getD x 0)):=(by rw[levs_step V C i hil,HLL.out,<-hji.out,HXX.out,HYY.out];unfold lev;rw[if_pos hlt]:levs V ((arcE C).take (i+1))=L.set y (L.getD x 0))
             have HST:Hid ((w5.setCell ⟨w.heap.size+1,y,none⟩ (.int .i64 (L.getD x 0:Nat))).drew.heap[w.heap.size]?=some (.cells #[.slice a C.length cap,.int .i64 loops] 24 (0,0))/\(w5.setCell ⟨w.heap.size+1,y,none⟩ (.int .i64 (L.getD x 0:Nat))).drew.ownsRow (w.heap.size+1) 3 1 (.slice (some ⟨w.heap.size+1,0,none⟩) C.length C.length) C.length (nats (levs V ((arcE C).take (i+1))))/\Below w.heap.size w (w5.setCell ⟨w.heap.size+1,y,none⟩ (.int .i64 (L.getD x 0:Nat))).drew):=(by rw[HLV.out];exact⟨(hst.2.block _ (by omega) (fun e=>by have:w.heap.size=w.heap.size+1:=Option.some.inj e;omega)).trans HT5.out,hst.1,(HB5.out.grown hst.2 HB5.out.size (fun q hq=>by have:=Option.some.inj hq;omega)).drew⟩:((w5.setCell ⟨w.heap.size+1,y,none⟩ (.int .i64 (L.getD x 0:Nat))).drew.heap[w.heap.size]?=some (.cells #[.slice a C.length cap,.int .i64 loops] 24 (0,0))/\(w5.setCell ⟨w.heap.size+1,y,none⟩ (.int .i64 (L.getD x 0:Nat))).drew.ownsRow (w.heap.size+1) 3 1 (.slice (some ⟨w.heap.size+1,0,none⟩) C.length C.length) C.length (nats (levs V ((arcE C).take (i+1))))/\Below w.heap.size w (w5.setCell ⟨w.heap.size+1,y,none⟩ (.int .i64 (L.getD x 0:Nat))).drew))
             have z0:w5.frozen? ⟨w.heap.size+1,y,none⟩=false:=HR5.out.frozenAt y
             clear hst
             go_wp2
             go_region_held3 (fun w'=>w'.cell? ⟨w.heap.size+1,x,none⟩=some (.int .i64 (L.getD x 0:Nat))/\w'.cell? ⟨w.heap.size+1,y,none⟩=some (.int .i64 (L.getD y 0:Nat))) (exact⟨e0,e1⟩) (fail)
             go_wp2
             go_roundw
             case rel=>exact⟨i+1,j+1,by omega,(by have:=hji.out;omega:j+1=i+1+1),by go_num,HST.out⟩
             case measure=>simp only[intOf];omega
           · have hdx:decide (((L.getD x 0:Nat):Int)<((L.getD y 0:Nat):Int))=false:=by simp only[decide_eq_false_iff_not];omega
             have hdx2:decide (L.getD x 0<L.getD y 0)=false:=by simp only[decide_eq_false_iff_not];omega
             have hst:=HR5.out.stored x (.int .i64 (L.getD y 0:Nat))
             rw[nats_set]at hst
             have HLV:Hid (levs V ((arcE C).take (i+1))=L.set x (L.getD y 0)):=(by rw[levs_step V C i hil,HLL.out,<-hji.out,HXX.out,HYY.out];unfold lev;rw[if_neg hlt]:levs V ((arcE C).take (i+1))=L.set x (L.getD y 0))
             have HST:Hid ((w5.setCell ⟨w.heap.size+1,x,none⟩ (.int .i64 (L.getD y 0:Nat))).drew.heap[w.heap.size]?=some (.cells #[.slice a C.length cap,.int .i64 loops] 24 (0,0))/\(w5.setCell ⟨w.heap.size+1,x,none⟩ (.int .i64 (L.getD y 0:Nat))).drew.ownsRow (w.heap.size+1) 3 1 (.slice (some ⟨w.heap.size+1,0,none⟩) C.length C.length) C.length (nats (levs V ((arcE C).take (i+1))))/\Below w.heap.size w (w5.setCell ⟨w.heap.size+1,x,none⟩ (.int .i64 (L.getD y 0:Nat))).drew):=(by rw[HLV.out];exact⟨(hst.2.block _ (by omega) (fun e=>by have:w.heap.size=w.heap.size+1:=Option.some.inj e;omega)).trans HT5.out,hst.1,(HB5.out.grown hst.2 HB5.out.size (fun q hq=>by have:=Option.some.inj hq;omega)).drew⟩:((w5.setCell ⟨w.heap.size+1,x,none⟩ (.int .i64 (L.getD y 0:Nat))).drew.heap[w.heap.size]?=some (.cells #[.slice a C.length cap,.int .i64 loops] 24 (0,0))/\(w5.setCell ⟨w.heap.size+1,x,none⟩ (.int .i64 (L.getD y 0:Nat))).drew.ownsRow (w.heap.size+1) 3 1 (.slice (some ⟨w.heap.size+1,0,none⟩) C.length C.length) C.length (nats (levs V ((arcE C).take (i+1))))/\Below w.heap.size w (w5.setCell ⟨w.heap.size+1,x,none⟩ (.int .i64 (L.getD y 0:Nat))).drew))
             have z0:w5.frozen? ⟨w.heap.size+1,x,none⟩=false:=HR5.out.frozenAt x
             clear hst
             go_wp2
             go_region_held3 (fun w'=>w'.cell? ⟨w.heap.size+1,x,none⟩=some (.int .i64 (L.getD x 0:Nat))/\w'.cell? ⟨w.heap.size+1,y,none⟩=some (.int .i64 (L.getD y 0:Nat))) (exact⟨e0,e1⟩) (fail)
             go_wp2
             go_roundw
             case rel=>exact⟨i+1,j+1,by omega,(by have:=hji.out;omega:j+1=i+1+1),by go_num,HST.out⟩
             case measure=>simp only[intOf];omega
        · obtain rfl:i=2*C.length:=by omega
          obtain rfl:j=2*C.length+1:=hji.out
          go_wp2
          go_roundw
          case rel=>exact⟨r+1,by omega,by go_num,(by have h:=hp.out;rw[arcE_all,<-HV.out]at h;exact h:(W3.heap[w.heap.size]?=some (.cells #[.slice a C.length cap,.int .i64 loops] 24 (0,0))/\W3.ownsRow (w.heap.size+1) 3 1 (.slice (some ⟨w.heap.size+1,0,none⟩) C.length C.length) C.length (nats (levR (List.range C.length) (arcE C) (r+1)))/\Below w.heap.size w W3))⟩
          case measure=>simp only[intOf];omega
     · obtain rfl:r=C.length:=by omega
       go_wp2
       go_ret
       exact⟨_,_,rfl,own_low hp.out.2.1 (by omega),levR_least (arcE_lt HM.out) C.length (Nat.le_refl _),hp.out.2.2⟩
end Go.Proofs.Ytefooihnoajnlaa
/- Rings of darts in a world; the walk of ref.PlanarIs. -/
namespace Go.Proofs.Ytefooihnoajnlaa
open Go.RowKit
def RingsAt (w:World) (B:Nat) (v:Value) (L:List (List Nat)):Prop:=∃ a cap,v=.slice a L.length cap/\(0<L.length->∃ b off,a=some ⟨b,off,none⟩/\b<w.heap.size/\B<=b/\∀ j,j<L.length->∃ g c,w.cell? ⟨b,off+j,none⟩=some (.slice (some ⟨g,0,none⟩) (L.getD j []).length c)/\g<w.heap.size/\B<=g/\∀ k,k<(L.getD j []).length->w.cell? ⟨g,k*2,none⟩=some (.int .i64 (dA ((L.getD j []).getD k 0):Nat))/\w.cell? ⟨g,k*2+1,none⟩=some (.bool (dB ((L.getD j []).getD k 0))))
theorem RingsAt.on {w w':World} {B:Nat} {v:Value} {L:List (List Nat)} (h:RingsAt w B v L) (hb:Below w.heap.size w w'):RingsAt w' B v L:=by
 obtain⟨a,cap,rfl,f⟩:=h
 refine⟨a,cap,rfl,fun h0=>?_⟩
 obtain⟨b,off,rfl,hlt,hB,hc⟩:=f h0
 refine⟨b,off,rfl,Nat.lt_of_lt_of_le hlt hb.size,hB,fun j hj=>?_⟩
 obtain⟨g,c,h1,h2,hG,h3⟩:=hc j hj
 exact⟨g,c,bcell hb hlt h1,Nat.lt_of_lt_of_le h2 hb.size,hG,fun k hk=>⟨bcell hb h2 (h3 k hk).1,bcell hb h2 (h3 k hk).2⟩⟩
theorem dd_get (l:List Nat) (k:Nat) (hk:k<l.length):(dd l).getD k (0,false)=(dA (l.getD k 0),dB (l.getD k 0)):=by
 simp[dd,List.getD_eq_getElem?_getD,hk]
theorem DartsOwn.rings {w:World} {B:Nat} {v:Value} {L:List (List Nat)} (h:DartsOwn w B v L) (hn:∀ j,j<L.length->0<(L.getD j []).length):RingsAt w B v L:=by
 obtain⟨ys,h1,h2,h3⟩:=h
 obtain⟨a,cap,ev,f⟩:=slots_of_own h2
 refine⟨a,cap,by rw[ev,h1],fun h0=>?_⟩
 obtain⟨b,off,ea,hlt,hc⟩:=f (by omega)
 refine⟨b,off,ea,hlt,(h2.lt b (by rw[ev,ea];rfl)).1,fun j hj=>?_⟩
 have hr:=h3 j hj
 have hpos:=hn j hj
 have hcell:=hc j (by omega)
 rcases hr.2 with⟨_,hz⟩|⟨g,c,cur,e1,hBg,hg,_,_,_,htk⟩
 · omega
 · rw[e1]at hcell
   refine⟨g,c,hcell,(Array.getElem?_eq_some_iff.1 hg).1,hBg,fun k hk=>?_⟩
   have hv:=vflat_get (dd (L.getD j [])) k (by rw[dd_len];exact hk)
   rw[dd_get _ k hk]at hv
   have hcl:=fun(o:Nat) (u:Value) (hu:(vflat (dd (L.getD j [])))[o]?=some u)=>hr.cells (g:=g) (by rw[e1];rfl) o u hu
   have hadd:∀ o,(⟨g,0,none⟩:Addr).add o=⟨g,o,none⟩:=fun o=>by unfold Addr.add;split<;>simp_all
   have a1:=hcl _ _ hv.1
   have a2:=hcl _ _ hv.2
   rw[hadd]at a1 a2
   exact⟨a1,a2⟩
theorem facesM_facts {C:List Cr} {loops:Int} (hm:mayD C loops=true):(facesM C).length<=4*C.length/\∀ j,j<(facesM C).length->0<((facesM C).getD j []).length/\((facesM C).getD j []).length<=4*C.length+1/\∀ k,k<((facesM C).getD j []).length->1<=((facesM C).getD j []).getD k 0/\((facesM C).getD j []).getD k 0<=4*C.length:=by
 refine⟨walksTo_count _ _ _,fun j hj=>?_⟩
 have hmem:(facesM C).getD j []∈facesM C:=by rw[List.getD_eq_getElem?_getD,List.getElem?_eq_getElem hj];exact List.getElem_mem hj
 obtain⟨h1,h2,h3⟩:=walksTo_mem (fd_closed hm) (4*C.length) (Nat.le_refl _) _ hmem
 refine⟨List.length_pos_iff.2 h1,h2,fun k hk=>h3 _ ?_⟩
 generalize (facesM C).getD j []=l at hk ⊢
 rw[List.getD_eq_getElem?_getD,List.getElem?_eq_getElem hk]
 exact List.getElem_mem hk
theorem facesM_pos {C:List Cr} (h:0<C.length):0<(facesM C).length:=by
 have h1:=walks_once (fd C) (4*C.length) 1 (Nat.le_refl _) (by omega)
 unfold facesM
 cases hl:(walksTo (fd C) (4*C.length) (4*C.length)).1 with
 |nil=>rw[hl]at h1;simp at h1
 |cons x l=>simp
def headsM (C:List Cr):List Nat:=(facesM C).map fun l=>dC C (l.getD 0 0)
theorem headsM_len (C:List Cr):(headsM C).length=(facesM C).length:=by simp[headsM]
theorem headsM_at (C:List Cr) (i:Nat) (hi:i<(facesM C).length):(headsM C).getD i 0=dC C (((facesM C).getD i []).getD 0 0):=by
 simp[headsM,List.getD_eq_getElem?_getD,hi]
theorem headsM_lt {C:List Cr} {loops:Int} (hm:mayD C loops=true):∀ g,g∈headsM C->g<C.length:=fun g hg=>by
 obtain⟨l,hl,rfl⟩:=List.mem_map.1 hg
 obtain⟨j,hj,rfl⟩:=List.getElem_of_mem hl
 obtain⟨h1,_,h3⟩:=(facesM_facts hm).2 j hj
 have e:(facesM C).getD j []=(facesM C)[j]:=by rw[List.getD_eq_getElem?_getD,List.getElem?_eq_getElem hj];rfl
 rw[e]at h1 h3
 exact(d_may hm _ (h3 0 h1).1 (h3 0 h1).2).2.1
def whoM (C:List Cr):List Nat:=levR (List.range C.length) (arcE C) C.length
def planarB (C:List Cr):Bool:=(List.range C.length).all fun p=>!decide ((whoM C).getD p 0=p)||decide (exN C.length (headsM C) (whoM C) p=2)
theorem planarB_iff (C:List Cr):planarB C=true↔∀ p,p<C.length->(whoM C).getD p 0=p->exN C.length (headsM C) (whoM C) p=2:=by
 unfold planarB
 rw[List.all_eq_true]
 constructor
 · intro h p hp e
   have:=h p (List.mem_range.2 hp)
   rw[e]at this
   simpa only[decide_true,Bool.not_true,Bool.false_or,decide_eq_true_eq] using this
 · intro h p hp
   by_cases e:(whoM C).getD p 0=p
   · simp only[e,decide_true,Bool.not_true,Bool.false_or,decide_eq_true_eq];exact h p (List.mem_range.1 hp) e
   · simp only[e,decide_false,Bool.not_false,Bool.true_or]
theorem whoM_least {C:List Cr} {loops:Int} (hm:mayD C loops=true):Least (arcE C) C.length (whoM C):=levR_least (arcE_lt hm) C.length (Nat.le_refl _)
def cntN (W:List Nat) (p:Nat) (i:Nat):Nat:=(List.range i).countP fun v=>decide (W.getD v 0=p)
theorem cntN_next (W:List Nat) (p i:Nat):cntN W p (i+1)=cntN W p i+if W.getD i 0=p then 1 else 0:=by
 unfold cntN
 rw[List.range_succ,List.countP_append]
 congr 1
 by_cases h:W.getD i 0=p
 · rw[if_pos h];simp only[List.countP_cons,List.countP_nil,h,decide_true,if_true]
 · rw[if_neg h];simp only[List.countP_cons,List.countP_nil,h,decide_false];rfl
theorem cntN_le (W:List Nat) (p i:Nat):cntN W p i<=i:=by
 have:=List.countP_le_length (p:=fun v=>decide (W.getD v 0=p)) (l:=List.range i)
 simpa[cntN] using this
def cntG (G:List Nat) (W:List Nat) (p:Nat) (i:Nat):Nat:=(G.take i).countP fun g=>decide (W.getD g 0=p)
theorem cntG_next (G W:List Nat) (p i:Nat) (hi:i<G.length):cntG G W p (i+1)=cntG G W p i+if W.getD (G.getD i 0) 0=p then 1 else 0:=by
 unfold cntG
 rw[List.take_add_one,List.countP_append]
 congr 1
 have e:G[i]?=some (G.getD i 0):=by rw[List.getD_eq_getElem?_getD,List.getElem?_eq_getElem hi];rfl
 rw[e]
 by_cases h:W.getD (G.getD i 0) 0=p
 · rw[if_pos h];simp only[Option.toList_some,List.countP_cons,List.countP_nil,h,decide_true,if_true]
 · rw[if_neg h];simp only[Option.toList_some,List.countP_cons,List.countP_nil,h,decide_false];rfl
theorem cntG_le (G W:List Nat) (p i:Nat):cntG G W p i<=G.length:=by
 have:=List.countP_le_length (p:=fun g=>decide (W.getD g 0=p)) (l:=G.take i)
 unfold cntG
 have h2:=List.length_take_le i G
 have h3:(G.take i).length<=G.length:=by rw[List.length_take];omega
 omega
theorem ex_cnt (n:Nat) (G W:List Nat) (p:Nat):exN n G W p=(cntG G W p G.length:Int)-(cntN W p n:Int):=by
 unfold exN cntG cntN
 rw[List.take_length]
end Go.Proofs.Ytefooihnoajnlaa
/- The walk of ref.PlanarIs. -/
namespace Go.Proofs.Ytefooihnoajnlaa
open Go.RowKit
set_option maxHeartbeats 16000000
set_option maxRecDepth 100000
theorem planarIs_any (a : Option Addr) (cap : Nat) (C : List Cr) (loops : Int) (w : World) (hm : mayD C loops = true) (hD : Crs w w.heap.size (.slice a C.length cap) C) :
    Calls Try.prog 32 #[.agg #[.slice a C.length cap,.int .i64 loops]] w fun e w'=>e=.returned (.bool (planarB C))/\Below w.heap.size w w':=by
 obtain⟨s1,-,-,-⟩:=sizeB_iff (may_size hm)
 have HM:Hid (mayD C loops=true):=hm
 have HD:Hid (Crs w w.heap.size (.slice a C.length cap) C):=hD
 obtain⟨hfl,hfr⟩:=facesM_facts hm
 have HFR:Hid (∀ j,j<(facesM C).length->0<((facesM C).getD j []).length/\((facesM C).getD j []).length<=4*C.length+1/\∀ k,k<((facesM C).getD j []).length->1<=((facesM C).getD j []).getD k 0/\((facesM C).getD j []).getD k 0<=4*C.length):=hfr
 clear hm hD hfr
 obtain⟨w0,hw0⟩:∃ w0,w0=w.alloc (.cells #[.slice a C.length cap,.int .i64 loops] 24):=⟨_,rfl⟩
 have HW0:Hid (w0=w.alloc (.cells #[.slice a C.length cap,.int .i64 loops] 24)):=hw0
 have hs0:w0.heap.size=w.heap.size+1:=by rw[hw0];simp
 have HB0:Hid (Below w.heap.size w w0):=(by rw[hw0];exact(Below.refl _ _).alloc (Nat.le_refl _) _:Below w.heap.size w w0)
 have HT0:Hid (w0.heap[w.heap.size]?=some (.cells #[.slice a C.length cap,.int .i64 loops] 24 (0,0))):=(by rw[hw0];exact alloc_at rfl:w0.heap[w.heap.size]?=some (.cells #[.slice a C.length cap,.int .i64 loops] 24 (0,0)))
 have HD0:Hid (Crs w0 w0.heap.size (.slice a C.length cap) C):=HD.out.up HB0.out
 clear hw0
 go_enter Try.func32,Try.ntmps32
 go_wp2_with (go_at_call 50;rw[<-HW0.out];refine(piecesOf_any a cap C loops _ HM.out HD0.out).mono ?_;rintro e9 w1 ⟨vw,W,rfl,hrow,hle,hb1⟩;refine Hid.out ?_)
 refine Lib.hid ?_
 have HLE:Hid (W=whoM C):=hle.eq (whoM_least HM.out)
 have HWL:Hid (W.length=C.length):=hle.1
 obtain⟨aw,cw,rfl,fw⟩:=slots_of_own hrow
 have HFW:Hid (0<C.length->∃ b off,aw=some ⟨b,off,none⟩/\b<w1.heap.size/\∀ i,i<C.length->w1.cell? ⟨b,off+i,none⟩=some (.int .i64 (W.getD i 0:Nat))):=fun h0=>by
  obtain⟨b,off,e,hlt,hc⟩:=fw (by rw[nats_len,hle.1];exact h0)
  refine⟨b,off,e,hlt,fun i hi=>?_⟩
  rw[hc i (by rw[nats_len,hle.1];exact hi),List.getD_eq_getElem?_getD,nats_get W i (by rw[hle.1];exact hi)]
  rfl
 rw[nats_len,hle.1]
 have HB1:Hid (Below w0.heap.size w0 w1):=hb1
 have hs1:=hb1.size
 have g1:=(hb1.block _ (by omega)).trans HT0.out
 have p0:w1.cell? ⟨w.heap.size,0,none⟩=some (.slice a C.length cap):=block_cell g1 rfl
 have p1:w1.cell? ⟨w.heap.size,1,none⟩=some (.int .i64 loops):=block_cell g1 rfl
 have HD1:Hid (Crs w1 w1.heap.size (.slice a C.length cap) C):=HD0.out.up hb1
 clear hrow hle fw hb1 g1
 go_wp2_with (go_at_call 51;refine(facesOf_any a cap C loops _ HM.out HD1.out).mono ?_;rintro e9 w2 ⟨vf,rfl,hrf,hb2⟩;refine Hid.out ?_)
 refine Lib.hid ?_
 have hrg:=hrf.rings (fun j hj=>(HFR.out j hj).1)
 obtain⟨af,cf,rfl,ff⟩:=hrg
 have HRG:Hid (RingsAt w2 w1.heap.size (.slice af (facesM C).length cf) (facesM C)):=⟨af,cf,rfl,ff⟩
 have HB2:Hid (Below w0.heap.size w0 w2):=HB1.out.trans (hb2.mono hs1)
 have hs2:=hb2.size
 have HFW2:Hid (∀ w',Below w2.heap.size w2 w'->0<C.length->∃ b off,aw=some ⟨b,off,none⟩/\b<w'.heap.size/\∀ i,i<C.length->w'.cell? ⟨b,off+i,none⟩=some (.int .i64 (W.getD i 0:Nat))):=fun w' hb h0=>by
  obtain⟨b,off,e,hlt,hc⟩:=HFW.out h0
  have hbb:=hb2.trans (hb.mono hs2)
  exact⟨b,off,e,Nat.lt_of_lt_of_le hlt hbb.size,fun i hi=>bcell hbb hlt (hc i hi)⟩
 have HT2:Hid (w2.heap[w.heap.size]?=some (.cells #[.slice a C.length cap,.int .i64 loops] 24 (0,0))):=(HB2.out.block _ (by omega)).trans HT0.out
 have HWB:Hid (Below w.heap.size w w2):=HB0.out.trans (HB2.out.mono (by omega))
 clear hrf ff hb2 p0 p1 HB1 HB2 HD1 HD0 HT0 HB0 HFW
 by_cases hz:C.length=0
 · have HPB:Hid (planarB C=true):=((planarB_iff C).2 fun p hp=>by omega:planarB C=true)
   go_wp2
   go_loopw [5] (fun v5 wr=>v5=.int .i64 0/\Below w2.heap.size w2 wr) (fun _ _=>0)
   case atStart=>exact⟨rfl,Below.refl _ _⟩
   case round=>
    obtain⟨rfl,hb⟩:=hrel
    have hzi:(C.length:Int)=0:=by omega
    go_wp2
    go_ret
    exact⟨by rw[HPB.out];rfl,HWB.out.trans (hb.mono HWB.out.size)⟩
 · have hpos:0<C.length:=by omega
   obtain⟨bw,ow,rfl,hbw,hcw⟩:=HFW2.out w2 (Below.refl _ _) hpos
   obtain⟨af',cf',ef,ff⟩:=HRG.out
   injection ef with ef1 ef2 ef3
   obtain⟨bf,of,efa,hbf,-,hcf⟩:=ff (facesM_pos hpos)
   rw[<-ef1]at efa
   subst efa
   have HCW:Hid (∀ w',Below w2.heap.size w2 w'->∀ i,i<C.length->w'.cell? ⟨bw,ow+i,none⟩=some (.int .i64 (W.getD i 0:Nat))):=fun w' hb i hi=>bcell hb hbw (hcw i hi)
   have HCF:Hid (∀ j,j<(facesM C).length->∃ g c,w2.cell? ⟨bf,of+j,none⟩=some (.slice (some ⟨g,0,none⟩) ((facesM C).getD j []).length c)/\g<w2.heap.size/\∀ k,k<((facesM C).getD j []).length->w2.cell? ⟨g,k*2,none⟩=some (.int .i64 (dA (((facesM C).getD j []).getD k 0):Nat))/\w2.cell? ⟨g,k*2+1,none⟩=some (.bool (dB (((facesM C).getD j []).getD k 0)))):=fun j hj=>(let ⟨g,c,h1,h2,_,h3⟩:=hcf j hj;⟨g,c,h1,h2,h3⟩)
   have HEF:Hid (af'=some ⟨bf,of,none⟩):=ef1.symm
   clear ff hcf hcw ef1 ef2 ef3 HRG HFW2 hz
   go_wp2
   go_loopw [5] (fun v5 wr=>∃ p:Nat,p<=C.length/\v5=.int .i64 (p:Nat)/\Hid (∀ q,q<p->W.getD q 0=q->exN C.length (headsM C) W q=2)/\Below w2.heap.size w2 wr) (fun v5 _=>C.length-(intOf v5).toNat)
   case atStart=>exact⟨0,Nat.zero_le _,rfl,(fun q hq=>absurd hq (Nat.not_lt_zero _):∀ q,q<0->W.getD q 0=q->exN C.length (headsM C) W q=2),Below.refl _ _⟩
   case round =>
    rename World=>W1
    obtain⟨p,hpn,rfl,hq,hb⟩:=hrel
    have HB:Hid (Below w2.heap.size w2 W1):=hb
    have hsW:=hb.size
    clear hb
    by_cases hpl:p<C.length
    · have e0 := HCW.out W1 HB.out p hpl
      obtain⟨up,hup⟩:∃ up,W.getD p 0=up:=⟨_,rfl⟩
      rw[hup]at e0
      have HUP:Hid (W.getD p 0=up):=hup
      clear hup
      by_cases hwp:up=p
      · subst hwp
        have hne:((up:Int) != (up:Int))=false:=by simp
        go_wp2
        go_loopw [6,7] (fun v6 v7 wr=>∃ i:Nat,i<=C.length/\v7=.int .i64 (i:Nat)/\v6=.int .i64 (-(cntN W up i:Int))/\Below w2.heap.size w2 wr) (fun _ v7 _=>C.length-(intOf v7).toNat)
        case atStart=>exact⟨0,Nat.zero_le _,rfl,by simp[cntN],HB.out⟩
        case round=>
         rename World=>W3
         obtain⟨i,hin,rfl,rfl,hb⟩:=hrel
         have HB3:Hid (Below w2.heap.size w2 W3):=hb
         have hs3:=hb.size
         clear hb
         have hcl:=cntN_le W up i
         by_cases hil:i<C.length
         · have e1:=HCW.out W3 HB3.out i hil
           have hc:=cntN_next W up i
           obtain⟨u,hu⟩:∃ u,W.getD i 0=u:=⟨_,rfl⟩
           rw[hu]at e1 hc
           clear hu
           by_cases hwi:u=up
           · rw[hwi]at e1 hc
             rw[if_pos rfl]at hc
             clear hwi
             have HCN:Hid (cntN W up (i+1)=cntN W up i+1):=hc
             clear hc
             go_wp2
             go_roundw
             case rel=>exact⟨i+1,by omega,by go_num,by rw[HCN.out];congr 1;first|omega|(rw[IntWalk.i64_in _ (by omega)];omega),HB3.out⟩
             case measure=>simp only[intOf];omega
           · rw[if_neg hwi]at hc
             have HCN:Hid (cntN W up (i+1)=cntN W up i):=(by omega:cntN W up (i+1)=cntN W up i)
             have hne2:((u:Int)==(up:Int))=false:=by simp only[beq_eq_false_iff_ne];omega
             clear hc
             go_wp2
             go_roundw
             case rel=>exact⟨i+1,by omega,by go_num,by rw[HCN.out],HB3.out⟩
             case measure=>simp only[intOf];omega
         · obtain rfl:i=C.length:=by omega
           have HB3c:Hid (Below w2.heap.size w2 W3):=HB3.out
           have hcn:=cntN_le W up C.length
           obtain⟨bd,od,ea,hbd,hCd⟩:=crs_some HD.out hpos
           have HEA:Hid (a=some ⟨bd,od,none⟩):=ea
           have HCC:Hid (∀ w',Below w2.heap.size w2 w'->CrossAt w' bd od C/\bd<w'.heap.size):=fun w' hb=>by
            have hb':=HWB.out.trans (hb.mono HWB.out.size)
            exact⟨hCd.on hb' hbd,Nat.lt_of_lt_of_le hbd hb'.size⟩
           clear ea hCd hcl hin
           go_wp2
           go_loopw [6,8] (fun v6 v8 wr=>∃ i:Nat,i<=(facesM C).length/\v8=.int .i64 (i:Nat)/\v6=.int .i64 ((cntG (headsM C) W up i:Int)-(cntN W up C.length:Int))/\Below w2.heap.size w2 wr) (fun _ v8 _=>(facesM C).length-(intOf v8).toNat)
           case atStart=>exact⟨0,Nat.zero_le _,rfl,by simp[cntG],HB3c.out⟩
           case round =>
            rename World=>W4
            obtain⟨i,hin,rfl,rfl,hb⟩:=hrel
            have HB4':Hid (Below w2.heap.size w2 W4):=hb
            have hs4:=hb.size
            clear hb
            have hcg:=cntG_le (headsM C) W up i
            rw[headsM_len]at hcg
            by_cases hil:i<(facesM C).length
            · obtain⟨gj,cj,k0,k1,k2⟩:=HCF.out i hil
              obtain⟨l0,l1,l2⟩:=HFR.out i hil
              have hx12:=l2 0 l0
              have k3:=k2 0 l0
              have hcx:=cntG_next (headsM C) W up i (by rw[headsM_len];exact hil)
              rw[headsM_at C i hil]at hcx
              obtain⟨nF,hnF⟩:∃ nF,((facesM C).getD i []).length=nF:=⟨_,rfl⟩
              obtain⟨x,hx⟩:∃ x,((facesM C).getD i []).getD 0 0=x:=⟨_,rfl⟩
              rw[hnF]at k0 l0
              rw[hx]at k3 hx12 hcx
              obtain⟨d1,d2,d3⟩:=d_may HM.out x hx12.1 hx12.2
              have dle:=dA_le hx12.1 hx12.2
              obtain⟨y,hy⟩:∃ y,dC C x=y:=⟨_,rfl⟩
              obtain⟨ys,hys⟩:∃ ys,dS C x=ys:=⟨_,rfl⟩
              rw[hy]at d1 d2 hcx
              rw[hys]at d1
              obtain⟨u,hu⟩:∃ u,W.getD y 0=u:=⟨_,rfl⟩
              rw[hu]at hcx
              obtain⟨xA,hxA⟩:∃ xA,dA x=xA:=⟨_,rfl⟩
              obtain⟨xB,hxB⟩:∃ xB,dB x=xB:=⟨_,rfl⟩
              rw[hxA,hxB]at d1 k3
              rw[hxA]at dle
              have HE:Hid (∀ V,bd<V.heap.size->CrossAt V bd od C->Calls Try.prog 33 #[.agg #[.slice (some ⟨bd,od,none⟩) C.length cap,.int .i64 loops],.int .i64 xA,.bool xB] V fun e w'=>e=.returned (.agg #[.int .i64 (y:Nat),.int .i64 (ys:Nat)])/\Below V.heap.size V w'):=fun V hV hCV=>by
               have h:=endOf_any bd od cap C loops xA xB V HM.out dle.1 dle.2 hV hCV
               rw[d1]at h
               exact h
              have HF:Hid (∀ w',Below w2.heap.size w2 w'->w'.cell? ⟨w.heap.size,0,none⟩=some (.slice (some ⟨bd,od,none⟩) C.length cap)/\w'.cell? ⟨w.heap.size,1,none⟩=some (.int .i64 loops)/\w'.cell? ⟨bf,of+i,none⟩=some (.slice (some ⟨gj,0,none⟩) nF cj)/\w'.cell? ⟨gj,0,none⟩=some (.int .i64 (xA:Nat))/\w'.cell? ⟨gj,1,none⟩=some (.bool xB)/\w'.cell? ⟨bw,ow+y,none⟩=some (.int .i64 (u:Nat))):=fun w' hb=>by
               have g:=(hb.block _ (by omega)).trans HT2.out
               rw[HEA.out]at g
               have hw:=HCW.out w' hb y d2
               rw[hu]at hw
               exact⟨block_cell g rfl,block_cell g rfl,bcell hb hbf k0,bcell hb k1 k3.1,bcell hb k1 k3.2,hw⟩
              have HD4:Hid (Below w2.heap.size w2 W4.drew):=HB4'.out.drew
              have HCX:Hid (cntG (headsM C) W up (i+1)=cntG (headsM C) W up i+if u=up then 1 else 0):=hcx
              have hfs:=field_spot
              have i0:(0:Int)<=(i:Int):=by omega
              have i1:(i:Int)<((facesM C).length:Int):=by omega
              have i2:(0:Int)<(nF:Int):=by omega
              have i3:(0:Int)<=(y:Int):=by omega
              have i4:(y:Int)<(C.length:Int):=by omega
              clear k0 k1 k2 k3 l1 l2 hcx hnF hx hy hys hu hxA hxB d1 d3 dle hx12
              go_wp2
              obtain⟨t0,t1,t2,t3,t4,t5⟩:=HF.out W4 HB4'.out
              go_region_held3 (fun w' => w'.cell? ⟨w.heap.size, 0, none⟩ = some (.slice (some ⟨bd, od, none⟩) C.length cap) ∧ w'.cell? ⟨w.heap.size, 1, none⟩ = some (.int .i64 loops) ∧ w'.cell? ⟨bf, of + i, none⟩ = some (.slice (some ⟨gj, 0, none⟩) nF cj) ∧ w'.cell? ⟨gj, 0, none⟩ = some (.int .i64 (xA : Nat)) ∧ w'.cell? ⟨gj, 1, none⟩ = some (.bool xB) ∧ w'.cell? ⟨bw, ow + y, none⟩ = some (.int .i64 (u : Nat))) (first | exact HF.out _ HB4.out | exact HF.out _ HD4.out) (first
               | (go_at_call 33; refine (HE.out W4.drew (HCC.out _ HD4.out).2 (HCC.out _ HD4.out).1).mono ?_; rintro e9 w4 ⟨rfl, hb4⟩
                  have HB4:Hid (Below w2.heap.size w2 w4):=HD4.out.trans (hb4.mono HD4.out.size)
                  clear hb4))
              all_goals
               clear t0 t1 t2 t3 t4 t5 hfs
               have hs4':=HB4.out.size
               by_cases hwu:u=up
               · rw[if_pos hwu]at HCX
                 have hde:((u:Int)==(up:Int))=true:=by simp only[beq_iff_eq];omega
                 go_wp2
                 go_roundw
                 case rel=>exact⟨i+1,by omega,by go_num,by rw[HCX.out];congr 1;omega,HB4.out⟩
                 case measure=>simp only[intOf];omega
               · rw[if_neg hwu]at HCX
                 have hde:((u:Int)==(up:Int))=false:=by simp only[beq_eq_false_iff_ne];omega
                 go_wp2
                 go_roundw
                 case rel=>exact⟨i+1,by omega,by go_num,by rw[HCX.out];rfl,HB4.out⟩
                 case measure=>simp only[intOf];omega
            · obtain rfl:i=(facesM C).length:=by omega
              obtain⟨m,hm⟩:∃ m,((cntG (headsM C) W up (facesM C).length:Int) - (cntN W up C.length:Int))=m:=⟨_,rfl⟩
              have HEX:Hid (exN C.length (headsM C) W up=m):=(by rw[ex_cnt,headsM_len];exact hm:exN C.length (headsM C) W up=m)
              rw[hm]
              clear hm
              by_cases hm2:m=2
              · have hde:(m != 2)=false:=by simp[hm2]
                have HM2:Hid (m=2):=hm2
                clear hm2
                go_wp2
                go_roundw
                case rel=>
                 refine⟨up+1,by omega,by go_num,(fun q hq1 e=>?_:∀ q,q<up+1->W.getD q 0=q->exN C.length (headsM C) W q=2),HB4'.out⟩
                 by_cases e2:q=up
                 · rw[e2,HEX.out];exact HM2.out
                 · exact hq.out q (by omega) e
                case measure=>simp only[intOf];omega
              · have hde:(m != 2)=true:=by simp[hm2]
                have HPB : Hid (planarB C = false) := (by
                 cases hb:planarB C with
                 |false=>rfl
                 |true=>
                  have h:=(planarB_iff C).1 hb up (by omega) (by rw[<-HLE.out];exact HUP.out)
                  rw[<-HLE.out,HEX.out]at h
                  exact absurd h hm2:planarB C=false)
                clear hm2
                go_wp2
                go_ret
                exact⟨by rw[HPB.out];rfl,HWB.out.trans (HB4'.out.mono HWB.out.size)⟩
      · have hne:((up:Int) != (p:Int))=true:=by simp only[bne_iff_ne];omega
        have hne2:((up:Int)==(p:Int))=false:=by simp only[beq_eq_false_iff_ne];omega
        go_wp2
        go_roundw
        case rel=>
         refine⟨p+1,by omega,by go_num,(fun q hq1 e=>?_:∀ q,q<p+1->W.getD q 0=q->exN C.length (headsM C) W q=2),HB.out⟩
         by_cases e2:q=p
         · rw[e2,HUP.out]at e;exact absurd e hwp
         · exact hq.out q (by omega) e
        case measure=>simp only[intOf];omega
    · obtain rfl:p=C.length:=by omega
      have HPB:Hid (planarB C=true):=((planarB_iff C).2 fun q hq1 e=>by rw[<-HLE.out]at e ⊢;exact hq.out q hq1 e:planarB C=true)
      go_wp2
      go_ret
      exact⟨by rw[HPB.out];rfl,HWB.out.trans (HB.out.mono HWB.out.size)⟩
end Go.Proofs.Ytefooihnoajnlaa
