/- Several texts of the proof, one behind the other. -/
import Derived.Test.YtgagenmkpmmpfaaTL10P
import Derived.Test.YtgagenmkpmmpfaaF1P
import Derived.Test.YtgagenmkpmmpfaaO0P
import Derived.Test.YtgagenmkpmmpfaaTL2P
/- The walk of tangle.passed.told. -/
namespace Go.Proofs.Ytgagenmkpmmpfaa
open Go.RowKit Go.Maps
set_option maxHeartbeats 8000000
set_option maxRecDepth 100000
theorem told_any (a0 a1 a2 a3 : Int) (be ab : Nat) (w : World) (hbe : be < 4) (hab : ab < 4) :
    Calls Try.prog 29 #[.agg #[.int .i64 a0,.int .i64 a1,.int .i64 a2,.int .i64 a3,.int .i64 (be:Nat),.int .i64 (ab:Nat)]] w fun e w'=>∃ x:Cr,x=turn ⟨a0,a1,a2,a3,decide ((ab+1)%4=be)⟩ be/\e=.returned (.agg #[.int .i64 x.a,.int .i64 x.b,.int .i64 x.c,.int .i64 x.d,.bool x.plus])/\Below w.heap.size w w':=by
 obtain⟨Y,hY⟩:∃ Y,Y=((w.alloc (.cells #[.int .i64 a0,.int .i64 a1,.int .i64 a2,.int .i64 a3,.int .i64 (be:Nat),.int .i64 (ab:Nat)] 76)).alloc (.cells #[.int .i64 0,.int .i64 0,.int .i64 0,.int .i64 0,.bool false] 78)).alloc (.cells #[.int .i64 a0,.int .i64 a1,.int .i64 a2,.int .i64 a3,.bool false] 78):=⟨_,rfl⟩
 have HY:Hid (Y=((w.alloc (.cells #[.int .i64 a0,.int .i64 a1,.int .i64 a2,.int .i64 a3,.int .i64 (be:Nat),.int .i64 (ab:Nat)] 76)).alloc (.cells #[.int .i64 0,.int .i64 0,.int .i64 0,.int .i64 0,.bool false] 78)).alloc (.cells #[.int .i64 a0,.int .i64 a1,.int .i64 a2,.int .i64 a3,.bool false] 78)):=hY
 have hsY:Y.heap.size=w.heap.size+3:=by rw[hY];simp
 have HBY:Hid (Below w.heap.size w Y):=(by rw[hY];exact(((Below.refl _ _).alloc (Nat.le_refl _) _).alloc (by simp) _).alloc (by simp;omega) _:Below w.heap.size w Y)
 have t0:Y.heap[w.heap.size]?=some (.cells #[.int .i64 a0,.int .i64 a1,.int .i64 a2,.int .i64 a3,.int .i64 (be:Nat),.int .i64 (ab:Nat)] 76 (0,0)):=by
  rw[hY,box_low _ _ (by simp;omega),box_low _ _ (by simp)];exact box_at _ _
 have t1:Y.heap[w.heap.size+1]?=some (.cells #[.int .i64 0,.int .i64 0,.int .i64 0,.int .i64 0,.bool false] 78 (0,0)):=by
  rw[hY,box_low _ _ (by simp)]
  have:=box_at (w.alloc (.cells #[.int .i64 a0,.int .i64 a1,.int .i64 a2,.int .i64 a3,.int .i64 (be:Nat),.int .i64 (ab:Nat)] 76)) (.cells #[.int .i64 0,.int .i64 0,.int .i64 0,.int .i64 0,.bool false] 78)
  simpa using this
 have t2:Y.heap[w.heap.size+1+1]?=some (.cells #[.int .i64 a0,.int .i64 a1,.int .i64 a2,.int .i64 a3,.bool false] 78 (0,0)):=by
  have:=box_at ((w.alloc (.cells #[.int .i64 a0,.int .i64 a1,.int .i64 a2,.int .i64 a3,.int .i64 (be:Nat),.int .i64 (ab:Nat)] 76)).alloc (.cells #[.int .i64 0,.int .i64 0,.int .i64 0,.int .i64 0,.bool false] 78)) (.cells #[.int .i64 a0,.int .i64 a1,.int .i64 a2,.int .i64 a3,.bool false] 78)
  rw[hY]
  simpa using this
 have p4:Y.cell? ⟨w.heap.size,4,none⟩=some (.int .i64 (be:Nat)):=block_cell t0 rfl
 have p5:Y.cell? ⟨w.heap.size,5,none⟩=some (.int .i64 (ab:Nat)):=block_cell t0 rfl
 have q4:Y.cell? ⟨w.heap.size+1+1,4,none⟩=some (.bool false):=block_cell t2 rfl
 have z4:Y.frozen? ⟨w.heap.size+1+1,4,none⟩=false:=froz t2
 have er:((ab:Int)+1).tmod 4=(((ab+1)%4:Nat):Int):=rfl
 obtain⟨r,hr⟩:∃ r,(ab+1)%4=r:=⟨_,rfl⟩
 rw[hr]at er ⊢
 have hr4:r<4:=by omega
 have HPL : Hid (((r : Int) == (be : Int)) = decide (r = be)) := (by
  by_cases e:r=be
  · rw[decide_eq_true e,e];simp
  · rw[decide_eq_false e];simp;omega:((r:Int)==(be:Int))=decide (r=be))
 obtain⟨V,hV⟩:∃ V,V=Y.setCell ⟨w.heap.size+1+1,4,none⟩ (.bool ((r:Int)==(be:Int))):=⟨_,rfl⟩
 have HV:Hid (V=Y.setCell ⟨w.heap.size+1+1,4,none⟩ (.bool ((r:Int)==(be:Int)))):=hV
 have hgV:Y.grownBy V (some (w.heap.size+1+1)):=by rw[hV];exact set_grown _ _ _ _
 have v2:V.heap[w.heap.size+1+1]?=some (.cells #[.int .i64 a0,.int .i64 a1,.int .i64 a2,.int .i64 a3,.bool (decide (r=be))] 78 (0,0)):=by rw[hV,set_block t2,HPL.out];rfl
 have v0:V.heap[w.heap.size]?=some (.cells #[.int .i64 a0,.int .i64 a1,.int .i64 a2,.int .i64 a3,.int .i64 (be:Nat),.int .i64 (ab:Nat)] 76 (0,0)):=(hgV.block _ (by omega) (fun e=>by have:w.heap.size=w.heap.size+1+1:=Option.some.inj e;omega)).trans t0
 have HV1:Hid (V.heap[w.heap.size+1]?=some (.cells #[.int .i64 0,.int .i64 0,.int .i64 0,.int .i64 0,.bool false] 78 (0,0))):=(hgV.block _ (by omega) (fun e=>by have:w.heap.size+1=w.heap.size+1+1:=Option.some.inj e;omega)).trans t1
 have HBV:Hid (Below w.heap.size w V):=HBY.out.grown hgV (by omega) (fun q hq=>by have:=Option.some.inj hq;omega)
 generalize decide (r=be)=pl at v2 ⊢
 have c0:V.cell? ⟨w.heap.size+1+1,0,none⟩=some (.int .i64 a0):=block_cell v2 rfl
 have c1:V.cell? ⟨w.heap.size+1+1,1,none⟩=some (.int .i64 a1):=block_cell v2 rfl
 have c2:V.cell? ⟨w.heap.size+1+1,2,none⟩=some (.int .i64 a2):=block_cell v2 rfl
 have c3:V.cell? ⟨w.heap.size+1+1,3,none⟩=some (.int .i64 a3):=block_cell v2 rfl
 have c4:V.cell? ⟨w.heap.size+1+1,4,none⟩=some (.bool pl):=block_cell v2 rfl
 have d4:V.cell? ⟨w.heap.size,4,none⟩=some (.int .i64 (be:Nat)):=block_cell v0 rfl
 have hsV:V.heap.size=w.heap.size+3:=by rw[hV];simpa using hsY
 have HTN:Hid (∀ W,Calls Try.prog 47 #[.agg #[.int .i64 a0,.int .i64 a1,.int .i64 a2,.int .i64 a3,.bool pl],.int .i64 (be:Nat)] W fun e w'=>e=.returned (.agg #[.int .i64 (turn ⟨a0,a1,a2,a3,pl⟩ be).a,.int .i64 (turn ⟨a0,a1,a2,a3,pl⟩ be).b,.int .i64 (turn ⟨a0,a1,a2,a3,pl⟩ be).c,.int .i64 (turn ⟨a0,a1,a2,a3,pl⟩ be).d,.bool pl])/\Below W.heap.size W w'):=fun W=>turned_any ⟨a0,a1,a2,a3,pl⟩ be W hbe
 have HTP:Hid ((turn ⟨a0,a1,a2,a3,pl⟩ be).plus=pl):=(rfl:(turn ⟨a0,a1,a2,a3,pl⟩ be).plus=pl)
 generalize turn ⟨a0,a1,a2,a3,pl⟩ be=x at HTN HTP ⊢
 clear hY hV hr t0 t1 t2 v2 v0 hgV
 go_enter Try.func29,Try.ntmps29
 go_upto_region 2 with(fail)
 rw[<-HY.out]
 go_upto_region 3 with(fail)
 rw[<-HV.out]
 clear p4 p5 q4 z4 hsY
 go_wp2_with (go_at_call 47;refine(HTN.out _).mono ?_;rintro e9 w5 ⟨rfl,hb5⟩;refine Hid.out ?_)
 refine Lib.hid ?_
 have g1:=(hb5.block _ (by omega)).trans HV1.out
 have HB5:Hid (Below w.heap.size w w5):=HBV.out.trans (hb5.mono HBV.out.size)
 have hs5:=hb5.size
 clear hb5 c0 c1 c2 c3 c4 d4
 have u0:w5.cell? ⟨w.heap.size+1,0,none⟩=some (.int .i64 0):=block_cell g1 rfl
 have u1:w5.cell? ⟨w.heap.size+1,1,none⟩=some (.int .i64 0):=block_cell g1 rfl
 have u2:w5.cell? ⟨w.heap.size+1,2,none⟩=some (.int .i64 0):=block_cell g1 rfl
 have u3:w5.cell? ⟨w.heap.size+1,3,none⟩=some (.int .i64 0):=block_cell g1 rfl
 have u4:w5.cell? ⟨w.heap.size+1,4,none⟩=some (.bool false):=block_cell g1 rfl
 have y0:w5.frozen? ⟨w.heap.size+1,0,none⟩=false:=froz g1
 have y1:w5.frozen? ⟨w.heap.size+1,1,none⟩=false:=froz g1
 have y2:w5.frozen? ⟨w.heap.size+1,2,none⟩=false:=froz g1
 have y3:w5.frozen? ⟨w.heap.size+1,3,none⟩=false:=froz g1
 have y4:w5.frozen? ⟨w.heap.size+1,4,none⟩=false:=froz g1
 have HG1:Hid (w5.heap[w.heap.size+1]?=some (.cells #[.int .i64 0,.int .i64 0,.int .i64 0,.int .i64 0,.bool false] 78 (0,0))):=g1
 clear g1
 go_wp2
 obtain⟨Z,hZ⟩:∃ Z,Z=((((w5.setCell ⟨w.heap.size+1,0,none⟩ (.int .i64 x.a)).setCell ⟨w.heap.size+1,1,none⟩ (.int .i64 x.b)).setCell ⟨w.heap.size+1,2,none⟩ (.int .i64 x.c)).setCell ⟨w.heap.size+1,3,none⟩ (.int .i64 x.d)).setCell ⟨w.heap.size+1,4,none⟩ (.bool pl):=⟨_,rfl⟩
 have hZB:Z.heap[w.heap.size+1]?=some (.cells #[.int .i64 x.a,.int .i64 x.b,.int .i64 x.c,.int .i64 x.d,.bool pl] 78 (0,0)):=by rw[hZ,set_block (set_block (set_block (set_block (set_block HG1.out))))];rfl
 have hgZ:w5.grownBy Z (some (w.heap.size+1)):=by rw[hZ];exact grown_two (grown_two (grown_two (grown_two (set_grown _ _ _ _) (set_grown _ _ _ _)) (set_grown _ _ _ _)) (set_grown _ _ _ _)) (set_grown _ _ _ _)
 rw[<-hZ]
 have x0:Z.cell? ⟨w.heap.size+1,0,none⟩=some (.int .i64 x.a):=block_cell hZB rfl
 have x1:Z.cell? ⟨w.heap.size+1,1,none⟩=some (.int .i64 x.b):=block_cell hZB rfl
 have x2:Z.cell? ⟨w.heap.size+1,2,none⟩=some (.int .i64 x.c):=block_cell hZB rfl
 have x3:Z.cell? ⟨w.heap.size+1,3,none⟩=some (.int .i64 x.d):=block_cell hZB rfl
 have x4:Z.cell? ⟨w.heap.size+1,4,none⟩=some (.bool pl):=block_cell hZB rfl
 refine bodyPost_ret (v:=.agg #[.int .i64 x.a,.int .i64 x.b,.int .i64 x.c,.int .i64 x.d,.bool pl]) (by simp[results,Try.results29,go_sem,x0,x1,x2,x3,x4]) rfl ⟨x,rfl,by rw[HTP.out],HB5.out.grown hgZ (by omega) (fun q hq=>by have:=Option.some.inj hq;omega)⟩
end Go.Proofs.Ytgagenmkpmmpfaa
/- The walk of tangle.walked. -/
namespace Go.Proofs.Ytgagenmkpmmpfaa
open Go.RowKit Go.Maps
set_option maxHeartbeats 16000000
set_option maxRecDepth 100000
theorem infoPassed:(Try.prog.info? 76).map (fun i=>(i.zero,i.size,i.bytes))=some (some (.agg #[.int .i64 0,.int .i64 0,.int .i64 0,.int .i64 0,.int .i64 0,.int .i64 0]),6,48):=by kernel_rfl
theorem cellF_nil (U:Nat->Nat) (j:Nat):cellF U [] j=0:=by
 unfold cellF FL dBt
 simp
theorem made_passed (n:Nat) (U:Nat->Nat):(madeCells (Value.agg #[.int .i64 0,.int .i64 0,.int .i64 0,.int .i64 0,.int .i64 0,.int .i64 0]).cells (n*6)).toList=intsV (mapI (6*n) (cellF U [])):=by
 rw[mapI_zero _ _ (fun j _=>cellF_nil U j)]
 apply List.ext_getElem?
 intro j
 by_cases hj:j<n*6
 · have h6:j%6=0∨j%6=1∨j%6=2∨j%6=3∨j%6=4∨j%6=5:=by omega
   have e1:(intsV (List.replicate (6*n) 0))[j]?=some (.int .i64 0):=by
    have:j<6*n:=by omega
    simp[intsV,this]
   rw[e1]
   simp only[madeCells,Value.cells]
   rcases h6 with h|h|h|h|h|h<;>simp[hj,h]
 · rw[List.getElem?_eq_none (by simp[madeCells];omega),List.getElem?_eq_none (by simp[intsV];omega)]
theorem made_crossesT (n:Nat):(madeCells (Value.agg #[.int .i64 0,.int .i64 0,.int .i64 0,.int .i64 0,.bool false]).cells (n*5)).toList=crossCells (List.replicate n Cr.none):=by
 apply List.ext_getElem?
 intro j
 by_cases hj:j<n*5
 · have hi:j / 5<(List.replicate n Cr.none).length:=by simp;omega
   have g:=cells_get (List.replicate n Cr.none) (j / 5) hi
   have hz:(List.replicate n Cr.none).getD (j / 5) Cr.none=Cr.none:=by rw[List.getD_eq_getElem?_getD,List.getElem?_replicate];split<;>rfl
   rw[hz]at g
   have h5:j%5=0∨j%5=1∨j%5=2∨j%5=3∨j%5=4:=by omega
   simp only[madeCells,Value.cells]
   rcases h5 with h|h|h|h|h
   · rw[show j=j / 5*5 by omega,g.1,<-show j=j / 5*5 by omega];simp[hj,h,Cr.none]
   · rw[show j=j / 5*5+1 by omega,g.2.1,<-show j=j / 5*5+1 by omega];simp[hj,h,Cr.none]
   · rw[show j=j / 5*5+2 by omega,g.2.2.1,<-show j=j / 5*5+2 by omega];simp[hj,h,Cr.none]
   · rw[show j=j / 5*5+3 by omega,g.2.2.2.1,<-show j=j / 5*5+3 by omega];simp[hj,h,Cr.none]
   · rw[show j=j / 5*5+4 by omega,g.2.2.2.2,<-show j=j / 5*5+4 by omega];simp[hj,h,Cr.none]
 · rw[List.getElem?_eq_none (by simp[madeCells];omega),List.getElem?_eq_none (by rw[cells_length];simp;omega)]
def lkX (U:Nat->Nat) (L:List Nat) (c:Nat):Cr:=turn ⟨FL U L (4*c+4),FL U L (4*c+5),FL U L (4*c+6),FL U L (4*c+7),decide (((dBt L c 1).toNat+1)%4=(dBt L c 0).toNat)⟩ (dBt L c 0).toNat
def lkC (n:Nat) (U:Nat->Nat):List Cr:=(List.range n).map (lkX U (goC n U n))
def lkTo (n:Nat) (U:Nat->Nat) (k:Nat):List Cr:=(List.range n).map fun c=>if c<k then lkX U (goC n U n) c else Cr.none
theorem lkTo_len (n:Nat) (U:Nat->Nat) (k:Nat):(lkTo n U k).length=n:=by simp[lkTo]
theorem lkTo_zero (n:Nat) (U:Nat->Nat):List.replicate n Cr.none=lkTo n U 0:=by
 apply List.ext_getElem?
 intro j
 by_cases hj:j<n
 · simp[lkTo,hj]
 · rw[List.getElem?_eq_none (by simp;omega),List.getElem?_eq_none (by rw[lkTo_len];omega)]
theorem lkTo_next (n:Nat) (U:Nat->Nat) (k:Nat):(lkTo n U k).set k (lkX U (goC n U n) k)=lkTo n U (k+1):=by
 apply List.ext_getElem?
 intro j
 by_cases hj:j<n
 · rw[List.getElem?_set,lkTo_len]
   by_cases e:k=j
   · subst e;simp[lkTo,hj]
   · rw[if_neg e]
     simp only[lkTo,List.getElem?_map,List.getElem?_range hj,Option.map_some]
     by_cases h1:j<k
     · rw[if_pos h1,if_pos (by omega)]
     · rw[if_neg h1,if_neg (by omega)]
 · rw[List.getElem?_eq_none (by simp[lkTo_len];omega),List.getElem?_eq_none (by rw[lkTo_len];omega)]
theorem lkTo_all (n:Nat) (U:Nat->Nat):lkTo n U n=lkC n U:=by
 unfold lkTo lkC
 exact List.map_congr_left fun c hc=>by rw[if_pos (List.mem_range.1 hc)]
theorem dB_nat (L:List Nat) (c k:Nat) (hk:k<2):dBt L c k=((dBt L c k).toNat:Int)/\(dBt L c k).toNat<4:=by
 unfold dBt
 split
 · omega
 · split<;>omega
theorem cellF_at (U:Nat->Nat) (L:List Nat) (c r:Nat) (hr:r<4):cellF U L (c*6+r)=FL U L (4*c+4+r):=by
 unfold cellF
 rw[show(c*6+r)%6=r by omega,show(c*6+r) / 6=c by omega,if_pos hr]
theorem cellF_d (U:Nat->Nat) (L:List Nat) (c k:Nat) (hk:k<2):cellF U L (c*6+4+k)=dBt L c k:=by
 unfold cellF
 rw[show(c*6+4+k)%6=4+k by omega,show(c*6+4+k) / 6=c by omega,if_neg (by omega),show 4+k-4=k by omega]
theorem walked_any (b m n : Nat) (U : Nat → Nat) (w : World) (hU : Ties n U) (hn : n ≤ 16) (hM : MapT w b m (SpT n) U) :
    Calls Try.prog 16 #[.map (some b),.int .i64 (n:Nat)] w fun e w'=>∃ g,e=.returned (.slice (some ⟨g,0,none⟩) n n)/\w.heap.size<=g/\w'.ownsRow g 78 5 (.slice (some ⟨g,0,none⟩) n n) n (crossCells (lkC n U))/\Below w.heap.size w w':=by
 have HU:Hid (Ties n U):=hU
 have HM0:Hid (MapT w b m (SpT n) U):=hM
 obtain⟨i6,hk,hx0,hx1,hx2⟩:=info_parts infoPassed
 obtain⟨i5,hj,hy0,hy1,hy2⟩:=info_parts infoCross
 have hbw:=hM.lt
 have HRS:Hid (∀ k,k<=n->Rest n U (goC n U k)):=fun k hk=>(goC_rest hU k hk).1
 clear hU hM
 go_enter Try.func16,Try.ntmps16
 go_wp2_with (first|(at_make;refine wpList_make_full _ rfl _ _ 70 rfl w.heap.size 76 i6 (.agg #[.int .i64 0,.int .i64 0,.int .i64 0,.int .i64 0,.int .i64 0,.int .i64 0]) 6 Try.underlying70 hk hx0 hx1 .i64 .i64 _ _ n rfl rfl rfl rfl (by rw[hx2];omega) (by unfold maxLen;omega) (by simp) ?_;intro w1 hrow hg1;refine Hid.out ?_))
 refine Lib.hid ?_
 rw[made_passed n U]at hrow
 have HR1:Hid (w1.ownsRow w.heap.size 76 6 (.slice (some ⟨w.heap.size,0,none⟩) n n) n (intsV (mapI (6*n) (cellF U [])))):=hrow
 have HG1:Hid (w.grownBy w1 none):=hg1
 clear hrow hg1
 go_upto_region 2 with(fail)
 obtain⟨Y,hY⟩:∃ Y,Y=w1.alloc (.cells #[.map (some b),.slice (some ⟨w.heap.size,0,none⟩) n n,.int .i64 0] 72):=⟨_,rfl⟩
 rw[<-hY]
 have hgY:w1.grownBy Y none:=by rw[hY];exact World.grownBy_alloc _ _ _
 have HS0:Hid (WlkSt w1.heap.size w.heap.size b w.heap.size m n U ((goC n U 0).length:Nat) (mapI (6*n) (cellF U (goC n U 0))) Y):=⟨(by rw[hY];exact box_at _ _),own_any HR1.out hgY,(HM0.out.kept HG1.out (by simp)).kept hgY (by simp)⟩
 have HB0:Hid (Below w.heap.size w Y/\w.heap.size<=Y.heap.size):=⟨((Below.refl w.heap.size w).grown HG1.out (Nat.le_refl _) (fun q hq=>by cases hq)).grown hgY HG1.out.size (fun q hq=>by cases hq),Nat.le_trans HG1.out.size hgY.size⟩
 have hgW:w.heap.size<=w1.heap.size:=HG1.out.size
 generalize w1.heap.size=gW at HS0 hgW ⊢
 clear hY hgY HR1 HG1 HM0
 have d1:Y.cell? ⟨gW,1,none⟩=some (.slice (some ⟨w.heap.size,0,none⟩) n n):=block_cell HS0.out.box rfl
 have l1:=(Array.getElem?_eq_some_iff.1 HS0.out.box).1
 go_wp2
 go_loopw [17] (fun v17 wr=>∃ k:Nat,k<=n/\v17=.int .i64 (k:Nat)/\Hid (WlkSt gW w.heap.size b w.heap.size m n U ((goC n U k).length:Nat) (mapI (6*n) (cellF U (goC n U k))) wr)/\Hid (Below w.heap.size w wr/\w.heap.size<=wr.heap.size)) (fun v17 _=>n-(intOf v17).toNat)
 case atStart=>exact⟨0,Nat.zero_le _,rfl,HS0.out,HB0.out⟩
 case round=>
  clear HS0 HB0 d1 l1
  rename World=>W1
  obtain⟨k,hkn,rfl,hst,hbl⟩:=hrel
  by_cases hkl:k<n
  · have HW1 : Hid (Calls Try.prog 28 #[.pointer (some ⟨gW, 0, none⟩), .agg #[.int .i64 (k : Nat), .int .i64 0]] W1 fun r w' => r = .returned (.tuple #[]) ∧ WlkSt gW w.heap.size b w.heap.size m n U ((goS n U (goC n U k) (4 * k + 4)).length : Nat) (mapI (6 * n) (cellF U (goS n U (goC n U k) (4 * k + 4)))) w' ∧ Below w.heap.size w w') := (by
      have hsp:SpT n (4*k+4):=by unfold SpT;omega
      have h1:=walk_any gW w.heap.size b w.heap.size m n (4*k+4) U (goC n U k) w W1 HU.out hn (HRS.out k hkn) hsp hgW (Nat.le_refl _) hst.out hbl.out.1 hbl.out.2
      rw[spV_at hsp,show(4*k+4) / 4-1=k by omega,show(4*k+4)%4=0 by omega]at h1
      exact h1)
    have HW2:Hid (∀ W,WlkSt gW w.heap.size b w.heap.size m n U ((goS n U (goC n U k) (4*k+4)).length:Nat) (mapI (6*n) (cellF U (goS n U (goC n U k) (4*k+4)))) W->Below w.heap.size w W->w.heap.size<=W.heap.size->Calls Try.prog 28 #[.pointer (some ⟨gW,0,none⟩),.agg #[.int .i64 (k:Nat),.int .i64 1]] W fun r w'=>r=.returned (.tuple #[])/\WlkSt gW w.heap.size b w.heap.size m n U ((goC n U (k+1)).length:Nat) (mapI (6*n) (cellF U (goC n U (k+1)))) w'/\Below w.heap.size w w'):=fun W hs hb hbs=>by
     have hsp:SpT n (4*k+4):=by unfold SpT;omega
     have hsp2:SpT n (4*k+5):=by unfold SpT;omega
     have h1:=walk_any gW w.heap.size b w.heap.size m n (4*k+5) U (goS n U (goC n U k) (4*k+4)) w W HU.out hn (goS_rest HU.out (HRS.out k hkn) hsp).1 hsp2 hgW (Nat.le_refl _) hs hb hbs
     rw[spV_at hsp2,show(4*k+5) / 4-1=k by omega,show(4*k+5)%4=1 by omega]at h1
     exact h1
    go_upto_region 6 with(go_at_call 28;refine HW1.out.mono ?_;rintro e9 w3 ⟨rfl,hs3,hb3⟩)
    have HS3:Hid (WlkSt gW w.heap.size b w.heap.size m n U ((goS n U (goC n U k) (4*k+4)).length:Nat) (mapI (6*n) (cellF U (goS n U (goC n U k) (4*k+4)))) w3/\Below w.heap.size w w3/\w.heap.size<=w3.heap.size):=⟨hs3,hb3,hb3.size⟩
    clear hs3 hb3
    go_wp2_with (go_at_call 28;refine(HW2.out _ HS3.out.1 HS3.out.2.1 HS3.out.2.2).mono ?_;rintro e9 w4 ⟨rfl,hs4,hb4⟩;refine Hid.out ?_)
    refine Lib.hid ?_
    have HS4:Hid (WlkSt gW w.heap.size b w.heap.size m n U ((goC n U (k+1)).length:Nat) (mapI (6*n) (cellF U (goC n U (k+1)))) w4/\Below w.heap.size w w4/\w.heap.size<=w4.heap.size):=⟨hs4,hb4,hb4.size⟩
    clear hs4 hb4
    go_wp2
    go_roundw
    case rel=>exact⟨k+1,by omega,by go_num,HS4.out.1,HS4.out.2⟩
    case measure=>simp only[intOf];omega
  · obtain rfl:n=k:=by omega
    obtain⟨L,hL⟩:∃ L,goC n U n=L:=⟨_,rfl⟩
    have HL:Hid (goC n U n=L):=hL
    rw[hL]at hst
    have HLX:Hid (∀ c,lkX U (goC n U n) c=lkX U L c):=fun c=>by rw[hL]
    have HNXT:Hid (∀ k,(lkTo n U k).set k (lkX U L k)=lkTo n U (k+1)):=fun k=>by rw[<-hL];exact lkTo_next n U k
    clear hL HRS hkl hkn
    go_wp2_with (first|(at_make;refine wpList_make_full _ rfl _ _ 27 rfl W1.heap.size 78 i5 (.agg #[.int .i64 0,.int .i64 0,.int .i64 0,.int .i64 0,.bool false]) 5 Try.underlying27 hj hy0 hy1 .i64 .i64 _ _ n rfl rfl rfl rfl (by rw[hy2];omega) (by unfold maxLen;omega) (by simp) ?_;intro w5 hrow hg5;refine Hid.out ?_))
    refine Lib.hid ?_
    rw[made_crossesT n,lkTo_zero n U]at hrow
    have HR5:Hid (w5.ownsRow W1.heap.size 78 5 (.slice (some ⟨W1.heap.size,0,none⟩) n n) n (crossCells (lkTo n U 0))):=hrow
    have HS5:Hid (WlkSt gW w.heap.size b w.heap.size m n U (L.length:Nat) (mapI (6*n) (cellF U L)) w5):=hst.out.any hg5
    have HB5:Hid (Below w.heap.size w w5/\w.heap.size<=w5.heap.size):=⟨hbl.out.1.grown hg5 hbl.out.2 (fun q hq=>by cases hq),Nat.le_trans hbl.out.2 hg5.size⟩
    have hgl:w.heap.size<=W1.heap.size:=hbl.out.2
    generalize W1.heap.size=g7 at HR5 hgl ⊢
    clear hrow hg5 hst hbl
    have d1:w5.cell? ⟨gW,1,none⟩=some (.slice (some ⟨w.heap.size,0,none⟩) n n):=block_cell HS5.out.box rfl
    have l1:=(Array.getElem?_eq_some_iff.1 HS5.out.box).1
    go_wp2
    go_loopw [32] (fun v32 wr=>∃ k:Nat,k<=n/\v32=.int .i64 (k:Nat)/\Hid (WlkSt gW w.heap.size b w.heap.size m n U (L.length:Nat) (mapI (6*n) (cellF U L)) wr)/\Hid (wr.ownsRow g7 78 5 (.slice (some ⟨g7,0,none⟩) n n) n (crossCells (lkTo n U k)))/\Hid (Below w.heap.size w wr/\w.heap.size<=wr.heap.size)) (fun v32 _=>n-(intOf v32).toNat)
    case atStart=>exact⟨0,Nat.zero_le _,rfl,HS5.out,HR5.out,HB5.out⟩
    case round=>
     clear HS5 HB5 HR5 d1 l1
     rename World=>W2
     obtain⟨k,hkn,rfl,hst,hrw,hbl⟩:=hrel
     by_cases hkl:k<n
     · obtain⟨n0,n1⟩:=dB_nat L k 0 (by omega)
       obtain⟨n2,n3⟩:=dB_nat L k 1 (by omega)
       have e0:=hst.out.rowCell (k*6) (by omega)
       have e1:=hst.out.rowCell (k*6+1) (by omega)
       have e2:=hst.out.rowCell (k*6+2) (by omega)
       have e3:=hst.out.rowCell (k*6+3) (by omega)
       have e4:=hst.out.rowCell (k*6+4) (by omega)
       have e5:=hst.out.rowCell (k*6+5) (by omega)
       rw[mapI_at _ _ _ (by omega)]at e0 e1 e2 e3 e4 e5
       rw[show cellF U L (k*6)=FL U L (4*k+4) from cellF_at U L k 0 (by omega)]at e0
       rw[show cellF U L (k*6+1)=FL U L (4*k+5) from cellF_at U L k 1 (by omega)]at e1
       rw[show cellF U L (k*6+2)=FL U L (4*k+6) from cellF_at U L k 2 (by omega)]at e2
       rw[show cellF U L (k*6+3)=FL U L (4*k+7) from cellF_at U L k 3 (by omega)]at e3
       rw[show cellF U L (k*6+4)=dBt L k 0 from cellF_d U L k 0 (by omega),n0]at e4
       rw[show cellF U L (k*6+5)=dBt L k 1 from cellF_d U L k 1 (by omega),n2]at e5
       have HX:Hid (lkX U L k=turn ⟨FL U L (4*k+4),FL U L (4*k+5),FL U L (4*k+6),FL U L (4*k+7),decide (((dBt L k 1).toNat+1)%4=(dBt L k 0).toNat)⟩ (dBt L k 0).toNat):=(rfl:lkX U L k=turn ⟨FL U L (4*k+4),FL U L (4*k+5),FL U L (4*k+6),FL U L (4*k+7),decide (((dBt L k 1).toNat+1)%4=(dBt L k 0).toNat)⟩ (dBt L k 0).toNat)
       have HTD:Hid (∀ W,Calls Try.prog 29 #[.agg #[.int .i64 (FL U L (4*k+4)),.int .i64 (FL U L (4*k+5)),.int .i64 (FL U L (4*k+6)),.int .i64 (FL U L (4*k+7)),.int .i64 ((dBt L k 0).toNat:Nat),.int .i64 ((dBt L k 1).toNat:Nat)]] W fun e w'=>∃ x:Cr,x=lkX U L k/\e=.returned (.agg #[.int .i64 x.a,.int .i64 x.b,.int .i64 x.c,.int .i64 x.d,.bool x.plus])/\Below W.heap.size W w'):=fun W=>by rw[HX.out];exact told_any _ _ _ _ _ _ W n1 n3
       generalize FL U L (4*k+4)=A0 at e0 HTD
       generalize FL U L (4*k+5)=A1 at e1 HTD
       generalize FL U L (4*k+6)=A2 at e2 HTD
       generalize FL U L (4*k+7)=A3 at e3 HTD
       generalize (dBt L k 0).toNat=be at e4 HTD n1
       generalize (dBt L k 1).toNat=ab at e5 HTD n3
       have l2:=(hst.out.row.lt w.heap.size rfl).2
       have hkI:(k:Int)<(n:Int):=by omega
       clear n0 n2 HX
       go_upto_region 12 with(fail)
       obtain⟨Z,hZ⟩:∃ Z,Z=W2.alloc (.cells #[.int .i64 A0,.int .i64 A1,.int .i64 A2,.int .i64 A3,.int .i64 (be:Nat),.int .i64 (ab:Nat)] 76):=⟨_,rfl⟩
       rw[<-hZ]
       have hgZ:W2.grownBy Z none:=by rw[hZ];exact World.grownBy_alloc _ _ _
       have hbz:Z.heap[W2.heap.size]?=some (.cells #[.int .i64 A0,.int .i64 A1,.int .i64 A2,.int .i64 A3,.int .i64 (be:Nat),.int .i64 (ab:Nat)] 76 (0,0)):=by rw[hZ];exact box_at _ _
       have HSZ:Hid (WlkSt gW w.heap.size b w.heap.size m n U (L.length:Nat) (mapI (6*n) (cellF U L)) Z):=hst.out.any hgZ
       have HRZ:Hid (Z.ownsRow g7 78 5 (.slice (some ⟨g7,0,none⟩) n n) n (crossCells (lkTo n U k))):=own_any hrw.out hgZ
       have HBZ:Hid (Below w.heap.size w Z/\w.heap.size<=Z.heap.size):=⟨hbl.out.1.grown hgZ hbl.out.2 (fun q hq=>by cases hq),Nat.le_trans hbl.out.2 hgZ.size⟩
       have lz:W2.heap.size<Z.heap.size:=(Array.getElem?_eq_some_iff.1 hbz).1
       generalize W2.heap.size=g9 at hbz lz ⊢
       have z0:Z.cell? ⟨g9,0,none⟩=some (.int .i64 A0):=block_cell hbz rfl
       have z1:Z.cell? ⟨g9,1,none⟩=some (.int .i64 A1):=block_cell hbz rfl
       have z2:Z.cell? ⟨g9,2,none⟩=some (.int .i64 A2):=block_cell hbz rfl
       have z3:Z.cell? ⟨g9,3,none⟩=some (.int .i64 A3):=block_cell hbz rfl
       have z4:Z.cell? ⟨g9,4,none⟩=some (.int .i64 (be:Nat)):=block_cell hbz rfl
       have z5:Z.cell? ⟨g9,5,none⟩=some (.int .i64 (ab:Nat)):=block_cell hbz rfl
       clear hZ hgZ hbz e0 e1 e2 e3 e4 e5 hst hrw hbl l2
       go_wp2_with (go_at_call 29;refine(HTD.out _).mono ?_;rintro e9 w7 ⟨x,hx,rfl,hb7⟩;have HXX:Hid (x=lkX U L k):=hx;clear hx;refine Hid.out ?_)
       refine Lib.hid ?_
       have HS7:Hid (WlkSt gW w.heap.size b w.heap.size m n U (L.length:Nat) (mapI (6*n) (cellF U L)) w7):=HSZ.out.any (grown_below hb7 none)
       have hr7:w7.ownsRow g7 78 5 (.slice (some ⟨g7,0,none⟩) n n) n (crossCells (lkTo n U k)):=own_any HRZ.out (grown_below hb7 none)
       have HB7:Hid (Below w.heap.size w w7/\w.heap.size<=w7.heap.size):=⟨HBZ.out.1.grown (grown_below hb7 none) HBZ.out.2 (fun q hq=>by cases hq),Nat.le_trans HBZ.out.2 hb7.size⟩
       have hp:=put5R (c:=k) hr7 (by rw[lkTo_len];exact hkl) x
       have hnx:=HNXT.out k
       rw[<-HXX.out]at hnx
       rw[hnx]at hp
       have hcl:(crossCells (lkTo n U k)).length=n*5:=by rw[cells_length,lkTo_len]
       have HP:Hid ((st5R w7 g7 k x).ownsRow g7 78 5 (.slice (some ⟨g7,0,none⟩) n n) n (crossCells (lkTo n U (k+1)))/\w7.grownBy (st5R w7 g7 k x) (some g7)):=hp
       obtain⟨cg0,cg1,cg2,cg3,cg4⟩:=cells_get (lkTo n U k) k (by rw[lkTo_len];exact hkl)
       have v0:=(hr7.cellAt (k*5) (by omega)).trans cg0
       have v1:=(hr7.cellAt (k*5+1) (by omega)).trans cg1
       have v2:=(hr7.cellAt (k*5+2) (by omega)).trans cg2
       have v3:=(hr7.cellAt (k*5+3) (by omega)).trans cg3
       have v4:=(hr7.cellAt (k*5+4) (by omega)).trans cg4
       have y0:w7.frozen? ⟨g7,k*5,none⟩=false:=hr7.frozenAt _
       have y1:w7.frozen? ⟨g7,k*5+1,none⟩=false:=hr7.frozenAt _
       have y2:w7.frozen? ⟨g7,k*5+2,none⟩=false:=hr7.frozenAt _
       have y3:w7.frozen? ⟨g7,k*5+3,none⟩=false:=hr7.frozenAt _
       have y4:w7.frozen? ⟨g7,k*5+4,none⟩=false:=hr7.frozenAt _
       have l7:=(hr7.lt g7 rfl).2
       have HNE : Hid (g7 ≠ gW ∧ g7 ≠ w.heap.size ∧ g7 ≠ b) := (by
        obtain⟨cs,hc7⟩:=row_block hr7
        obtain⟨cs2,hc8⟩:=row_block HS7.out.row
        obtain⟨D,⟨es,clock,hm,-⟩,-⟩:=HS7.out.map
        refine⟨fun e=>?_,fun e=>?_,fun e=>?_⟩
        · rw[e,HS7.out.box]at hc7
          injection hc7 with hc7
          injection hc7 with _ h2
          exact absurd h2 (by decide)
        · rw[e,hc8]at hc7
          injection hc7 with hc7
          injection hc7 with _ h2
          exact absurd h2 (by decide)
        · rw[e,hm]at hc7
          exact absurd hc7 (by simp):g7≠gW/\g7≠w.heap.size/\g7≠b)
       clear hb7 hp hcl hnx cg0 cg1 cg2 cg3 cg4 hr7 z0 z1 z2 z3 z4 z5 lz
       generalize (lkTo n U k).getD k Cr.none=y9 at v0 v1 v2 v3 v4
       go_wp2
       obtain⟨Q,hQ⟩:∃ Q,Q=st5R w7 g7 k x:=⟨_,rfl⟩
       have HFN : Hid (WlkSt gW w.heap.size b w.heap.size m n U (L.length : Nat) (mapI (6 * n) (cellF U L)) Q ∧ Q.ownsRow g7 78 5 (.slice (some ⟨g7, 0, none⟩) n n) n (crossCells (lkTo n U (k + 1))) ∧ Below w.heap.size w Q ∧ w.heap.size ≤ Q.heap.size) := (by
        rw[hQ]
        have hgr:=HP.out.2
        refine⟨⟨(hgr.block _ (Array.getElem?_eq_some_iff.1 HS7.out.box).1 (fun e=>HNE.out.1 (Option.some.inj e).symm)).trans HS7.out.box,HS7.out.row.kept hgr (Or.inr (fun e=>HNE.out.2.1 (Option.some.inj e).symm)),HS7.out.map.kept hgr (fun e=>HNE.out.2.2 (Option.some.inj e).symm)⟩,HP.out.1,below_wk HB7.out.1 HB7.out.2 hgl hgr,Nat.le_trans HB7.out.2 hgr.size⟩)
       unfold st5R at hQ
       rw[<-hQ]
       clear hQ v0 v1 v2 v3 v4 y0 y1 y2 y3 y4
       go_roundw
       case rel=>exact⟨k+1,by omega,by go_num,HFN.out.1,HFN.out.2.1,HFN.out.2.2⟩
       case measure=>simp only[intOf];omega
     · obtain rfl:n=k:=by omega
       have HFN:Hid (W2.ownsRow g7 78 5 (.slice (some ⟨g7,0,none⟩) n n) n (crossCells (lkC n U))/\Below w.heap.size w W2):=⟨by rw[<-lkTo_all];exact hrw.out,hbl.out.1⟩
       go_wp2
       go_ret
       exact⟨g7,rfl,hgl,HFN.out⟩
end Go.Proofs.Ytgagenmkpmmpfaa
/- The walk of tangle.Link. -/
namespace Go.Proofs.Ytgagenmkpmmpfaa
open Go.RowKit Go.Maps
structure Invo (D:Nat->Prop) (T:Nat->Nat):Prop where
 sp:∀ x,D x->D (T x)
 inv:∀ x,D x->T (T x)=x
 ne:∀ x,D x->T x≠x
theorem leadF_invo {D:Nat->Prop} {T:Nat->Nat} {e i o:Nat} (h:Invo D T) (he:D e) (hi:¬ D i) (ho:¬ D o) (hio:i≠o):Invo (fun x=>x=i∨x=o∨D x) (leadF T e i o):=by
 have hTe:=h.sp e he
 have n1:T e≠e:=h.ne e he
 have n2:e≠i:=fun h0=>hi (h0▸he)
 have n3:e≠o:=fun h0=>ho (h0▸he)
 have n4:T e≠i:=fun h0=>hi (h0▸hTe)
 have n5:T e≠o:=fun h0=>ho (h0▸hTe)
 have v:∀ x,leadF T e i o x=if x=o then e else if x=e then o else if x=i then T e else if x=T e then i else T x:=fun x=>rfl
 have vo:leadF T e i o o=e:=by rw[v,if_pos rfl]
 have ve:leadF T e i o e=o:=by rw[v,if_neg n3,if_pos rfl]
 have vi:leadF T e i o i=T e:=by rw[v,if_neg hio,if_neg (Ne.symm n2),if_pos rfl]
 have vt:leadF T e i o (T e)=i:=by rw[v,if_neg n5,if_neg n1,if_neg n4,if_pos rfl]
 have vx:∀ x,D x->x≠e->x≠T e->leadF T e i o x=T x:=fun x hx h1 h2=>by
  have h3:x≠i:=fun h0=>hi (h0▸hx)
  have h4:x≠o:=fun h0=>ho (h0▸hx)
  rw[v,if_neg h4,if_neg h1,if_neg h3,if_neg h2]
 have key:∀ x,(x=i∨x=o∨D x)->(x=i∨x=o∨x=e∨x=T e∨(D x/\x≠e/\x≠T e)):=fun x hx=>by
  rcases hx with h1|h1|h1
  · exact Or.inl h1
  · exact Or.inr (Or.inl h1)
  · by_cases h2:x=e
    · exact Or.inr (Or.inr (Or.inl h2))
    · by_cases h3:x=T e
      · exact Or.inr (Or.inr (Or.inr (Or.inl h3)))
      · exact Or.inr (Or.inr (Or.inr (Or.inr ⟨h1,h2,h3⟩)))
 refine⟨fun x hx=>?_,fun x hx=>?_,fun x hx=>?_⟩
 · rcases key x hx with rfl|rfl|rfl|rfl|⟨h1,h2,h3⟩
   · rw[vi];exact Or.inr (Or.inr hTe)
   · rw[vo];exact Or.inr (Or.inr he)
   · rw[ve];exact Or.inr (Or.inl rfl)
   · rw[vt];exact Or.inl rfl
   · rw[vx x h1 h2 h3];exact Or.inr (Or.inr (h.sp x h1))
 · rcases key x hx with rfl|rfl|rfl|rfl|⟨h1,h2,h3⟩
   · rw[vi,vt]
   · rw[vo,ve]
   · rw[ve,vo]
   · rw[vt,vi]
   · rw[vx x h1 h2 h3,vx (T x) (h.sp x h1) (fun h0=>h3 (by rw[<-h.inv x h1,h0])) (fun h0=>h2 (by rw[<-h.inv x h1,h0,h.inv e he])),h.inv x h1]
 · rcases key x hx with rfl|rfl|rfl|rfl|⟨h1,h2,h3⟩
   · rw[vi];exact n4
   · rw[vo];exact n3
   · rw[ve];exact Ne.symm n3
   · rw[vt];exact Ne.symm n4
   · rw[vx x h1 h2 h3];exact h.ne x h1
theorem Invo.congr {D D':Nat->Prop} {T:Nat->Nat} (h:Invo D T) (hD:∀ x,D x↔D' x):Invo D' T:=
 ⟨fun x hx=>(hD _).1 (h.sp x ((hD x).2 hx)),fun x hx=>h.inv x ((hD x).2 hx),fun x hx=>h.ne x ((hD x).2 hx)⟩
theorem cor_ge (n:Nat) (up:Bool) (c:Nat):4*n+4<=corT n up c:=by unfold corT;omega
theorem cor_ne (n:Nat) (up:Bool):corT n up 0≠corT n up 1/\corT n up 0≠corT n up 2/\corT n up 0≠corT n up 3/\corT n up 1≠corT n up 2/\corT n up 1≠corT n up 3/\corT n up 2≠corT n up 3:=by
 cases up<;>simp[corT,sdOf]
theorem stepT_invo {T:Nat->Nat} {n:Nat} (h:Invo (Dom n) T) (right up:Bool):Invo (Dom (n+1)) (stepT T n right up):=by
 obtain⟨m1,m2,m3,m4,m5,m6⟩:=cor_ne n up
 have g0:=cor_ge n up 0
 have g1:=cor_ge n up 1
 have g2:=cor_ge n up 2
 have g3:=cor_ge n up 3
 have c0:=cor_lt n up 0
 have c1:=cor_lt n up 1
 have c2:=cor_lt n up 2
 have c3:=cor_lt n up 3
 have all:=cor_all n up
 have nd:∀ c,¬ Dom n (corT n up c):=fun c hc=>by have:=cor_ge n up c;unfold Dom at hc;omega
 unfold stepT
 split
 · have h1:=leadF_invo h (e:=1) (by unfold Dom;omega) (nd 0) (nd 1) m1
   have h2:=leadF_invo h1 (e:=3) (i:=corT n up 2) (o:=corT n up 3) (Or.inr (Or.inr (by unfold Dom;omega))) (fun h0=>h0.elim (Ne.symm m2) (fun h0=>h0.elim (Ne.symm m4) (nd 2))) (fun h0=>h0.elim (Ne.symm m3) (fun h0=>h0.elim (Ne.symm m5) (nd 3))) m6
   refine h2.congr fun x=>?_
   unfold Dom
   constructor
   · intro hx;omega
   · intro hx
     rcases Nat.lt_or_ge x (4*n+4) with h3|h3
     · omega
     · have:=all x h3 hx;omega
 · have h1:=leadF_invo h (e:=2) (by unfold Dom;omega) (nd 0) (nd 2) m2
   have h2:=leadF_invo h1 (e:=3) (i:=corT n up 1) (o:=corT n up 3) (Or.inr (Or.inr (by unfold Dom;omega))) (fun h0=>h0.elim (Ne.symm m1) (fun h0=>h0.elim m4 (nd 1))) (fun h0=>h0.elim (Ne.symm m3) (fun h0=>h0.elim (Ne.symm m6) (nd 3))) m5
   refine h2.congr fun x=>?_
   unfold Dom
   constructor
   · intro hx;omega
   · intro hx
     rcases Nat.lt_or_ge x (4*n+4) with h3|h3
     · omega
     · have:=all x h3 hx;omega
theorem twR_invo {T:Nat->Nat} {n:Nat} (h:Invo (Dom n) T) (right up:Bool) (j:Nat):Invo (Dom (n+j)) (twR T n right up j):=by
 induction j with
 |zero=>exact h
 |succ j ih=>exact stepT_invo ih right up
theorem tie0_invo:Invo (Dom 0) tie0:=by
 have key:∀ x,Dom 0 x->x=0∨x=1∨x=2∨x=3:=fun x hx=>by unfold Dom at hx;omega
 refine⟨fun x hx=>tie0_bd x hx,fun x hx=>?_,fun x hx=>?_⟩<;>
 · rcases key x hx with rfl|rfl|rfl|rfl<;>decide
theorem twL_invo (l:List Int) (i:Nat):Invo (Dom (szTo l i)) (twL l i):=by
 induction i with
 |zero=>exact tie0_invo
 |succ i ih=>exact twR_invo ih _ _ _
def jn (T:Nat->Nat) (a b:Nat):Nat->Nat:=if T a=b then T else tieF T (T a) (T b)
theorem jn_invo {D:Nat->Prop} {T:Nat->Nat} {a b:Nat} (h:Invo D T) (ha:D a) (hb:D b) (hab:a≠b):Invo (fun x=>D x/\x≠a/\x≠b) (jn T a b):=by
 unfold jn
 by_cases e:T a=b
 · rw[if_pos e]
   have e2:T b=a:=by rw[<-e,h.inv a ha]
   refine⟨fun x ⟨h1,h2,h3⟩=>⟨h.sp x h1,fun h0=>h3 ?_,fun h0=>h2 ?_⟩,fun x hx=>h.inv x hx.1,fun x hx=>h.ne x hx.1⟩
   · rw[<-h.inv x h1,h0,e]
   · rw[<-h.inv x h1,h0,e2]
 · rw[if_neg e]
   have e2:T b≠a:=fun h0=>e (by rw[<-h0,h.inv b hb])
   have v:∀ x,tieF T (T a) (T b) x=if x=T b then T a else if x=T a then T b else T x:=fun x=>rfl
   have n1:T a≠T b:=fun h0=>hab (by rw[<-h.inv a ha,h0,h.inv b hb])
   refine⟨fun x ⟨h1,h2,h3⟩=>?_,fun x ⟨h1,h2,h3⟩=>?_,fun x ⟨h1,h2,h3⟩=>?_⟩
   · rw[v]
     split
     · exact⟨h.sp a ha,h.ne a ha,e⟩
     · split
       · exact⟨h.sp b hb,e2,h.ne b hb⟩
       · rename_i q1 q2
         exact⟨h.sp x h1,fun h0=>q2 (by rw[<-h0,h.inv x h1]),fun h0=>q1 (by rw[<-h0,h.inv x h1])⟩
   · rw[v x]
     by_cases q1:x=T b
     · rw[if_pos q1,v,if_neg n1,if_pos rfl,q1]
     · rw[if_neg q1]
       by_cases q2:x=T a
       · rw[if_pos q2,v,if_pos rfl,q2]
       · rw[if_neg q2,v,if_neg (fun h0=>h3 (by rw[<-h.inv x h1,h0,h.inv b hb])),if_neg (fun h0=>h2 (by rw[<-h.inv x h1,h0,h.inv a ha])),h.inv x h1]
   · rw[v x]
     by_cases q1:x=T b
     · rw[if_pos q1,q1];exact n1
     · rw[if_neg q1]
       by_cases q2:x=T a
       · rw[if_pos q2,q2];exact Ne.symm n1
       · rw[if_neg q2];exact h.ne x h1
def lkU (l:List Int):Nat->Nat:=jn (jn (twL l l.length) 0 1) 2 3
def lkO (l:List Int):Nat:=(if twL l l.length 0=1 then 1 else 0)+(if jn (twL l l.length) 0 1 2=3 then 1 else 0)
theorem lkU_ties (l:List Int):Ties (szTo l l.length) (lkU l):=by
 have h0:=twL_invo l l.length
 have h1:=jn_invo h0 (a:=0) (b:=1) (by unfold Dom;omega) (by unfold Dom;omega) (by decide)
 have h2:=jn_invo h1 (a:=2) (b:=3) ⟨by unfold Dom;omega,by decide,by decide⟩ ⟨by unfold Dom;omega,by decide,by decide⟩ (by decide)
 have h3:=h2.congr (D':=SpT (szTo l l.length)) fun x=>by
  unfold Dom SpT
  constructor
  · intro hx;omega
  · intro hx;exact⟨⟨by omega,by omega,by omega⟩,by omega,by omega⟩
 exact⟨h3.sp,h3.inv,h3.ne⟩
end Go.Proofs.Ytgagenmkpmmpfaa
/- The walk of tangle.Link. -/
namespace Go.Proofs.Ytgagenmkpmmpfaa
open Go.RowKit Go.Maps
set_option maxHeartbeats 8000000
set_option maxRecDepth 100000
theorem link_yes (a : Option Addr) (cap : Nat) (l : List Int) (w : World) (hl : l.length ≤ 140737488355328) (hn : listN l = 0) (h : RdAt w w.heap.size 1 (.slice a l.length cap) l.length (intsV l)) :
    Calls Try.prog 6 #[.slice a l.length cap] w fun e w'=>∃ a2 cap2,e=.returned (.tuple #[.agg #[.slice a2 (szTo l l.length) cap2,.int .i64 (lkO l:Nat)],.int .i64 0])/\Crs w' w'.heap.size (.slice a2 (szTo l l.length) cap2) (lkC (szTo l l.length) (lkU l))/\Below w.heap.size w w':=by
 obtain⟨Y,hY⟩:∃ Y,Y=w.alloc (.cells #[.slice none 0 0,.int .i64 0] 29):=⟨_,rfl⟩
 have HY:Hid (Y=w.alloc (.cells #[.slice none 0 0,.int .i64 0] 29)):=hY
 have HBY:Hid (Below w.heap.size w Y):=(by rw[hY];exact(Below.refl _ _).alloc (Nat.le_refl _) _:Below w.heap.size w Y)
 have HT:Hid (Y.heap[w.heap.size]?=some (.cells #[.slice none 0 0,.int .i64 0] 29 (0,0))):=(by rw[hY];exact box_at _ _:Y.heap[w.heap.size]?=some (.cells #[.slice none 0 0,.int .i64 0] 29 (0,0)))
 have HF:Hid (Calls Try.prog 12 #[.slice a l.length cap] Y fun e w'=>e=.returned (.int .i64 (listN l))/\Below Y.heap.size Y w'):=tgRefusal_any a cap l Y hl ((h.on HBY.out).mono HBY.out.size)
 rw[hn]at HF
 obtain⟨g1,g2,g3⟩:=listN_ok hn
 have HTW:Hid (∀ W,Below w.heap.size w W->Calls Try.prog 14 #[.slice a l.length cap] W fun e w'=>e=.returned (.tuple #[.map (some W.heap.size),.int .i64 (szTo l l.length:Nat)])/\MapT w' W.heap.size 400 (Dom (szTo l l.length)) (twL l l.length)/\Below W.heap.size W w'):=fun W hW=>twisted_any a cap l W hl g3 g1 ((h.on hW).mono hW.size)
 obtain⟨n,hN⟩:∃ n,szTo l l.length=n:=⟨_,rfl⟩
 have hU:=lkU_ties l
 have hIV:=twL_invo l l.length
 rw[hN]at HTW hU hIV g3 ⊢
 have HOE:Hid (lkO l=(if twL l l.length 0=1 then 1 else 0)+(if jn (twL l l.length) 0 1 2=3 then 1 else 0)):=(rfl:lkO l=(if twL l l.length 0=1 then 1 else 0)+(if jn (twL l l.length) 0 1 2=3 then 1 else 0))
 have HUE:Hid (lkU l=jn (jn (twL l l.length) 0 1) 2 3):=(rfl:lkU l=jn (jn (twL l l.length) 0 1) 2 3)
 generalize twL l l.length=T at HTW hIV HOE HUE
 have hb1:∀ x,x<4*n+4->T x<4*n+4:=fun x hx=>hIV.sp x hx
 have hJ:=jn_invo hIV (a:=0) (b:=1) (by unfold Dom;omega) (by unfold Dom;omega) (by decide)
 have HJ1:Hid (∀ b W,MapT W b 400 (Dom n) T->Calls Try.prog 15 #[.map (some b),.int .i64 0,.int .i64 1] W fun r w'=>r=.returned (.int .i64 (if T 0=1 then 1 else 0))/\MapT w' b 402 (Dom n) (jn T 0 1)/\W.grownBy w' (some b)):=fun b W hW=>join_any b 400 0 1 (Dom n) T W hW (by omega) (by omega) (by unfold Dom;omega) (by unfold Dom;omega) (by have:=hb1 0 (by omega);omega) (by have:=hb1 1 (by omega);omega) (by omega)
 have hb2:jn T 0 1 2<80/\jn T 0 1 3<80:=by
  have q1:jn T 0 1 2<4*n+4:=(hJ.sp 2 ⟨by unfold Dom;omega,by decide,by decide⟩).1
  have q2:jn T 0 1 3<4*n+4:=(hJ.sp 3 ⟨by unfold Dom;omega,by decide,by decide⟩).1
  omega
 have HJ2:Hid (∀ b W,MapT W b 402 (Dom n) (jn T 0 1)->Calls Try.prog 15 #[.map (some b),.int .i64 2,.int .i64 3] W fun r w'=>r=.returned (.int .i64 (if jn T 0 1 2=3 then 1 else 0))/\MapT w' b 404 (Dom n) (jn (jn T 0 1) 2 3)/\W.grownBy w' (some b)):=fun b W hW=>join_any b 402 2 3 (Dom n) (jn T 0 1) W hW (by omega) (by omega) (by unfold Dom;omega) (by unfold Dom;omega) hb2.1 hb2.2 (by omega)
 have HWK:Hid (∀ b W,MapT W b 404 (Dom n) (jn (jn T 0 1) 2 3)->Calls Try.prog 16 #[.map (some b),.int .i64 (n:Nat)] W fun e w'=>∃ g,e=.returned (.slice (some ⟨g,0,none⟩) n n)/\W.heap.size<=g/\w'.ownsRow g 78 5 (.slice (some ⟨g,0,none⟩) n n) n (crossCells (lkC n (lkU l)))/\Below W.heap.size W w'):=fun b W hW=>walked_any b 404 n (lkU l) W hU g3 (hW.congr (Nat.le_refl _) (fun x hx=>⟨by unfold SpT at hx;unfold Dom;omega,by rw[HUE.out]⟩))
 obtain⟨o1,ho1⟩:∃ o1:Nat,(if T 0=1 then 1 else 0)=o1:=⟨_,rfl⟩
 obtain⟨o2,ho2⟩:∃ o2:Nat,(if jn T 0 1 2=3 then 1 else 0)=o2:=⟨_,rfl⟩
 have k1:o1<=1:=by rw[<-ho1];split<;>omega
 have k2:o2<=1:=by rw[<-ho2];split<;>omega
 have z1:(if T 0=1 then(1:Int) else 0)=(o1:Int):=by rw[<-ho1];split<;>rfl
 have z2:(if jn T 0 1 2=3 then(1:Int) else 0)=(o2:Int):=by rw[<-ho2];split<;>rfl
 rw[ho1,ho2]at HOE
 rw[z1]at HJ1
 rw[z2]at HJ2
 have HOI:Hid ((lkO l:Int)=(o1:Int)+(o2:Int)):=(by rw[HOE.out];simp:(lkO l:Int)=(o1:Int)+(o2:Int))
 have ewo:IntKind.i64.wrap ((o1:Int)+(o2:Int))=(o1:Int)+(o2:Int):=IntWalk.i64_in _ (by omega)
 have hsY:w.heap.size<Y.heap.size:=by rw[hY];simp
 rw[HOI.out]
 clear h hY hN hU hIV hb1 hJ hb2 ho1 ho2 z1 z2 g1 g2 HOE HUE
 go_enter Try.func6,Try.ntmps6
 go_wp2_with (go_at_call 12;rw[<-HY.out];refine HF.out.mono ?_;rintro e9 w2 ⟨rfl,hb2⟩;refine Hid.out ?_)
 refine Lib.hid ?_
 have HB2:Hid (Below w.heap.size w w2):=HBY.out.trans (hb2.mono HBY.out.size)
 have HT2:Hid (w2.heap[w.heap.size]?=some (.cells #[.slice none 0 0,.int .i64 0] 29 (0,0))):=(hb2.block _ hsY).trans HT.out
 have l2:=(Array.getElem?_eq_some_iff.1 HT2.out).1
 clear hb2
 go_wp2_with (go_at_call 14;refine(HTW.out _ HB2.out).mono ?_;rintro e9 w3 ⟨rfl,hm3,hb3⟩;refine Hid.out ?_)
 refine Lib.hid ?_
 obtain⟨b,hbe⟩:∃ b,w2.heap.size=b:=⟨_,rfl⟩
 have HB3:Hid (Below w.heap.size w w3):=HB2.out.trans (hb3.mono HB2.out.size)
 have HT3:Hid (w3.heap[w.heap.size]?=some (.cells #[.slice none 0 0,.int .i64 0] 29 (0,0))):=(hb3.block _ l2).trans HT2.out
 have HLB:Hid (w.heap.size<b):=(by rw[<-hbe];exact l2:w.heap.size<b)
 rw[hbe]at hm3 ⊢
 have HM3:Hid (MapT w3 b 400 (Dom n) T):=hm3
 clear hm3 hb3 hbe l2 HTW
 go_wp2_with (go_at_call 15;refine(HJ1.out b _ HM3.out).mono ?_;rintro e9 w4 ⟨rfl,hm4,hg4⟩;refine Hid.out ?_)
 refine Lib.hid ?_
 have HM4:Hid (MapT w4 b 402 (Dom n) (jn T 0 1)):=hm4
 have HG4:Hid (w3.grownBy w4 (some b)):=hg4
 clear hm4 hg4
 go_wp2_with (go_at_call 15;refine(HJ2.out b _ HM4.out).mono ?_;rintro e9 w5 ⟨rfl,hm5,hg5⟩;refine Hid.out ?_)
 refine Lib.hid ?_
 have HM5:Hid (MapT w5 b 404 (Dom n) (jn (jn T 0 1) 2 3)):=hm5
 have HG5:Hid (w3.grownBy w5 (some b)):=grown_two HG4.out hg5
 have HB5:Hid (Below w.heap.size w w5):=below_map HB3.out (by have:=HLB.out;omega) HG5.out
 have HT5:Hid (w5.heap[w.heap.size]?=some (.cells #[.slice none 0 0,.int .i64 0] 29 (0,0))):=(HG5.out.block _ (Array.getElem?_eq_some_iff.1 HT3.out).1 (fun e=>by have h1:w.heap.size=b:=Option.some.inj e;have h2:=HLB.out;omega)).trans HT3.out
 clear hm5 hg5
 go_wp2_with (go_at_call 16;refine(HWK.out b _ HM5.out).mono ?_;rintro e9 w6 ⟨g6,rfl,hg6,hc6,hb6⟩;refine Hid.out ?_)
 refine Lib.hid ?_
 have HB6:Hid (Below w.heap.size w w6):=HB5.out.trans (hb6.mono HB5.out.size)
 have HC6:Hid (w6.ownsRow g6 78 5 (.slice (some ⟨g6,0,none⟩) n n) n (crossCells (lkC n (lkU l)))):=hc6
 have HG6:Hid (w.heap.size<g6):=(Nat.lt_of_lt_of_le (Array.getElem?_eq_some_iff.1 HT5.out).1 hg6:w.heap.size<g6)
 have t6:=(hb6.block _ (Array.getElem?_eq_some_iff.1 HT5.out).1).trans HT5.out
 have HT6:Hid (w6.heap[w.heap.size]?=some (.cells #[.slice none 0 0,.int .i64 0] 29 (0,0))):=t6
 have c0:w6.cell? ⟨w.heap.size,0,none⟩=some (.slice none 0 0):=block_cell t6 rfl
 have c1:w6.cell? ⟨w.heap.size,1,none⟩=some (.int .i64 0):=block_cell t6 rfl
 have f0:w6.frozen? ⟨w.heap.size,0,none⟩=false:=froz t6
 have f1:w6.frozen? ⟨w.heap.size,1,none⟩=false:=froz t6
 have l6:=(Array.getElem?_eq_some_iff.1 t6).1
 clear hb6 t6 hc6 hg6
 go_wp2
 obtain⟨Z,hZ⟩:∃ Z,Z=(w6.setCell ⟨w.heap.size,0,none⟩ (.slice (some ⟨g6,0,none⟩) n n)).setCell ⟨w.heap.size,1,none⟩ (.int .i64 ((o1:Int)+(o2:Int))):=⟨_,rfl⟩
 have hzb:Z.heap[w.heap.size]?=some (.cells #[.slice (some ⟨g6,0,none⟩) n n,.int .i64 ((o1:Int)+(o2:Int))] 29 (0,0)):=by rw[hZ,set_block (set_block HT6.out)];rfl
 have hgZ:w6.grownBy Z (some w.heap.size):=by rw[hZ];exact grown_two (set_grown _ _ _ _) (set_grown _ _ _ _)
 rw[<-hZ]
 have x0:Z.cell? ⟨w.heap.size,0,none⟩=some (.slice (some ⟨g6,0,none⟩) n n):=block_cell hzb rfl
 have x1:Z.cell? ⟨w.heap.size,1,none⟩=some (.int .i64 ((o1:Int)+(o2:Int))):=block_cell hzb rfl
 have hlc:(lkC n (lkU l)).length=n:=by simp[lkC]
 have hrz:Z.ownsRow g6 78 5 (.slice (some ⟨g6,0,none⟩) n n) (lkC n (lkU l)).length (crossCells (lkC n (lkU l))):=by
  rw[hlc]
  exact HC6.out.kept hgZ (Or.inr (fun e=>by have h1:g6=w.heap.size:=Option.some.inj e;have h2:=HG6.out;omega))
 exact bodyPost_ret (v:=.tuple #[.agg #[.slice (some ⟨g6,0,none⟩) n n,.int .i64 ((o1:Int)+(o2:Int))],.int .i64 0]) (by simp[results,Try.results6,go_sem,x0,x1]) rfl ⟨_,_,rfl,crs_own hrz (by rw[hlc];unfold maxLen;omega),HB6.out.grown hgZ HB6.out.size (fun q hq=>by have:=Option.some.inj hq;omega)⟩
end Go.Proofs.Ytgagenmkpmmpfaa
