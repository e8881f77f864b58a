/- Several texts of the proof, one behind the other. -/
import Derived.Test.YtgagenmkpmmpfaaF2P
import Derived.Test.YtgagenmkpmmpfaaO0P
import Derived.Deep.RegionHeldLaw
import Derived.Deep.RegionWith
/- The walk of Drawing.spread. -/
namespace Go.Proofs.Ytgagenmkpmmpfaa
open Go.RowKit
set_option maxHeartbeats 16000000
set_option maxRecDepth 100000
def isM (v:Value):Bool:=match v with|.int .i64 z=>decide (z = -1)|_=>false
def unC (w:World) (g n:Nat):Nat:=match w.heap[g]? with|some (.cells cur _ _)=>(cur.toList.take n).countP isM|_=>0
def unI (P:List Int):Nat:=P.countP fun z=>decide (z = -1)
theorem unC_row {w:World} {B e g n c:Nat} {P:List Int} (h:w.ownsRow B e 1 (.slice (some ⟨g,0,none⟩) n c) n (intsV P)):unC w g n=unI P:=by
 rcases h.2 with⟨h,_⟩|⟨g',c',cur,e1,_,hg,_,_,_,htk⟩
 · cases h
 · injection e1 with e1
   injection e1 with e1
   injection e1 with e1
   subst e1
   unfold unC unI
   rw[hg]
   simp only[Nat.mul_one]at htk
   simp only[htk]
   unfold intsV
   rw[List.countP_map]
   rfl
theorem unI_le (P:List Int):unI P<=P.length:=List.countP_le_length
theorem field_spotD (a b:Int) (w:World):(Instr.field 66 (.agg #[.int .i64 a,.int .i64 b]) 0).run Try.prog w=.ok (.int .i64 a) w:=by
 simp[Instr.field,run_underlying Try.underlying66,go_sem,asAgg]
theorem unI_set {P:List Int} {y:Nat} {z:Int} (hy:y<P.length) (h:P.getD y 0 = -1) (hz:z ≠ -1):unI (P.set y z)+1=unI P:=by
 induction P generalizing y with
 |nil=>simp at hy
 |cons b l ih=>
  cases y with
  |zero=>
   have:b = -1:=by simpa using h
   subst this
   simp[unI,hz]
  |succ y=>
   have:=ih (y:=y) (by simpa using hy) (by simpa using h)
   simp only[unI,List.set_cons_succ,List.countP_cons]at this ⊢
   omega
theorem spread_any (a : Option Addr) (cap : Nat) (C : List Cr) (loops : Int) (gF cF gT cT gP cP B : Nat) (P0 : List Int) (f num : Nat) (w00 w : World) (hm : mayD C loops = true) (hD : Dr w00 a cap C gF gT) (hb0 : Below w00.heap.size w00 w) (hB : w00.heap.size ≤ B)
    (hP:w.ownsRow B 3 1 (.slice (some ⟨gP,0,none⟩) C.length cP) C.length (intsV P0)) (hf:f<C.length) (h0:P0.getD f 0 = -1) (hn:∀ v,v<C.length->P0.getD v 0≠(num:Int)):
    Calls Try.prog 48 #[drV a cap C loops gF cF gT cT,.slice (some ⟨gP,0,none⟩) C.length cP,.int .i64 f,.int .i64 num] w fun e w'=>e=.returned (.tuple #[])/\∃ P k,Spr C P0 P f num [] k 4/\w'.ownsRow B 3 1 (.slice (some ⟨gP,0,none⟩) C.length cP) C.length (intsV P)/\w.grownBy w' (some gP):=by
 obtain⟨s1,-,-,-⟩:=sizeB_iff (may_size hm)
 obtain⟨i0,hi,hz0,hz1,hz2⟩:=info_parts infoInt
 have HM:Hid (mayD C loops=true):=hm
 have HDD:Hid (∀ w',Below w00.heap.size w00 w'->Dr w' a cap C gF gT):=fun w' hb=>hD.on hb
 obtain⟨b,ob,rfl,hbw,hCd⟩:=hD.cross (by omega)
 have HCD:Hid (∀ w',Below w00.heap.size w00 w'->CrossAt w' b ob C/\b<w'.heap.size):=fun w' hb=>⟨hCd.on hb hbw,Nat.lt_of_lt_of_le hbw hb.size⟩
 have hlP:P0.length=C.length:=by have:=hP.1;simpa[intsV_len] using this
 have hgP:=hP.lt gP rfl
 have hst:=hP.stored f (.int .i64 ((num:Nat):Int))
 rw[intsV_set]at hst
 have e0:w.cell? ⟨gP,f,none⟩=some (.int .i64 (P0.getD f 0)):=by
  rw[hP.cellAt f (by omega)];exact intsV_get P0 f (by omega)
 have z0:w.frozen? ⟨gP,f,none⟩=false:=hP.frozenAt f
 have hgw:=hgP.2
 have hsw:(w.setCell ⟨gP,f,none⟩ (.int .i64 ((num:Nat):Int))).heap.size=w.heap.size:=by simp
 obtain⟨w1,hw1⟩:∃ w1,w1=(w.setCell ⟨gP,f,none⟩ (.int .i64 ((num:Nat):Int))).alloc (.cells #[.slice (some ⟨b,ob,none⟩) C.length cap,.int .i64 loops,.slice (some ⟨gF,0,none⟩) (2*C.length+1) cF,.slice (some ⟨gT,0,none⟩) (2*C.length+1) cT] 52):=⟨_,rfl⟩
 have HW1:Hid (w1=(w.setCell ⟨gP,f,none⟩ (.int .i64 ((num:Nat):Int))).alloc (.cells #[.slice (some ⟨b,ob,none⟩) C.length cap,.int .i64 loops,.slice (some ⟨gF,0,none⟩) (2*C.length+1) cF,.slice (some ⟨gT,0,none⟩) (2*C.length+1) cT] 52)):=hw1
 have hs1:w1.heap.size=w.heap.size+1:=by rw[hw1];simp
 have HP1:Hid (w1.ownsRow B 3 1 (.slice (some ⟨gP,0,none⟩) C.length cP) C.length (intsV (P0.set f (num:Int)))):=(by rw[hw1];exact hst.1.alloc _:w1.ownsRow B 3 1 (.slice (some ⟨gP,0,none⟩) C.length cP) C.length (intsV (P0.set f (num:Int))))
 have HG1:Hid (w.grownBy w1 (some gP)):=(by rw[hw1];exact grown_trans hst.2 (World.grownBy_alloc _ _ _):w.grownBy w1 (some gP))
 have HT1:Hid (w1.heap[w.heap.size]?=some (.cells #[.slice (some ⟨b,ob,none⟩) C.length cap,.int .i64 loops,.slice (some ⟨gF,0,none⟩) (2*C.length+1) cF,.slice (some ⟨gT,0,none⟩) (2*C.length+1) cT] 52 (0,0))):=(by rw[hw1];exact alloc_at hsw.symm:w1.heap[w.heap.size]?=some (.cells #[.slice (some ⟨b,ob,none⟩) C.length cap,.int .i64 loops,.slice (some ⟨gF,0,none⟩) (2*C.length+1) cF,.slice (some ⟨gT,0,none⟩) (2*C.length+1) cT] 52 (0,0)))
 have HS1:Hid (Spr C P0 (P0.set f (num:Int)) f num [f] 0 4):=Spr.start hlP hf h0 hn
 have HB0:Hid (Below w00.heap.size w00 w):=hb0
 have HP:Hid (w.ownsRow B 3 1 (.slice (some ⟨gP,0,none⟩) C.length cP) C.length (intsV P0)):=hP
 obtain⟨w2,hw2⟩:∃ w2,w2=w1.alloc (.cells #[.int .i64 (f:Nat)] 3):=⟨_,rfl⟩
 have HW2:Hid (w2=w1.alloc (.cells #[.int .i64 (f:Nat)] 3)):=hw2
 have hs2:w2.heap.size=w.heap.size+2:=by rw[hw2];simp[hs1]
 have HP2:Hid (w2.ownsRow B 3 1 (.slice (some ⟨gP,0,none⟩) C.length cP) C.length (intsV (P0.set f (num:Int)))):=(by rw[hw2];exact HP1.out.alloc _:w2.ownsRow B 3 1 (.slice (some ⟨gP,0,none⟩) C.length cP) C.length (intsV (P0.set f (num:Int))))
 have HG2:Hid (w.grownBy w2 (some gP)):=(by rw[hw2];exact grown_trans HG1.out (World.grownBy_alloc _ _ _):w.grownBy w2 (some gP))
 have HT2:Hid (w2.heap[w.heap.size]?=some (.cells #[.slice (some ⟨b,ob,none⟩) C.length cap,.int .i64 loops,.slice (some ⟨gF,0,none⟩) (2*C.length+1) cF,.slice (some ⟨gT,0,none⟩) (2*C.length+1) cT] 52 (0,0))):=(by rw[hw2];exact alloc_old HT1.out:w2.heap[w.heap.size]?=some (.cells #[.slice (some ⟨b,ob,none⟩) C.length cap,.int .i64 loops,.slice (some ⟨gF,0,none⟩) (2*C.length+1) cF,.slice (some ⟨gT,0,none⟩) (2*C.length+1) cT] 52 (0,0)))
 have HQ2 : Hid (QueAt w2 (w.heap.size + 1) 3 (.slice (some ⟨w.heap.size + 1, 0, none⟩) 1 1) (nats [f])) := (by
  rw[hw2]
  exact⟨w.heap.size+1,0,1,#[.int .i64 (f:Nat)],rfl,Nat.le_refl _,alloc_at hs1.symm,Nat.le_refl _,by unfold maxLen;omega,by simp,rfl⟩:QueAt w2 (w.heap.size+1) 3 (.slice (some ⟨w.heap.size+1,0,none⟩) 1 1) (nats [f]))
 clear hm hb0 hP hst hw1 hw2
 unfold drV
 go_enter Try.func48,Try.ntmps48
 go_wp2
 rw[<-HW1.out,<-HW2.out]
 clear e0 z0
 go_loopw [8] (fun v8 wr=>∃ (todo:List Nat) (P:List Int) (k g off cq:Nat),v8=.slice (some ⟨g,off,none⟩) todo.length cq/\Hid (unI P+todo.length<=100)/\Hid (Spr C P0 P f num todo k 4)/\Hid (QueAt wr (w.heap.size+1) 3 v8 (nats todo))/\Hid (wr.ownsRow B 3 1 (.slice (some ⟨gP,0,none⟩) C.length cP) C.length (intsV P))/\Hid (w.grownBy wr (some gP))/\Hid (wr.heap[w.heap.size]?=some (.cells #[.slice (some ⟨b,ob,none⟩) C.length cap,.int .i64 loops,.slice (some ⟨gF,0,none⟩) (2*C.length+1) cF,.slice (some ⟨gT,0,none⟩) (2*C.length+1) cT] 52 (0,0)))/\w.heap.size+1<=wr.heap.size) (fun v8 wr=>lenOf v8+unC wr gP C.length)
 case atStart=>exact⟨[f],_,0,w.heap.size+1,0,1,rfl,(by have:=unI_le (P0.set f (num:Int));simp only[List.length_set,List.length_cons,List.length_nil]at this ⊢;omega:unI (P0.set f (num:Int))+[f].length<=100),HS1.out,HQ2.out,HP2.out,HG2.out,HT2.out,by omega⟩
 case round=>
  clear HS1 HQ2 HP2 HG2 HT2 HW1 HW2 HP1 HG1 HT1
  rename World=>W1
  obtain⟨todo,P,k0,g,off,cq,rfl,hun,hsp,hqu,hpr,hgr,hbox,hsz⟩:=hrel
  cases todo with
  |nil=>
   go_wp2
   exact bodyPost_end (v:=.tuple #[]) (by simp[results,Try.results48]) rfl ⟨rfl,P,k0,hsp.out,hpr.out,hgr.out⟩
  | cons k todo =>
   have hk:=hsp.out.tod k (List.Mem.head _)
   have HKC:Hid (Con (arcE C) f k):=hk.2
   have hkn:=hk.1
   have HSP:Hid (Spr C P0 P f num todo k 0):=hsp.out.take
   have c0:W1.cell? ⟨g,off,none⟩=some (.int .i64 (k:Nat)):=hqu.out.cell 0 _ rfl
   have hcq:todo.length+1<=cq:=hqu.out.size.2.1
   have HM0:Hid (unC W1 gP C.length=unI P):=unC_row hpr.out
   clear hk
   by_cases hc1:cq=1
   · subst hc1
     obtain rfl:todo=[]:=by simpa[nats] using hqu.out.tail1.2
     have HQT:Hid (QueAt W1 (w.heap.size+1) 3 (.slice (some ⟨g,off,none⟩) 0 0) (nats [])):=hqu.out.tail1.1
     clear hqu hsp
     go_wp2
     simp only[List.length_cons,List.length_nil,Nat.zero_add]
     go_loopw [8,26] (fun v8 v26 wr=>∃ (td:List Nat) (P1:List Int) (s g1 o1 c1:Nat),s<=4/\v26=.int .i64 (s:Nat)/\v8=.slice (some ⟨g1,o1,none⟩) td.length c1/\Hid (unI P1+td.length=unI P+([]:List Nat).length)/\Hid (Spr C P0 P1 f num td k s)/\Hid (QueAt wr (w.heap.size+1) 3 v8 (nats td))/\Hid (wr.ownsRow B 3 1 (.slice (some ⟨gP,0,none⟩) C.length cP) C.length (intsV P1))/\Hid (w.grownBy wr (some gP))/\Hid (wr.heap[w.heap.size]?=some (.cells #[.slice (some ⟨b,ob,none⟩) C.length cap,.int .i64 loops,.slice (some ⟨gF,0,none⟩) (2*C.length+1) cF,.slice (some ⟨gT,0,none⟩) (2*C.length+1) cT] 52 (0,0)))/\w.heap.size+1<=wr.heap.size) (fun _ v26 _=>4-(intOf v26).toNat)
     case atStart=>exact⟨[],P,0,_,_,_,Nat.zero_le _,rfl,rfl,(rfl:unI P+([]:List Nat).length=unI P+([]:List Nat).length),HSP.out,HQT.out,hpr.out,hgr.out,hbox.out,hsz⟩
     case round =>
      rename World=>W3
      obtain⟨td,P1,s,g1,o1,c1,hs4,rfl,rfl,hme,hsp,hqu,hpr3,hgr3,hbox3,hsz3⟩:=hrel
      by_cases hsl:s<4
      · have hds:decide ((s:Int)<4)=true:=by simp;omega
        have HB03:Hid (Below w00.heap.size w00 W3):=HB0.out.grown hgr3.out HB0.out.size (fun q hq=>by have:=Option.some.inj hq;omega)
        have hs03:=HB03.out.size
        obtain⟨n1,n2,-⟩:=en_one HM.out k s hkn hsl
        have hnb:=nb_lt HM.out k s hkn hsl
        have hfit:=(may_fit HM.out k s hkn hsl).1
        obtain⟨x,hx⟩:∃ x,((C.getD k Cr.none).arc s).toNat=x:=⟨_,rfl⟩
        have harc:(C.getD k Cr.none).arc s=(x:Int):=by omega
        obtain⟨p,hp⟩:∃ p,(C.getD k Cr.none).comes s=p:=⟨_,rfl⟩
        obtain⟨y,hy⟩:∃ y,nbC C k s=y:=⟨_,rfl⟩
        have hey:enC C x (!p)=y:=by rw[<-hy];unfold nbC;rw[hx,hp]
        obtain⟨ys,hys⟩:∃ ys,enS C x (!p)=ys:=⟨_,rfl⟩
        rw[hx]at n1 n2
        have HLV:Hid (∀ V,Below w00.heap.size w00 V->Calls Try.prog 59 #[.agg #[.slice (some ⟨b,ob,none⟩) C.length cap,.int .i64 loops,.slice (some ⟨gF,0,none⟩) (2*C.length+1) cF,.slice (some ⟨gT,0,none⟩) (2*C.length+1) cT],.agg #[.int .i64 k,.int .i64 s]] V fun e w'=>e=.returned (.agg #[.int .i64 (x:Nat),.bool p])/\Below V.heap.size V w'):=fun V hV=>by
         have h:=leaving_any b ob cap C loops (.slice (some ⟨gF,0,none⟩) (2*C.length+1) cF) (.slice (some ⟨gT,0,none⟩) (2*C.length+1) cT) k s V hkn hsl (HCD.out V hV).2 (HCD.out V hV).1
         rw[harc,hp]at h
         exact h
        have HEV:Hid (∀ V,Below w00.heap.size w00 V->Calls Try.prog 35 #[.agg #[.slice (some ⟨b,ob,none⟩) C.length cap,.int .i64 loops,.slice (some ⟨gF,0,none⟩) (2*C.length+1) cF,.slice (some ⟨gT,0,none⟩) (2*C.length+1) cT],.agg #[.int .i64 (x:Nat),.bool p]] V fun e w'=>e=.returned (.agg #[.int .i64 (y:Nat),.int .i64 (ys:Nat)])/\Below V.heap.size V w'):=fun V hV=>by
         have h:=end_any (some ⟨b,ob,none⟩) cap C loops gF cF gT cT x p V HM.out n1 n2 (HDD.out V hV)
         rw[hey,hys]at h
         exact h
        rw[hy]at hnb
        have HYN:Hid (nbC C k s=y):=hy
        have HF:Hid (∀ w',Below W3.heap.size W3 w'->w'.cell? ⟨w.heap.size,0,none⟩=some (.slice (some ⟨b,ob,none⟩) C.length cap)/\w'.cell? ⟨w.heap.size,1,none⟩=some (.int .i64 loops)/\w'.cell? ⟨w.heap.size,2,none⟩=some (.slice (some ⟨gF,0,none⟩) (2*C.length+1) cF)/\w'.cell? ⟨w.heap.size,3,none⟩=some (.slice (some ⟨gT,0,none⟩) (2*C.length+1) cT)):=fun w' hb=>by
         have g:=(hb.block _ (by omega)).trans hbox3.out
         exact⟨block_cell g rfl,block_cell g rfl,block_cell g rfl,block_cell g rfl⟩
        have HD3:Hid (Below W3.heap.size W3 W3.drew):=(Below.refl _ _).drew
        have H0:Hid (∀ w',Below W3.heap.size W3 w'->Below w00.heap.size w00 w'):=fun w' hb=>HB03.out.trans (hb.mono hs03)
        have hfs:=field_spotD
        have hlP1:P1.length=C.length:=hsp.out.len
        have htd:td.length<=100:=by have:=hme.out;have:=hun.out;simp only[List.length_cons]at this;omega
        have hgb:=hqu.out.size.2.2.2
        have hc1b:=hqu.out.size.2.1
        clear n1 n2 hfit hx harc hp hey hys hy
        go_wp2
        obtain⟨t0,t1,t2,t3⟩:=HF.out W3 (Below.refl _ _)
        go_region_held3 (fun w' => w'.cell? ⟨w.heap.size, 0, none⟩ = some (.slice (some ⟨b, ob, none⟩) C.length cap) ∧ w'.cell? ⟨w.heap.size, 1, none⟩ = some (.int .i64 loops) ∧ w'.cell? ⟨w.heap.size, 2, none⟩ = some (.slice (some ⟨gF, 0, none⟩) (2 * C.length + 1) cF) ∧ w'.cell? ⟨w.heap.size, 3, none⟩ = some (.slice (some ⟨gT, 0, none⟩) (2 * C.length + 1) cT)) (first | exact HF.out _ H5.out | exact HF.out _ H4.out | exact HF.out _ HD3.out) (first
         | (go_at_call 59; refine (HLV.out W3.drew (H0.out _ HD3.out)).mono ?_; rintro e9 w4 ⟨rfl, hb4⟩
            have H4:Hid (Below W3.heap.size W3 w4):=HD3.out.trans (hb4.mono HD3.out.size)
            clear hb4)
         | (go_at_call 35; refine (HEV.out _ (H0.out _ H4.out)).mono ?_; rintro e9 w5 ⟨rfl, hb5⟩
            have H5:Hid (Below W3.heap.size W3 w5):=H4.out.trans (hb5.mono H4.out.size)
            clear hb5))
        all_goals
         clear t0 t1 t2 t3 hfs
         have hs5:=H5.out.size
         have hg5:W3.grownBy w5 none:=grown_below H5.out none
         have HR5:Hid (w5.ownsRow B 3 1 (.slice (some ⟨gP,0,none⟩) C.length cP) C.length (intsV P1)):=own_any hpr3.out hg5
         have HQ5:Hid (QueAt w5 (w.heap.size+1) 3 (.slice (some ⟨g1,o1,none⟩) td.length c1) (nats td)):=hqu.out.kept hg5 (by simp[Value.ownBlock])
         have HG5:Hid (w.grownBy w5 (some gP)):=grown_new hgr3.out hg5 (fun q hq=>by cases hq)
         have HT5:Hid (w5.heap[w.heap.size]?=some (.cells #[.slice (some ⟨b,ob,none⟩) C.length cap,.int .i64 loops,.slice (some ⟨gF,0,none⟩) (2*C.length+1) cF,.slice (some ⟨gT,0,none⟩) (2*C.length+1) cT] 52 (0,0))):=(H5.out.block _ (by omega)).trans hbox3.out
         have e0:w5.cell? ⟨gP,y,none⟩=some (.int .i64 (P1.getD y 0)):=by
          rw[HR5.out.cellAt y (by omega)];exact intsV_get P1 y (by omega)
         have z0:w5.frozen? ⟨gP,y,none⟩=false:=HR5.out.frozenAt y
         have lg:gP<w5.heap.size:=by omega
         obtain⟨q,hq⟩:∃ q,P1.getD y 0=q:=⟨_,rfl⟩
         rw[hq]at e0
         have HQQ:Hid (P1.getD y 0=q):=hq
         clear hg5 hq
         by_cases hqm:q = -1
         · have hde:(q == -1)=true:=by simp[hqm]
           have HSN : Hid (Spr C P0 (P1.set y (num : Int)) f num (td ++ [y]) k (s + 1)) := (by
            have h:=hsp.out.new_side HM.out (by omega) hkn hsl HKC.out (by rw[HYN.out,HQQ.out];exact hqm)
            rw[HYN.out]at h
            exact h:Spr C P0 (P1.set y (num:Int)) f num (td++[y]) k (s+1))
           have HUN:Hid (unI (P1.set y (num:Int))+1=unI P1):=unI_set (by omega) (by rw[HQQ.out];exact hqm) (by omega)
           have hst:=HR5.out.stored y (.int .i64 ((num:Nat):Int))
           rw[intsV_set]at hst
           have HRV:Hid ((w5.setCell ⟨gP,y,none⟩ (.int .i64 ((num:Nat):Int))).ownsRow B 3 1 (.slice (some ⟨gP,0,none⟩) C.length cP) C.length (intsV (P1.set y (num:Int)))):=hst.1
           have HQV:Hid (QueAt (w5.setCell ⟨gP,y,none⟩ (.int .i64 ((num:Nat):Int))) (w.heap.size+1) 3 (.slice (some ⟨g1,o1,none⟩) td.length c1) (nats td)):=HQ5.out.kept hst.2 (fun e=>by have:g1=gP:=Option.some.inj e;omega)
           have HGV:Hid (w.grownBy (w5.setCell ⟨gP,y,none⟩ (.int .i64 ((num:Nat):Int))) (some gP)):=grown_trans HG5.out hst.2
           have HTV:Hid ((w5.setCell ⟨gP,y,none⟩ (.int .i64 ((num:Nat):Int))).heap[w.heap.size]?=some (.cells #[.slice (some ⟨b,ob,none⟩) C.length cap,.int .i64 loops,.slice (some ⟨gF,0,none⟩) (2*C.length+1) cF,.slice (some ⟨gT,0,none⟩) (2*C.length+1) cT] 52 (0,0))):=(hst.2.block _ (by omega) (fun e=>by have:w.heap.size=gP:=Option.some.inj e;omega)).trans HT5.out
           have hsV:(w5.setCell ⟨gP,y,none⟩ (.int .i64 ((num:Nat):Int))).heap.size=w5.heap.size:=by simp
           clear hst hqm
           go_wp2_with (first
            |(at_builtin;refine wpList_append_que _ rfl _ _ 22 rfl (w.heap.size+1) 3 i0 (.int .i64 0) 8 Try.underlying22 hi hz0 hz1 hz2 rfl _ _ rfl (HQV.out.kept (World.grownBy_alloc _ _ none) (by simp[Value.ownBlock])) ⟨w5.heap.size,0,none⟩ 1 (.int .i64 (y:Nat)) rfl (block_cell (alloc_at hsV.symm) rfl) rfl (by rw[nats_len];unfold maxLen;omega) (by rw[nats_len];omega) (by simp;omega) ?_;intro v8 w8 hq8 hg8;refine Hid.out ?_))
           refine Lib.hid ?_
           have hq8':QueAt w8 (w.heap.size+1) 3 v8 (nats (td++[y])):=by rw[nats_app];exact hq8
           have hr8:=(HRV.out.alloc (.cells #[.int .i64 (y:Nat)] 3)).kept hg8 (Or.inr (fun e=>by have:gP=g1:=Option.some.inj e;omega))
           have HR8:Hid (w8.ownsRow B 3 1 (.slice (some ⟨gP,0,none⟩) C.length cP) C.length (intsV (P1.set y (num:Int)))):=hr8
           have HG8:Hid (w.grownBy w8 (some gP)):=grown_new (grown_trans HGV.out (World.grownBy_alloc _ _ _)) hg8 (fun q hq=>by have:g1=q:=Option.some.inj hq;omega)
           have HT8:Hid (w8.heap[w.heap.size]?=some (.cells #[.slice (some ⟨b,ob,none⟩) C.length cap,.int .i64 loops,.slice (some ⟨gF,0,none⟩) (2*C.length+1) cF,.slice (some ⟨gT,0,none⟩) (2*C.length+1) cT] 52 (0,0))):=(hg8.block _ (by simp;omega) (fun e=>by have:w.heap.size=g1:=Option.some.inj e;omega)).trans (alloc_old HTV.out)
           have hs8:w5.heap.size+1<=w8.heap.size:=by have:=hg8.size;simp at this;omega
           obtain⟨g8,o8,c8,e8,-⟩:=hq8'.shape
           rw[nats_len]at e8
           subst e8
           have HQ8:Hid (QueAt w8 (w.heap.size+1) 3 (.slice (some ⟨g8,o8,none⟩) (td++[y]).length c8) (nats (td++[y]))):=hq8'
           clear hq8 hq8' hr8 hg8 e0 z0
           go_wp2
           go_roundw
           case rel=>exact⟨td++[y],P1.set y (num:Int),s+1,g8,o8,c8,by omega,by go_num,rfl,(by have:=hme.out;have:=HUN.out;simp only[List.length_append,List.length_cons,List.length_nil];omega:unI (P1.set y (num:Int))+(td++[y]).length=unI P+([]:List Nat).length),HSN.out,HQ8.out,HR8.out,HG8.out,HT8.out,by omega⟩
           case measure=>simp only[intOf];omega
         · have hde:(q == -1)=false:=by simp[hqm]
           have HSO:Hid (Spr C P0 P1 f num td k (s+1)):=hsp.out.old_side (by rw[HYN.out,HQQ.out];exact hqm)
           go_wp2
           go_roundw
           case rel=>exact⟨td,P1,s+1,g1,o1,c1,by omega,by go_num,rfl,hme.out,HSO.out,HQ5.out,HR5.out,HG5.out,HT5.out,by omega⟩
           case measure=>simp only[intOf];omega
      · obtain rfl:s=4:=by omega
        go_wp2
        go_roundw
        case rel=>exact⟨td,P1,k,g1,o1,c1,rfl,(by have:=hme.out;have:=hun.out;simp only[List.length_cons]at this;omega:unI P1+td.length<=100),hsp.out,hqu.out,hpr3.out,hgr3.out,hbox3.out,hsz3⟩
        case measure=>
         rw[unC_row hpr3.out,HM0.out]
         have:=hme.out
         simp only[lenOf,List.length_cons]
         omega
   · have HQT:Hid (QueAt W1 (w.heap.size+1) 3 (.slice (some ⟨g,off+1,none⟩) todo.length (cq-1)) (nats todo)):=hqu.out.tail
     have hc2:¬ (cq-1=0):=by omega
     clear hc1 hqu hsp
     go_wp2
     simp only[List.length_cons]
     go_loopw [8,26] (fun v8 v26 wr=>∃ (td:List Nat) (P1:List Int) (s g1 o1 c1:Nat),s<=4/\v26=.int .i64 (s:Nat)/\v8=.slice (some ⟨g1,o1,none⟩) td.length c1/\Hid (unI P1+td.length=unI P+todo.length)/\Hid (Spr C P0 P1 f num td k s)/\Hid (QueAt wr (w.heap.size+1) 3 v8 (nats td))/\Hid (wr.ownsRow B 3 1 (.slice (some ⟨gP,0,none⟩) C.length cP) C.length (intsV P1))/\Hid (w.grownBy wr (some gP))/\Hid (wr.heap[w.heap.size]?=some (.cells #[.slice (some ⟨b,ob,none⟩) C.length cap,.int .i64 loops,.slice (some ⟨gF,0,none⟩) (2*C.length+1) cF,.slice (some ⟨gT,0,none⟩) (2*C.length+1) cT] 52 (0,0)))/\w.heap.size+1<=wr.heap.size) (fun _ v26 _=>4-(intOf v26).toNat)
     case atStart=>exact⟨todo,P,0,_,_,_,Nat.zero_le _,rfl,rfl,(rfl:unI P+todo.length=unI P+todo.length),HSP.out,HQT.out,hpr.out,hgr.out,hbox.out,hsz⟩
     case round =>
      rename World=>W3
      obtain⟨td,P1,s,g1,o1,c1,hs4,rfl,rfl,hme,hsp,hqu,hpr3,hgr3,hbox3,hsz3⟩:=hrel
      by_cases hsl:s<4
      · have hds:decide ((s:Int)<4)=true:=by simp;omega
        have HB03:Hid (Below w00.heap.size w00 W3):=HB0.out.grown hgr3.out HB0.out.size (fun q hq=>by have:=Option.some.inj hq;omega)
        have hs03:=HB03.out.size
        obtain⟨n1,n2,-⟩:=en_one HM.out k s hkn hsl
        have hnb:=nb_lt HM.out k s hkn hsl
        have hfit:=(may_fit HM.out k s hkn hsl).1
        obtain⟨x,hx⟩:∃ x,((C.getD k Cr.none).arc s).toNat=x:=⟨_,rfl⟩
        have harc:(C.getD k Cr.none).arc s=(x:Int):=by omega
        obtain⟨p,hp⟩:∃ p,(C.getD k Cr.none).comes s=p:=⟨_,rfl⟩
        obtain⟨y,hy⟩:∃ y,nbC C k s=y:=⟨_,rfl⟩
        have hey:enC C x (!p)=y:=by rw[<-hy];unfold nbC;rw[hx,hp]
        obtain⟨ys,hys⟩:∃ ys,enS C x (!p)=ys:=⟨_,rfl⟩
        rw[hx]at n1 n2
        have HLV:Hid (∀ V,Below w00.heap.size w00 V->Calls Try.prog 59 #[.agg #[.slice (some ⟨b,ob,none⟩) C.length cap,.int .i64 loops,.slice (some ⟨gF,0,none⟩) (2*C.length+1) cF,.slice (some ⟨gT,0,none⟩) (2*C.length+1) cT],.agg #[.int .i64 k,.int .i64 s]] V fun e w'=>e=.returned (.agg #[.int .i64 (x:Nat),.bool p])/\Below V.heap.size V w'):=fun V hV=>by
         have h:=leaving_any b ob cap C loops (.slice (some ⟨gF,0,none⟩) (2*C.length+1) cF) (.slice (some ⟨gT,0,none⟩) (2*C.length+1) cT) k s V hkn hsl (HCD.out V hV).2 (HCD.out V hV).1
         rw[harc,hp]at h
         exact h
        have HEV:Hid (∀ V,Below w00.heap.size w00 V->Calls Try.prog 35 #[.agg #[.slice (some ⟨b,ob,none⟩) C.length cap,.int .i64 loops,.slice (some ⟨gF,0,none⟩) (2*C.length+1) cF,.slice (some ⟨gT,0,none⟩) (2*C.length+1) cT],.agg #[.int .i64 (x:Nat),.bool p]] V fun e w'=>e=.returned (.agg #[.int .i64 (y:Nat),.int .i64 (ys:Nat)])/\Below V.heap.size V w'):=fun V hV=>by
         have h:=end_any (some ⟨b,ob,none⟩) cap C loops gF cF gT cT x p V HM.out n1 n2 (HDD.out V hV)
         rw[hey,hys]at h
         exact h
        rw[hy]at hnb
        have HYN:Hid (nbC C k s=y):=hy
        have HF:Hid (∀ w',Below W3.heap.size W3 w'->w'.cell? ⟨w.heap.size,0,none⟩=some (.slice (some ⟨b,ob,none⟩) C.length cap)/\w'.cell? ⟨w.heap.size,1,none⟩=some (.int .i64 loops)/\w'.cell? ⟨w.heap.size,2,none⟩=some (.slice (some ⟨gF,0,none⟩) (2*C.length+1) cF)/\w'.cell? ⟨w.heap.size,3,none⟩=some (.slice (some ⟨gT,0,none⟩) (2*C.length+1) cT)):=fun w' hb=>by
         have g:=(hb.block _ (by omega)).trans hbox3.out
         exact⟨block_cell g rfl,block_cell g rfl,block_cell g rfl,block_cell g rfl⟩
        have HD3:Hid (Below W3.heap.size W3 W3.drew):=(Below.refl _ _).drew
        have H0:Hid (∀ w',Below W3.heap.size W3 w'->Below w00.heap.size w00 w'):=fun w' hb=>HB03.out.trans (hb.mono hs03)
        have hfs:=field_spotD
        have hlP1:P1.length=C.length:=hsp.out.len
        have htd:td.length<=100:=by have:=hme.out;have:=hun.out;simp only[List.length_cons]at this;omega
        have hgb:=hqu.out.size.2.2.2
        have hc1b:=hqu.out.size.2.1
        clear n1 n2 hfit hx harc hp hey hys hy
        go_wp2
        obtain⟨t0,t1,t2,t3⟩:=HF.out W3 (Below.refl _ _)
        go_region_held3 (fun w' => w'.cell? ⟨w.heap.size, 0, none⟩ = some (.slice (some ⟨b, ob, none⟩) C.length cap) ∧ w'.cell? ⟨w.heap.size, 1, none⟩ = some (.int .i64 loops) ∧ w'.cell? ⟨w.heap.size, 2, none⟩ = some (.slice (some ⟨gF, 0, none⟩) (2 * C.length + 1) cF) ∧ w'.cell? ⟨w.heap.size, 3, none⟩ = some (.slice (some ⟨gT, 0, none⟩) (2 * C.length + 1) cT)) (first | exact HF.out _ H5.out | exact HF.out _ H4.out | exact HF.out _ HD3.out) (first
         | (go_at_call 59; refine (HLV.out W3.drew (H0.out _ HD3.out)).mono ?_; rintro e9 w4 ⟨rfl, hb4⟩
            have H4:Hid (Below W3.heap.size W3 w4):=HD3.out.trans (hb4.mono HD3.out.size)
            clear hb4)
         | (go_at_call 35; refine (HEV.out _ (H0.out _ H4.out)).mono ?_; rintro e9 w5 ⟨rfl, hb5⟩
            have H5:Hid (Below W3.heap.size W3 w5):=H4.out.trans (hb5.mono H4.out.size)
            clear hb5))
        all_goals
         clear t0 t1 t2 t3 hfs
         have hs5:=H5.out.size
         have hg5:W3.grownBy w5 none:=grown_below H5.out none
         have HR5:Hid (w5.ownsRow B 3 1 (.slice (some ⟨gP,0,none⟩) C.length cP) C.length (intsV P1)):=own_any hpr3.out hg5
         have HQ5:Hid (QueAt w5 (w.heap.size+1) 3 (.slice (some ⟨g1,o1,none⟩) td.length c1) (nats td)):=hqu.out.kept hg5 (by simp[Value.ownBlock])
         have HG5:Hid (w.grownBy w5 (some gP)):=grown_new hgr3.out hg5 (fun q hq=>by cases hq)
         have HT5:Hid (w5.heap[w.heap.size]?=some (.cells #[.slice (some ⟨b,ob,none⟩) C.length cap,.int .i64 loops,.slice (some ⟨gF,0,none⟩) (2*C.length+1) cF,.slice (some ⟨gT,0,none⟩) (2*C.length+1) cT] 52 (0,0))):=(H5.out.block _ (by omega)).trans hbox3.out
         have e0:w5.cell? ⟨gP,y,none⟩=some (.int .i64 (P1.getD y 0)):=by
          rw[HR5.out.cellAt y (by omega)];exact intsV_get P1 y (by omega)
         have z0:w5.frozen? ⟨gP,y,none⟩=false:=HR5.out.frozenAt y
         have lg:gP<w5.heap.size:=by omega
         obtain⟨q,hq⟩:∃ q,P1.getD y 0=q:=⟨_,rfl⟩
         rw[hq]at e0
         have HQQ:Hid (P1.getD y 0=q):=hq
         clear hg5 hq
         by_cases hqm:q = -1
         · have hde:(q == -1)=true:=by simp[hqm]
           have HSN : Hid (Spr C P0 (P1.set y (num : Int)) f num (td ++ [y]) k (s + 1)) := (by
            have h:=hsp.out.new_side HM.out (by omega) hkn hsl HKC.out (by rw[HYN.out,HQQ.out];exact hqm)
            rw[HYN.out]at h
            exact h:Spr C P0 (P1.set y (num:Int)) f num (td++[y]) k (s+1))
           have HUN:Hid (unI (P1.set y (num:Int))+1=unI P1):=unI_set (by omega) (by rw[HQQ.out];exact hqm) (by omega)
           have hst:=HR5.out.stored y (.int .i64 ((num:Nat):Int))
           rw[intsV_set]at hst
           have HRV:Hid ((w5.setCell ⟨gP,y,none⟩ (.int .i64 ((num:Nat):Int))).ownsRow B 3 1 (.slice (some ⟨gP,0,none⟩) C.length cP) C.length (intsV (P1.set y (num:Int)))):=hst.1
           have HQV:Hid (QueAt (w5.setCell ⟨gP,y,none⟩ (.int .i64 ((num:Nat):Int))) (w.heap.size+1) 3 (.slice (some ⟨g1,o1,none⟩) td.length c1) (nats td)):=HQ5.out.kept hst.2 (fun e=>by have:g1=gP:=Option.some.inj e;omega)
           have HGV:Hid (w.grownBy (w5.setCell ⟨gP,y,none⟩ (.int .i64 ((num:Nat):Int))) (some gP)):=grown_trans HG5.out hst.2
           have HTV:Hid ((w5.setCell ⟨gP,y,none⟩ (.int .i64 ((num:Nat):Int))).heap[w.heap.size]?=some (.cells #[.slice (some ⟨b,ob,none⟩) C.length cap,.int .i64 loops,.slice (some ⟨gF,0,none⟩) (2*C.length+1) cF,.slice (some ⟨gT,0,none⟩) (2*C.length+1) cT] 52 (0,0))):=(hst.2.block _ (by omega) (fun e=>by have:w.heap.size=gP:=Option.some.inj e;omega)).trans HT5.out
           have hsV:(w5.setCell ⟨gP,y,none⟩ (.int .i64 ((num:Nat):Int))).heap.size=w5.heap.size:=by simp
           clear hst hqm
           go_wp2_with (first
            |(at_builtin;refine wpList_append_que _ rfl _ _ 22 rfl (w.heap.size+1) 3 i0 (.int .i64 0) 8 Try.underlying22 hi hz0 hz1 hz2 rfl _ _ rfl (HQV.out.kept (World.grownBy_alloc _ _ none) (by simp[Value.ownBlock])) ⟨w5.heap.size,0,none⟩ 1 (.int .i64 (y:Nat)) rfl (block_cell (alloc_at hsV.symm) rfl) rfl (by rw[nats_len];unfold maxLen;omega) (by rw[nats_len];omega) (by simp;omega) ?_;intro v8 w8 hq8 hg8;refine Hid.out ?_))
           refine Lib.hid ?_
           have hq8':QueAt w8 (w.heap.size+1) 3 v8 (nats (td++[y])):=by rw[nats_app];exact hq8
           have hr8:=(HRV.out.alloc (.cells #[.int .i64 (y:Nat)] 3)).kept hg8 (Or.inr (fun e=>by have:gP=g1:=Option.some.inj e;omega))
           have HR8:Hid (w8.ownsRow B 3 1 (.slice (some ⟨gP,0,none⟩) C.length cP) C.length (intsV (P1.set y (num:Int)))):=hr8
           have HG8:Hid (w.grownBy w8 (some gP)):=grown_new (grown_trans HGV.out (World.grownBy_alloc _ _ _)) hg8 (fun q hq=>by have:g1=q:=Option.some.inj hq;omega)
           have HT8:Hid (w8.heap[w.heap.size]?=some (.cells #[.slice (some ⟨b,ob,none⟩) C.length cap,.int .i64 loops,.slice (some ⟨gF,0,none⟩) (2*C.length+1) cF,.slice (some ⟨gT,0,none⟩) (2*C.length+1) cT] 52 (0,0))):=(hg8.block _ (by simp;omega) (fun e=>by have:w.heap.size=g1:=Option.some.inj e;omega)).trans (alloc_old HTV.out)
           have hs8:w5.heap.size+1<=w8.heap.size:=by have:=hg8.size;simp at this;omega
           obtain⟨g8,o8,c8,e8,-⟩:=hq8'.shape
           rw[nats_len]at e8
           subst e8
           have HQ8:Hid (QueAt w8 (w.heap.size+1) 3 (.slice (some ⟨g8,o8,none⟩) (td++[y]).length c8) (nats (td++[y]))):=hq8'
           clear hq8 hq8' hr8 hg8 e0 z0
           go_wp2
           go_roundw
           case rel=>exact⟨td++[y],P1.set y (num:Int),s+1,g8,o8,c8,by omega,by go_num,rfl,(by have:=hme.out;have:=HUN.out;simp only[List.length_append,List.length_cons,List.length_nil];omega:unI (P1.set y (num:Int))+(td++[y]).length=unI P+todo.length),HSN.out,HQ8.out,HR8.out,HG8.out,HT8.out,by omega⟩
           case measure=>simp only[intOf];omega
         · have hde:(q == -1)=false:=by simp[hqm]
           have HSO:Hid (Spr C P0 P1 f num td k (s+1)):=hsp.out.old_side (by rw[HYN.out,HQQ.out];exact hqm)
           go_wp2
           go_roundw
           case rel=>exact⟨td,P1,s+1,g1,o1,c1,by omega,by go_num,rfl,hme.out,HSO.out,HQ5.out,HR5.out,HG5.out,HT5.out,by omega⟩
           case measure=>simp only[intOf];omega
      · obtain rfl:s=4:=by omega
        go_wp2
        go_roundw
        case rel=>exact⟨td,P1,k,g1,o1,c1,rfl,(by have:=hme.out;have:=hun.out;simp only[List.length_cons]at this;omega:unI P1+td.length<=100),hsp.out,hqu.out,hpr3.out,hgr3.out,hbox3.out,hsz3⟩
        case measure=>
         rw[unC_row hpr3.out,HM0.out]
         have:=hme.out
         simp only[lenOf,List.length_cons]
         omega
end Go.Proofs.Ytgagenmkpmmpfaa
/- The walk of Drawing.Pieces. -/
namespace Go.Proofs.Ytgagenmkpmmpfaa
open Go.RowKit
set_option maxHeartbeats 16000000
set_option maxRecDepth 100000
def negTo (n i:Nat):List Int:=(List.range n).map fun v=>if v<i then -1 else 0
theorem negTo_zero (n:Nat):List.replicate n (0:Int)=negTo n 0:=by
 refine List.ext_getElem (by simp[negTo]) fun j h1 h2=>?_
 simp[negTo]
theorem negTo_next (n i:Nat):(negTo n i).set i (-1)=negTo n (i+1):=by
 refine List.ext_getElem (by simp[negTo]) fun j h1 h2=>?_
 simp only[List.getElem_set,negTo,List.getElem_map,List.getElem_range]
 split
 · rename_i h;subst h;simp
 · rename_i h
   by_cases h3:j<i
   · rw[if_pos h3,if_pos (by omega)]
   · rw[if_neg h3,if_neg (by omega)]
theorem negTo_all (n:Nat):negTo n n=List.replicate n (-1):=by
 refine List.ext_getElem (by simp[negTo]) fun j h1 h2=>?_
 simp only[negTo,List.getElem_map,List.getElem_range,List.getElem_replicate]
 rw[if_pos (by simpa[negTo] using h1)]
theorem pieces_any (a : Option Addr) (cap : Nat) (C : List Cr) (loops : Int) (gF cF gT cT : Nat) (w : World) (hm : mayD C loops = true) (hD : Dr w a cap C gF gT) :
    Calls Try.prog 33 #[drV a cap C loops gF cF gT cT] w fun e w'=>∃ gP cP P c,e=.returned (.tuple #[.slice (some ⟨gP,0,none⟩) C.length cP,.int .i64 (c:Nat)])/\w'.ownsRow w.heap.size 3 1 (.slice (some ⟨gP,0,none⟩) C.length cP) C.length (intsV P)/\PcsAll C P c/\Below w.heap.size w w':=by
 obtain⟨s1,-,-,-⟩:=sizeB_iff (may_size hm)
 obtain⟨i2,hk,hx0,hx1,hx2⟩:=info_parts infoInt
 have HM:=hidB hm
 have HD:=hidB hD
 unfold drV
 clear hm hD
 obtain⟨w0,hw0⟩:∃ w0,w0=w.alloc (.cells #[.slice a C.length cap,.int .i64 loops,.slice (some ⟨gF,0,none⟩) (2*C.length+1) cF,.slice (some ⟨gT,0,none⟩) (2*C.length+1) cT] 52):=⟨_,rfl⟩
 have HW0:=hidB hw0
 have hs0:w0.heap.size=w.heap.size+1:=by rw[hw0];simp
 have HB0:=hidB (show Below w.heap.size w w0 by rw[hw0];exact(Below.refl _ _).alloc (Nat.le_refl _) _)
 have HT0:=hidB (show w0.heap[w.heap.size]?=some (.cells #[.slice a C.length cap,.int .i64 loops,.slice (some ⟨gF,0,none⟩) (2*C.length+1) cF,.slice (some ⟨gT,0,none⟩) (2*C.length+1) cT] 52 (0,0)) by rw[hw0];exact alloc_at rfl)
 clear hw0
 go_enter Try.func33,Try.ntmps33
 go_wp2_with (first|(at_make;refine wpList_make_full _ rfl _ _ 22 rfl (w.heap.size+1) 3 i2 (.int .i64 0) 1 Try.underlying22 hk hx0 hx1 .i64 .i64 _ _ C.length rfl rfl rfl rfl (by rw[hx2];omega) (by unfold maxLen;omega) (by simp) ?_;intro w1 hrow hg1;refine Hid.out ?_))
 refine Lib.hid ?_
 rw[<-HW0.out]at hrow hg1
 rw[made_zero,hs0,negTo_zero]at hrow
 have HP0:Hid (w1.heap[w.heap.size]?=some (.cells #[.slice a C.length cap,.int .i64 loops,.slice (some ⟨gF,0,none⟩) (2*C.length+1) cF,.slice (some ⟨gT,0,none⟩) (2*C.length+1) cT] 52 (0,0))/\w1.ownsRow (w.heap.size+1) 3 1 (.slice (some ⟨w.heap.size+1,0,none⟩) C.length C.length) C.length (intsV (negTo C.length 0))/\Below w.heap.size w w1):=⟨(hg1.block _ (by omega) (by simp)).trans HT0.out,hrow,HB0.out.grown hg1 (by omega) (fun k hk=>by cases hk)⟩
 clear hrow hg1 HT0 HB0 hs0 HW0
 go_wp2
 go_loopw [15] (fun v15 wr=>∃ i:Nat,i<=C.length/\v15=.int .i64 (i:Nat)/\Hid (wr.heap[w.heap.size]?=some (.cells #[.slice a C.length cap,.int .i64 loops,.slice (some ⟨gF,0,none⟩) (2*C.length+1) cF,.slice (some ⟨gT,0,none⟩) (2*C.length+1) cT] 52 (0,0))/\wr.ownsRow (w.heap.size+1) 3 1 (.slice (some ⟨w.heap.size+1,0,none⟩) C.length C.length) C.length (intsV (negTo C.length i))/\Below w.heap.size w wr)) (fun v15 _=>C.length-(intOf v15).toNat)
 case atStart=>exact⟨0,Nat.zero_le _,rfl,HP0.out⟩
 case round=>
  clear HP0
  rename World=>W1
  obtain⟨i,hin,rfl,hp⟩:=hrel
  have hlt:=hp.out.2.1.lt (w.heap.size+1) rfl
  by_cases hil:i<C.length
  · have hst:=hp.out.2.1.stored i (.int .i64 (-1))
    rw[intsV_set,negTo_next]at hst
    have HST:Hid ((W1.setCell ⟨w.heap.size+1,i,none⟩ (.int .i64 (-1))).heap[w.heap.size]?=some (.cells #[.slice a C.length cap,.int .i64 loops,.slice (some ⟨gF,0,none⟩) (2*C.length+1) cF,.slice (some ⟨gT,0,none⟩) (2*C.length+1) cT] 52 (0,0))/\(W1.setCell ⟨w.heap.size+1,i,none⟩ (.int .i64 (-1))).ownsRow (w.heap.size+1) 3 1 (.slice (some ⟨w.heap.size+1,0,none⟩) C.length C.length) C.length (intsV (negTo C.length (i+1)))/\Below w.heap.size w (W1.setCell ⟨w.heap.size+1,i,none⟩ (.int .i64 (-1)))):=⟨(hst.2.block _ (by omega) (fun e=>by have:w.heap.size=w.heap.size+1:=Option.some.inj e;omega)).trans hp.out.1,hst.1,hp.out.2.2.grown hst.2 hp.out.2.2.size (fun q hq=>by have:=Option.some.inj hq;omega)⟩
    have e0:W1.cell? ⟨w.heap.size+1,i,none⟩=some (.int .i64 ((negTo C.length i).getD i 0)):=by
     rw[hp.out.2.1.cellAt i (by omega)];exact intsV_get _ i (by simp[negTo];omega)
    have z0:W1.frozen? ⟨w.heap.size+1,i,none⟩=false:=hp.out.2.1.frozenAt i
    clear hst
    go_wp2
    go_roundw
    case rel=>exact⟨i+1,by omega,by go_num,HST.out⟩
    case measure=>simp only[intOf];omega
  · obtain rfl:i=C.length:=by omega
    have HPC:=hidB (Pcs.start C _ (negTo_all _) (arcE_lt HM.out))
    have HP1:=hidB hp.out
    clear hp
    go_wp2
    go_loopw [6,24] (fun v6 v24 wr=>∃ (k c:Nat) (P:List Int),k<=C.length/\v24=.int .i64 (k:Nat)/\v6=.int .i64 (c:Nat)/\Hid (Pcs C P c k)/\Hid (wr.heap[w.heap.size]?=some (.cells #[.slice a C.length cap,.int .i64 loops,.slice (some ⟨gF,0,none⟩) (2*C.length+1) cF,.slice (some ⟨gT,0,none⟩) (2*C.length+1) cT] 52 (0,0))/\wr.ownsRow (w.heap.size+1) 3 1 (.slice (some ⟨w.heap.size+1,0,none⟩) C.length C.length) C.length (intsV P)/\Below w.heap.size w wr)) (fun _ v24 _=>C.length-(intOf v24).toNat)
    case atStart=>exact⟨0,0,_,Nat.zero_le _,rfl,rfl,HPC.out,HP1.out⟩
    case round=>
     clear HP1 HPC hlt
     rename World=>W3
     obtain⟨k,c,P,hkn,rfl,rfl,hpc,hp⟩:=hrel
     have hlt:=hp.out.2.1.lt (w.heap.size+1) rfl
     have hck:=hpc.out.few
     have hsW:=hp.out.2.2.size
     by_cases hkl:k<C.length
     · have e0 : W3.cell? ⟨w.heap.size + 1, k, none⟩ = some (.int .i64 (P.getD k 0)) := by
         rw[hp.out.2.1.cellAt k (by omega)];exact intsV_get _ k (by rw[hpc.out.len];exact hkl)
       obtain⟨q,hq⟩:∃ q,P.getD k 0=q:=⟨_,rfl⟩
       rw[hq]at e0
       have HQ:=hidB hq
       clear hq
       by_cases hqm:q = -1
       · have HQM:Hid (P.getD k 0 = -1):=(by rw[HQ.out];exact hqm:P.getD k 0 = -1)
         have hde:(q == -1)=true:=by simp[hqm]
         have HSC:Hid (∀ V,Below W3.heap.size W3 V->V.ownsRow (w.heap.size+1) 3 1 (.slice (some ⟨w.heap.size+1,0,none⟩) C.length C.length) C.length (intsV P)->Calls Try.prog 48 #[.agg #[.slice a C.length cap,.int .i64 loops,.slice (some ⟨gF,0,none⟩) (2*C.length+1) cF,.slice (some ⟨gT,0,none⟩) (2*C.length+1) cT],.slice (some ⟨w.heap.size+1,0,none⟩) C.length C.length,.int .i64 k,.int .i64 c] V fun e w'=>e=.returned (.tuple #[])/\∃ P2 k2,Spr C P P2 k c [] k2 4/\w'.ownsRow (w.heap.size+1) 3 1 (.slice (some ⟨w.heap.size+1,0,none⟩) C.length C.length) C.length (intsV P2)/\V.grownBy w' (some (w.heap.size+1))):=fun V hV hrow=>
          spread_any a cap C loops gF cF gT cT (w.heap.size + 1) C.length (w.heap.size + 1) P k c w V HM.out HD.out (hp.out.2.2.trans (hV.mono hsW)) (by omega) hrow hkl HQM.out (fun v hv => by
           rcases hpc.out.vals v hv with h|h
           · rw[h];omega
           · omega)
         have p0:=block_cell (i:=0) hp.out.1 rfl
         have p1:=block_cell (i:=1) hp.out.1 rfl
         have p2:=block_cell (i:=2) hp.out.1 rfl
         have p3:=block_cell (i:=3) hp.out.1 rfl
         clear hqm
         go_wp2_with (go_at_call 48;refine(HSC.out _ (Below.refl _ _) hp.out.2.1).mono ?_;rintro e9 w4 ⟨rfl,P2,k2,hsp,hr4,hg4⟩;refine Hid.out ?_)
         refine Lib.hid ?_
         have HPN:=hidB (hpc.out.more HM.out hkl HQM.out hsp)
         have HP4:Hid (w4.heap[w.heap.size]?=some (.cells #[.slice a C.length cap,.int .i64 loops,.slice (some ⟨gF,0,none⟩) (2*C.length+1) cF,.slice (some ⟨gT,0,none⟩) (2*C.length+1) cT] 52 (0,0))/\w4.ownsRow (w.heap.size+1) 3 1 (.slice (some ⟨w.heap.size+1,0,none⟩) C.length C.length) C.length (intsV P2)/\Below w.heap.size w w4):=⟨(hg4.block _ (by omega) (fun e=>by have:w.heap.size=w.heap.size+1:=Option.some.inj e;omega)).trans hp.out.1,hr4,hp.out.2.2.grown hg4 hsW (fun q hq=>by have:=Option.some.inj hq;omega)⟩
         clear p0 p1 p2 p3 hsp hr4 hg4
         go_wp2
         go_roundw
         case rel=>exact⟨k+1,c+1,P2,by omega,by go_num,by go_num,HPN.out,HP4.out⟩
         case measure=>simp only[intOf];omega
       · have hde:(q == -1)=false:=by simp[hqm]
         have HPN:Hid (Pcs C P c (k+1)):=hpc.out.skip (by rw[HQ.out];exact hqm)
         go_wp2
         go_roundw
         case rel=>exact⟨k+1,c,P,by omega,by go_num,rfl,HPN.out,hp.out⟩
         case measure=>simp only[intOf];omega
     · obtain rfl:k=C.length:=by omega
       go_wp2
       exact bodyPost_ret (v:=.tuple #[.slice (some ⟨w.heap.size+1,0,none⟩) C.length C.length,.int .i64 (c:Nat)]) (by simp[results,Try.results33,go_sem]) rfl ⟨w.heap.size+1,C.length,P,c,rfl,own_low hp.out.2.1 (by omega),hpc.out.all,hp.out.2.2⟩
end Go.Proofs.Ytgagenmkpmmpfaa
/- The walk of Drawing.OnSphere, the rings of FaceRings being given. -/
namespace Go.Proofs.Ytgagenmkpmmpfaa
open Go.RowKit
def FaceRingsOk : Prop := ∀ (a : Option Addr) (cap : Nat) (C : List Cr) (loops : Int) (gF cF gT cT : Nat) (w : World), mayD C loops = true → Dr w a cap C gF gT →
    Calls Try.prog 34 #[drV a cap C loops gF cF gT cT] w fun e w'=>∃ v,e=.returned v/\DartsOwn w' w.heap.size v (facesM C)/\Below w.heap.size w w'
def cntI (P:List Int) (p i:Nat):Nat:=(List.range i).countP fun v=>decide (P.getD v 0=(p:Int))
theorem cntI_next (P:List Int) (p i:Nat):cntI P p (i+1)=cntI P p i+if P.getD i 0=(p:Int) then 1 else 0:=by
 unfold cntI
 rw[List.range_succ,List.countP_append]
 congr 1
 by_cases h:P.getD i 0=(p:Int)
 · rw[if_pos h];simp only[List.countP_cons,List.countP_nil,h,decide_true,if_true]
 · rw[if_neg h];simp only[List.countP_cons,List.countP_nil,h,decide_false];rfl
theorem cntI_le (P:List Int) (p i:Nat):cntI P p i<=i:=by
 have:=List.countP_le_length (p:=fun v=>decide (P.getD v 0=(p:Int))) (l:=List.range i)
 simpa[cntI] using this
def cntH (G:List Nat) (P:List Int) (p i:Nat):Nat:=(G.take i).countP fun g=>decide (P.getD g 0=(p:Int))
theorem cntH_next (G:List Nat) (P:List Int) (p i:Nat) (hi:i<G.length):cntH G P p (i+1)=cntH G P p i+if P.getD (G.getD i 0) 0=(p:Int) then 1 else 0:=by
 unfold cntH
 rw[List.take_add_one,List.countP_append]
 congr 1
 have e:G[i]?=some (G.getD i 0):=by rw[List.getD_eq_getElem?_getD,List.getElem?_eq_getElem hi];rfl
 rw[e]
 by_cases h:P.getD (G.getD i 0) 0=(p:Int)
 · rw[if_pos h];simp only[Option.toList_some,List.countP_cons,List.countP_nil,h,decide_true,if_true]
 · rw[if_neg h];simp only[Option.toList_some,List.countP_cons,List.countP_nil,h,decide_false];rfl
theorem cntH_le (G:List Nat) (P:List Int) (p i:Nat):cntH G P p i<=G.length:=by
 have:=List.countP_le_length (p:=fun g=>decide (P.getD g 0=(p:Int))) (l:=G.take i)
 unfold cntH
 have h3:(G.take i).length<=G.length:=by rw[List.length_take];omega
 omega
def exL (G:List Nat) (P:List Int) (c i j:Nat):List Int:=(List.range c).map fun p=>(cntH G P p j:Int)-(cntI P p i:Int)
theorem exL_len (G:List Nat) (P:List Int) (c i j:Nat):(exL G P c i j).length=c:=by simp[exL]
theorem exL_at (G:List Nat) (P:List Int) (c i j p:Nat) (hp:p<c):(exL G P c i j).getD p 0=(cntH G P p j:Int)-(cntI P p i:Int):=by
 simp[exL,List.getD_eq_getElem?_getD,hp]
theorem exL_zero (G:List Nat) (P:List Int) (c:Nat):List.replicate c (0:Int)=exL G P c 0 0:=by
 refine List.ext_getElem (by simp[exL]) fun j h1 h2=>?_
 simp[exL,cntH,cntI]
theorem exL_less (G:List Nat) (P:List Int) (c i q:Nat) (hq:P.getD i 0=(q:Int)) (hc:q<c):(exL G P c i 0).set q ((exL G P c i 0).getD q 0-1)=exL G P c (i+1) 0:=by
 rw[exL_at _ _ _ _ _ _ hc]
 refine List.ext_getElem (by simp[exL]) fun j h1 h2=>?_
 rw[List.getElem_set]
 simp only[exL,List.getElem_map,List.getElem_range]
 rw[cntI_next]
 split
 · rename_i h;subst h;rw[if_pos hq];omega
 · rename_i h;rw[if_neg (fun e=>h (by rw[hq]at e;omega))];rfl
theorem exL_more (G:List Nat) (P:List Int) (c i j q:Nat) (hj:j<G.length) (hq:P.getD (G.getD j 0) 0=(q:Int)) (hc:q<c):(exL G P c i j).set q ((exL G P c i j).getD q 0+1)=exL G P c i (j+1):=by
 rw[exL_at _ _ _ _ _ _ hc]
 refine List.ext_getElem (by simp[exL]) fun k h1 h2=>?_
 rw[List.getElem_set]
 simp only[exL,List.getElem_map,List.getElem_range]
 rw[cntH_next _ _ _ _ hj]
 split
 · rename_i h;subst h;rw[if_pos hq];omega
 · rename_i h;rw[if_neg (fun e=>h (by rw[hq]at e;omega))];rfl
theorem exL_ex (n:Nat) (G:List Nat) (P:List Int) (c p:Nat) (hp:p<c):(exL G P c n G.length).getD p 0=exI n G P p:=by
 rw[exL_at _ _ _ _ _ _ hp]
 unfold exI cntH cntI
 rw[List.take_length]
theorem planar_pieces {C:List Cr} {loops:Int} (hm:mayD C loops=true) {P:List Int} {c:Nat} (hP:PcsAll C P c):planarB C=true↔∀ p,p<c->exI C.length (headsM C) P p=2:=by
 rw[planarB_iff]
 exact(sphere_iff hP (whoM_least hm) (headsM_lt hm)).symm
end Go.Proofs.Ytgagenmkpmmpfaa
/- The walk of Drawing.OnSphere, the rings of FaceRings being given. -/
namespace Go.Proofs.Ytgagenmkpmmpfaa
open Go.RowKit
set_option maxHeartbeats 16000000
set_option maxRecDepth 100000
theorem onSphere_any (hFR : FaceRingsOk) (a : Option Addr) (cap : Nat) (C : List Cr) (loops : Int) (gF cF gT cT : Nat) (w : World) (hm : mayD C loops = true) (hD : Dr w a cap C gF gT) :
    Calls Try.prog 18 #[drV a cap C loops gF cF gT cT] w fun e w'=>e=.returned (.bool (planarB C))/\Below w.heap.size w w':=by
 obtain⟨s1,-,-,-⟩:=sizeB_iff (may_size hm)
 obtain⟨i2,hk,hx0,hx1,hx2⟩:=info_parts infoInt
 have HM:Hid (mayD C loops=true):=hm
 have HD:Hid (Dr w a cap C gF gT):=hD
 have HFA:Hid FaceRingsOk:=hFR
 obtain⟨hfl,hfr⟩:=facesM_facts hm
 have HFR:Hid (∀ j,j<(facesM C).length->0<((facesM C).getD j []).length/\((facesM C).getD j []).length<=4*C.length+1/\∀ k,k<((facesM C).getD j []).length->1<=((facesM C).getD j []).getD k 0/\((facesM C).getD j []).getD k 0<=4*C.length):=hfr
 clear hm hD hfr hFR
 obtain⟨w0,hw0⟩:∃ w0,w0=w.alloc (.cells #[.slice a C.length cap,.int .i64 loops,.slice (some ⟨gF,0,none⟩) (2*C.length+1) cF,.slice (some ⟨gT,0,none⟩) (2*C.length+1) cT] 52):=⟨_,rfl⟩
 have HW0:Hid (w0=w.alloc (.cells #[.slice a C.length cap,.int .i64 loops,.slice (some ⟨gF,0,none⟩) (2*C.length+1) cF,.slice (some ⟨gT,0,none⟩) (2*C.length+1) cT] 52)):=hw0
 have hs0:w0.heap.size=w.heap.size+1:=by rw[hw0];simp
 have HB0:Hid (Below w.heap.size w w0):=(by rw[hw0];exact(Below.refl _ _).alloc (Nat.le_refl _) _:Below w.heap.size w w0)
 have HT0:Hid (w0.heap[w.heap.size]?=some (.cells #[.slice a C.length cap,.int .i64 loops,.slice (some ⟨gF,0,none⟩) (2*C.length+1) cF,.slice (some ⟨gT,0,none⟩) (2*C.length+1) cT] 52 (0,0))):=(by rw[hw0];exact alloc_at rfl:w0.heap[w.heap.size]?=some (.cells #[.slice a C.length cap,.int .i64 loops,.slice (some ⟨gF,0,none⟩) (2*C.length+1) cF,.slice (some ⟨gT,0,none⟩) (2*C.length+1) cT] 52 (0,0)))
 have HPI:Hid (∀ V,Dr V a cap C gF gT->Calls Try.prog 33 #[.agg #[.slice a C.length cap,.int .i64 loops,.slice (some ⟨gF,0,none⟩) (2*C.length+1) cF,.slice (some ⟨gT,0,none⟩) (2*C.length+1) cT]] V fun e w'=>∃ gP cP P c,e=.returned (.tuple #[.slice (some ⟨gP,0,none⟩) C.length cP,.int .i64 (c:Nat)])/\w'.ownsRow V.heap.size 3 1 (.slice (some ⟨gP,0,none⟩) C.length cP) C.length (intsV P)/\PcsAll C P c/\Below V.heap.size V w'):=fun V hV=>pieces_any a cap C loops gF cF gT cT V HM.out hV
 have HFI:Hid (∀ V,Dr V a cap C gF gT->Calls Try.prog 34 #[.agg #[.slice a C.length cap,.int .i64 loops,.slice (some ⟨gF,0,none⟩) (2*C.length+1) cF,.slice (some ⟨gT,0,none⟩) (2*C.length+1) cT]] V fun e w'=>∃ v,e=.returned v/\DartsOwn w' V.heap.size v (facesM C)/\Below V.heap.size V w'):=fun V hV=>HFA.out a cap C loops gF cF gT cT V HM.out hV
 clear hw0
 unfold drV
 go_enter Try.func18,Try.ntmps18
 go_wp2_with (go_at_call 33;rw[<-HW0.out];refine(HPI.out _ (HD.out.on HB0.out)).mono ?_;rintro e9 w1 ⟨gP,cP,P,c,rfl,hrow,hpc,hb1⟩;refine Hid.out ?_)
 refine Lib.hid ?_
 have HPC:Hid (PcsAll C P c):=hpc
 have hcn:=hpc.few
 have hs1:=hb1.size
 have HB1:Hid (Below w0.heap.size w0 w1):=hb1
 have HR1:Hid (w1.ownsRow w0.heap.size 3 1 (.slice (some ⟨gP,0,none⟩) C.length cP) C.length (intsV P)):=hrow
 have hgP:=hrow.lt gP rfl
 clear hpc hb1 hrow
 go_wp2_with (first|(at_make;refine wpList_make_full _ rfl _ _ 22 rfl w1.heap.size 3 i2 (.int .i64 0) 1 Try.underlying22 hk hx0 hx1 .i64 .i64 _ _ c rfl rfl rfl rfl (by rw[hx2];omega) (by unfold maxLen;omega) (by simp) ?_;intro w2 hrow2 hg2;refine Hid.out ?_))
 refine Lib.hid ?_
 rw[made_zero,exL_zero (headsM C) P c]at hrow2
 have hg2':w1.grownBy w2 none:=hg2
 have HE2:Hid (w2.heap[w.heap.size]?=some (.cells #[.slice a C.length cap,.int .i64 loops,.slice (some ⟨gF,0,none⟩) (2*C.length+1) cF,.slice (some ⟨gT,0,none⟩) (2*C.length+1) cT] 52 (0,0))/\w2.ownsRow w0.heap.size 3 1 (.slice (some ⟨gP,0,none⟩) C.length cP) C.length (intsV P)/\w2.ownsRow w1.heap.size 3 1 (.slice (some ⟨w1.heap.size,0,none⟩) c c) c (intsV (exL (headsM C) P c 0 0))/\Below w.heap.size w w2):=⟨(hg2'.block _ (by omega) (by simp)).trans ((HB1.out.block _ (by omega)).trans HT0.out),own_any HR1.out hg2',hrow2,(HB0.out.trans (HB1.out.mono (by omega))).grown hg2' (by omega) (fun k hk=>by cases hk)⟩
 have HVA:Hid (∀ i,i<C.length->∃ q:Nat,P.getD i 0=(q:Int)/\q<c):=fun i hi=>⟨(P.getD i 0).toNat,by have:=HPC.out.vals i hi;omega,by have:=HPC.out.vals i hi;omega⟩
 have HPL:Hid (P.length=C.length):=HPC.out.len
 clear hrow2 hg2 hg2' HT0 HB0 HB1 HR1
 go_wp2
 go_loopw [21] (fun v21 wr=>∃ i:Nat,i<=C.length/\v21=.int .i64 (i:Nat)/\Hid (wr.heap[w.heap.size]?=some (.cells #[.slice a C.length cap,.int .i64 loops,.slice (some ⟨gF,0,none⟩) (2*C.length+1) cF,.slice (some ⟨gT,0,none⟩) (2*C.length+1) cT] 52 (0,0))/\wr.ownsRow w0.heap.size 3 1 (.slice (some ⟨gP,0,none⟩) C.length cP) C.length (intsV P)/\wr.ownsRow w1.heap.size 3 1 (.slice (some ⟨w1.heap.size,0,none⟩) c c) c (intsV (exL (headsM C) P c i 0))/\Below w.heap.size w wr)) (fun v21 _=>C.length-(intOf v21).toNat)
 case atStart=>exact⟨0,Nat.zero_le _,rfl,HE2.out⟩
 case round=>
  clear HE2
  rename World=>W1
  obtain⟨i,hin,rfl,he⟩:=hrel
  have hlE:=he.out.2.2.1.lt w1.heap.size rfl
  have hlP:=he.out.2.1.lt gP rfl
  have hsW:=he.out.2.2.2.size
  by_cases hil:i<C.length
  · obtain⟨q,hq,hqc⟩:=HVA.out i hil
    have e0:W1.cell? ⟨gP,i,none⟩=some (.int .i64 (q:Nat)):=by
     rw[he.out.2.1.cellAt i (by omega),intsV_get P i (by rw[HPL.out];exact hil),hq]
    obtain⟨z,hz⟩:∃ z,(exL (headsM C) P c i 0).getD q 0=z:=⟨_,rfl⟩
    have hzb : -16<=z/\z<=100:=by
     rw[<-hz,exL_at _ _ _ _ _ _ hqc]
     have h1:=cntI_le P q i
     have h2:=cntH_le (headsM C) P q 0
     rw[headsM_len]at h2
     omega
    have e1:W1.cell? ⟨w1.heap.size,q,none⟩=some (.int .i64 z):=by
     rw[he.out.2.2.1.cellAt q (by omega),intsV_get _ q (by rw[exL_len];exact hqc),hz]
    have z1:W1.frozen? ⟨w1.heap.size,q,none⟩=false:=he.out.2.2.1.frozenAt q
    have hst:=he.out.2.2.1.stored q (.int .i64 (z-1))
    rw[intsV_set,<-hz,exL_less (headsM C) P c i q hq hqc,hz]at hst
    have HST:Hid ((W1.setCell ⟨w1.heap.size,q,none⟩ (.int .i64 (z-1))).heap[w.heap.size]?=some (.cells #[.slice a C.length cap,.int .i64 loops,.slice (some ⟨gF,0,none⟩) (2*C.length+1) cF,.slice (some ⟨gT,0,none⟩) (2*C.length+1) cT] 52 (0,0))/\(W1.setCell ⟨w1.heap.size,q,none⟩ (.int .i64 (z-1))).ownsRow w0.heap.size 3 1 (.slice (some ⟨gP,0,none⟩) C.length cP) C.length (intsV P)/\(W1.setCell ⟨w1.heap.size,q,none⟩ (.int .i64 (z-1))).ownsRow w1.heap.size 3 1 (.slice (some ⟨w1.heap.size,0,none⟩) c c) c (intsV (exL (headsM C) P c (i+1) 0))/\Below w.heap.size w (W1.setCell ⟨w1.heap.size,q,none⟩ (.int .i64 (z-1)))):=⟨(hst.2.block _ (by omega) (fun e=>by have:w.heap.size=w1.heap.size:=Option.some.inj e;omega)).trans he.out.1,he.out.2.1.kept hst.2 (Or.inr (fun e=>by have:gP=w1.heap.size:=Option.some.inj e;omega)),hst.1,he.out.2.2.2.grown hst.2 hsW (fun k hk=>by have:=Option.some.inj hk;omega)⟩
    have hqI:(q:Int)<(c:Int):=by omega
    clear hst hz hq
    go_wp2
    go_roundw
    case rel=>exact⟨i+1,by omega,by go_num,HST.out⟩
    case measure=>simp only[intOf];omega
  · obtain rfl:i=C.length:=by omega
    have HE3:Hid (W1.heap[w.heap.size]?=some (.cells #[.slice a C.length cap,.int .i64 loops,.slice (some ⟨gF,0,none⟩) (2*C.length+1) cF,.slice (some ⟨gT,0,none⟩) (2*C.length+1) cT] 52 (0,0))/\W1.ownsRow w0.heap.size 3 1 (.slice (some ⟨gP,0,none⟩) C.length cP) C.length (intsV P)/\W1.ownsRow w1.heap.size 3 1 (.slice (some ⟨w1.heap.size,0,none⟩) c c) c (intsV (exL (headsM C) P c C.length 0))/\Below w.heap.size w W1):=he.out
    have p0:W1.cell? ⟨w.heap.size,0,none⟩=some (.slice a C.length cap):=block_cell he.out.1 rfl
    have p1:W1.cell? ⟨w.heap.size,1,none⟩=some (.int .i64 loops):=block_cell he.out.1 rfl
    have p2:W1.cell? ⟨w.heap.size,2,none⟩=some (.slice (some ⟨gF,0,none⟩) (2*C.length+1) cF):=block_cell he.out.1 rfl
    have p3:W1.cell? ⟨w.heap.size,3,none⟩=some (.slice (some ⟨gT,0,none⟩) (2*C.length+1) cT):=block_cell he.out.1 rfl
    clear he
    go_wp2_with (go_at_call 34;refine(HFI.out _ (HD.out.on HE3.out.2.2.2)).mono ?_;rintro e9 w4 ⟨vf,rfl,hrf,hb4⟩;refine Hid.out ?_)
    refine Lib.hid ?_
    have hs4:=hb4.size
    have hg4:W1.grownBy w4 none:=grown_below hb4 none
    have HE4:Hid (w4.heap[w.heap.size]?=some (.cells #[.slice a C.length cap,.int .i64 loops,.slice (some ⟨gF,0,none⟩) (2*C.length+1) cF,.slice (some ⟨gT,0,none⟩) (2*C.length+1) cT] 52 (0,0))/\w4.ownsRow w0.heap.size 3 1 (.slice (some ⟨gP,0,none⟩) C.length cP) C.length (intsV P)/\w4.ownsRow w1.heap.size 3 1 (.slice (some ⟨w1.heap.size,0,none⟩) c c) c (intsV (exL (headsM C) P c C.length 0))/\Below w.heap.size w w4):=⟨(hb4.block _ (by omega)).trans HE3.out.1,own_any HE3.out.2.1 hg4,own_any HE3.out.2.2.1 hg4,HE3.out.2.2.2.trans (hb4.mono hsW)⟩
    have hrg:=hrf.rings (fun j hj=>(HFR.out j hj).1)
    obtain⟨af,cf,rfl,ff⟩:=hrg
    have HRG:Hid (RingsAt w4 W1.heap.size (.slice af (facesM C).length cf) (facesM C)):=⟨af,cf,rfl,ff⟩
    clear hrf ff hb4 hg4 p0 p1 p2 p3 HE3
    by_cases hz:C.length=0
    · have HPB:Hid (planarB C=true):=((planarB_iff C).2 fun p hp=>by omega:planarB C=true)
      have hf0:(facesM C).length=0:=by omega
      have hc0:c=0:=by omega
      go_wp2
      go_loopw [35] (fun v35 wr=>v35=.int .i64 0/\Below w4.heap.size w4 wr) (fun _ _=>0)
      case atStart=>exact⟨rfl,Below.refl _ _⟩
      case round=>
       rename World=>W3
       obtain⟨rfl,hb⟩:=hrel
       have HBW:Hid (Below w.heap.size w W3):=HE4.out.2.2.2.trans (hb.mono HE4.out.2.2.2.size)
       have hfz:((facesM C).length:Int)=0:=by omega
       clear hb
       go_wp2
       go_loopw [56] (fun v56 wr=>v56=.int .i64 0/\Below w.heap.size w wr) (fun _ _=>0)
       case atStart=>exact⟨rfl,HBW.out⟩
       case round=>
        obtain⟨rfl,hb⟩:=hrel
        have hcz:(c:Int)=0:=by omega
        go_wp2
        go_ret
        exact⟨by rw[HPB.out];rfl,hb⟩
    · have hpos:0<C.length:=by omega
      obtain⟨af',cf',ef,ff⟩:=HRG.out
      injection ef with ef1 ef2 ef3
      obtain⟨bf,of,efa,hbf,hBf,hcf⟩:=ff (facesM_pos hpos)
      rw[<-ef1]at efa
      subst efa
      have HCF:Hid (∀ j,j<(facesM C).length->∃ g c,w4.cell? ⟨bf,of+j,none⟩=some (.slice (some ⟨g,0,none⟩) ((facesM C).getD j []).length c)/\g<w4.heap.size/\W1.heap.size<=g/\∀ k,k<((facesM C).getD j []).length->w4.cell? ⟨g,k*2,none⟩=some (.int .i64 (dA (((facesM C).getD j []).getD k 0):Nat))/\w4.cell? ⟨g,k*2+1,none⟩=some (.bool (dB (((facesM C).getD j []).getD k 0)))):=hcf
      have HEF:Hid (af'=some ⟨bf,of,none⟩):=ef1.symm
      have hEW:=hlE.2
      clear ff hcf ef1 ef2 ef3 HRG hz hlE hlP
      go_wp2
      go_loopw [35] (fun v35 wr=>∃ i:Nat,i<=(facesM C).length/\v35=.int .i64 (i:Nat)/\Hid (wr.heap[w.heap.size]?=some (.cells #[.slice a C.length cap,.int .i64 loops,.slice (some ⟨gF,0,none⟩) (2*C.length+1) cF,.slice (some ⟨gT,0,none⟩) (2*C.length+1) cT] 52 (0,0))/\wr.ownsRow w0.heap.size 3 1 (.slice (some ⟨gP,0,none⟩) C.length cP) C.length (intsV P)/\wr.ownsRow w1.heap.size 3 1 (.slice (some ⟨w1.heap.size,0,none⟩) c c) c (intsV (exL (headsM C) P c C.length i))/\Below w.heap.size w wr)/\Hid (w4.grownBy wr (some w1.heap.size))) (fun v35 _=>(facesM C).length-(intOf v35).toNat)
      case atStart=>exact⟨0,Nat.zero_le _,rfl,HE4.out,World.grownBy.refl _ _⟩
      case round =>
       clear HE4
       rename World=>W3
       obtain⟨i,hin,rfl,he,hgr⟩:=hrel
       have hlE:=he.out.2.2.1.lt w1.heap.size rfl
       have hlP:=he.out.2.1.lt gP rfl
       have hs3:=he.out.2.2.2.size
       have hsg:=hgr.out.size
       by_cases hil:i<(facesM C).length
       · obtain⟨gj,cj,k0,k1,kB,k2⟩:=HCF.out i hil
         obtain⟨l0,l1,l2⟩:=HFR.out i hil
         have hx12:=l2 0 l0
         have k3:=k2 0 l0
         obtain⟨nF,hnF⟩:∃ nF,((facesM C).getD i []).length=nF:=⟨_,rfl⟩
         obtain⟨x,hx⟩:∃ x,((facesM C).getD i []).getD 0 0=x:=⟨_,rfl⟩
         rw[hnF]at k0 l0
         rw[hx]at k3 hx12
         obtain⟨-,d2,-⟩:=d_may HM.out x hx12.1 hx12.2
         have dle:=dA_le hx12.1 hx12.2
         obtain⟨y,hy⟩:∃ y,dC C x=y:=⟨_,rfl⟩
         obtain⟨ys,hys⟩:∃ ys,dS C x=ys:=⟨_,rfl⟩
         have HEV:Hid (∀ V,Below w.heap.size w V->Calls Try.prog 35 #[.agg #[.slice a C.length cap,.int .i64 loops,.slice (some ⟨gF,0,none⟩) (2*C.length+1) cF,.slice (some ⟨gT,0,none⟩) (2*C.length+1) cT],.agg #[.int .i64 (dA x:Nat),.bool (dB x)]] V fun e w'=>e=.returned (.agg #[.int .i64 (y:Nat),.int .i64 (ys:Nat)])/\Below V.heap.size V w'):=fun V hV=>by
          rw[<-hy,<-hys]
          exact end_any a cap C loops gF cF gT cT (dA x) (dB x) V HM.out dle.1 dle.2 (HD.out.on hV)
         rw[hy]at d2
         obtain⟨q,hq,hqc⟩:=HVA.out y d2
         have HHD:Hid (P.getD ((headsM C).getD i 0) 0=(q:Int)):=(by rw[headsM_at C i hil,hx,hy];exact hq:P.getD ((headsM C).getD i 0) 0=(q:Int))
         obtain⟨z,hz⟩:∃ z,(exL (headsM C) P c C.length i).getD q 0=z:=⟨_,rfl⟩
         have hzb : -16<=z/\z<=100:=by
          rw[<-hz,exL_at _ _ _ _ _ _ hqc]
          have h1:=cntI_le P q C.length
          have h2:=cntH_le (headsM C) P q i
          rw[headsM_len]at h2
          omega
         have far:∀ (b o:Nat) (u:Value),w4.cell? ⟨b,o,none⟩=some u->W1.heap.size<=b->W3.cell? ⟨b,o,none⟩=some u:=fun b o u hu hB=>hgr.out.cell hu (fun e=>by have:b=w1.heap.size:=Option.some.inj e;omega)
         have m0:W3.cell? ⟨bf,of+i,none⟩=some (.slice (some ⟨gj,0,none⟩) nF cj):=far _ _ _ k0 hBf
         have m1:W3.cell? ⟨gj,0,none⟩=some (.int .i64 (dA x:Nat)):=far _ _ _ k3.1 kB
         have m2:W3.cell? ⟨gj,1,none⟩=some (.bool (dB x)):=far _ _ _ k3.2 kB
         have p0:W3.cell? ⟨w.heap.size,0,none⟩=some (.slice a C.length cap):=block_cell he.out.1 rfl
         have p1:W3.cell? ⟨w.heap.size,1,none⟩=some (.int .i64 loops):=block_cell he.out.1 rfl
         have p2:W3.cell? ⟨w.heap.size,2,none⟩=some (.slice (some ⟨gF,0,none⟩) (2*C.length+1) cF):=block_cell he.out.1 rfl
         have p3:W3.cell? ⟨w.heap.size,3,none⟩=some (.slice (some ⟨gT,0,none⟩) (2*C.length+1) cT):=block_cell he.out.1 rfl
         have hfs:=field_spotD
         have hwz:IntKind.i64.wrap (z+1)=z+1:=IntWalk.i64_in _ (by omega)
         have i1:(i:Int)<((facesM C).length:Int):=by omega
         have i2':(0:Int)<(nF:Int):=by omega
         have i3:(y:Int)<(C.length:Int):=by omega
         have i4:(q:Int)<(c:Int):=by omega
         have HD3:Hid (Below W3.heap.size W3 W3.drew):=(Below.refl _ _).drew
         have HQY:Hid (P.getD y 0=(q:Int)):=hq
         have HZZ:Hid ((exL (headsM C) P c C.length i).getD q 0=z):=hz
         clear k0 k1 kB k2 k3 l1 l2 hnF hx hy hys hq hz dle hx12 far
         generalize dA x=xA at HEV m1
         generalize dB x=xB at HEV m2
         go_wp2
         go_region_with (first
          | (go_at_call 35; refine (HEV.out _ (he.out.2.2.2.trans (HD3.out.mono hs3))).mono ?_; rintro e9 w5 ⟨rfl, hb5⟩
             have H5:Hid (Below W3.heap.size W3 w5):=HD3.out.trans (hb5.mono HD3.out.size)
             have hg5:=grown_below H5.out none
             have hs5:=H5.out.size
             have HP5:=own_any he.out.2.1 hg5
             have HE5:=own_any he.out.2.2.1 hg5
             have e0:w5.cell? ⟨gP,y,none⟩=some (.int .i64 (q:Nat)):=by
              rw[HP5.cellAt y (by omega),intsV_get P y (by rw[HPL.out];exact d2),HQY.out]
             have e1:w5.cell? ⟨w1.heap.size,q,none⟩=some (.int .i64 z):=by
              rw[HE5.cellAt q (by omega),intsV_get _ q (by rw[exL_len];exact hqc),HZZ.out]
             have z1:w5.frozen? ⟨w1.heap.size,q,none⟩=false:=HE5.frozenAt q
             clear hb5 hg5 HP5 HE5))
         all_goals
          have hg5:=grown_below H5.out none
          have HE5:=own_any he.out.2.2.1 hg5
          have hst:=HE5.stored q (.int .i64 (z+1))
          rw[intsV_set,<-HZZ.out,exL_more (headsM C) P c C.length i q (by rw[headsM_len];exact hil) HHD.out hqc,HZZ.out]at hst
          have HST:Hid ((w5.setCell ⟨w1.heap.size,q,none⟩ (.int .i64 (z+1))).heap[w.heap.size]?=some (.cells #[.slice a C.length cap,.int .i64 loops,.slice (some ⟨gF,0,none⟩) (2*C.length+1) cF,.slice (some ⟨gT,0,none⟩) (2*C.length+1) cT] 52 (0,0))/\(w5.setCell ⟨w1.heap.size,q,none⟩ (.int .i64 (z+1))).ownsRow w0.heap.size 3 1 (.slice (some ⟨gP,0,none⟩) C.length cP) C.length (intsV P)/\(w5.setCell ⟨w1.heap.size,q,none⟩ (.int .i64 (z+1))).ownsRow w1.heap.size 3 1 (.slice (some ⟨w1.heap.size,0,none⟩) c c) c (intsV (exL (headsM C) P c C.length (i+1)))/\Below w.heap.size w (w5.setCell ⟨w1.heap.size,q,none⟩ (.int .i64 (z+1)))):=⟨(hst.2.block _ (by omega) (fun e=>by have:w.heap.size=w1.heap.size:=Option.some.inj e;omega)).trans ((H5.out.block _ (by omega)).trans he.out.1),(own_any he.out.2.1 hg5).kept hst.2 (Or.inr (fun e=>by have:gP=w1.heap.size:=Option.some.inj e;omega)),hst.1,(he.out.2.2.2.trans (H5.out.mono hs3)).grown hst.2 (by omega) (fun k hk=>by have:=Option.some.inj hk;omega)⟩
          have HGG:Hid (w4.grownBy (w5.setCell ⟨w1.heap.size,q,none⟩ (.int .i64 (z+1))) (some w1.heap.size)):=grown_trans (grown_new hgr.out hg5 (fun q hq=>by cases hq)) hst.2
          clear hg5 HE5 hst e0 e1 z1 m0 m1 m2 p0 p1 p2 p3 hfs hwz
          go_wp2
          go_roundw
         all_goals first
          |(simp only[intOf];omega)
          |exact⟨i+1,by omega,by go_num,HST.out,HGG.out⟩
       · obtain rfl:i=(facesM C).length:=by omega
         have HL3:Hid (W3.heap[w.heap.size]?=some (.cells #[.slice a C.length cap,.int .i64 loops,.slice (some ⟨gF,0,none⟩) (2*C.length+1) cF,.slice (some ⟨gT,0,none⟩) (2*C.length+1) cT] 52 (0,0))/\W3.ownsRow w0.heap.size 3 1 (.slice (some ⟨gP,0,none⟩) C.length cP) C.length (intsV P)/\W3.ownsRow w1.heap.size 3 1 (.slice (some ⟨w1.heap.size,0,none⟩) c c) c (intsV (exL (headsM C) P c C.length (headsM C).length))/\Below w.heap.size w W3):=(by rw[headsM_len];exact he.out:(W3.heap[w.heap.size]?=some (.cells #[.slice a C.length cap,.int .i64 loops,.slice (some ⟨gF,0,none⟩) (2*C.length+1) cF,.slice (some ⟨gT,0,none⟩) (2*C.length+1) cT] 52 (0,0))/\W3.ownsRow w0.heap.size 3 1 (.slice (some ⟨gP,0,none⟩) C.length cP) C.length (intsV P)/\W3.ownsRow w1.heap.size 3 1 (.slice (some ⟨w1.heap.size,0,none⟩) c c) c (intsV (exL (headsM C) P c C.length (headsM C).length))/\Below w.heap.size w W3))
         clear he hgr
         go_wp2
         go_loopw [56] (fun v56 wr=>∃ i:Nat,i<=c/\v56=.int .i64 (i:Nat)/\Hid (∀ p,p<i->exI C.length (headsM C) P p=2)/\Below W3.heap.size W3 wr) (fun v56 _=>c-(intOf v56).toNat)
         case atStart=>exact⟨0,Nat.zero_le _,rfl,(fun p hp=>absurd hp (Nat.not_lt_zero _):∀ p,p<0->exI C.length (headsM C) P p=2),Below.refl _ _⟩
         case round=>
          rename World=>W5
          obtain⟨i,hic,rfl,hall,hb⟩:=hrel
          have hs5:=hb.size
          by_cases hil:i<c
          · obtain⟨z,hz⟩:∃ z,exI C.length (headsM C) P i=z:=⟨_,rfl⟩
            have e0:W5.cell? ⟨w1.heap.size,i,none⟩=some (.int .i64 z):=by
             have h:=own_any HL3.out.2.2.1 (grown_below hb none)
             rw[h.cellAt i (by omega),intsV_get _ i (by rw[exL_len];exact hil),exL_ex C.length (headsM C) P c i hil,hz]
            have HZZ:Hid (exI C.length (headsM C) P i=z):=hz
            have HB5:Hid (Below W3.heap.size W3 W5):=hb
            clear hz hb
            by_cases h2:z=2
            · have hde:(z != 2)=false:=by simp[h2]
              have HZ2:Hid (z=2):=h2
              clear h2
              go_wp2
              go_roundw
              case rel=>
               refine⟨i+1,by omega,by go_num,(fun p hp=>?_:∀ p,p<i+1->exI C.length (headsM C) P p=2),HB5.out⟩
               by_cases e2:p=i
               · rw[e2,HZZ.out];exact HZ2.out
               · exact hall.out p (by omega)
              case measure=>simp only[intOf];omega
            · have hde:(z != 2)=true:=by simp[h2]
              have HPB : Hid (planarB C = false) := (by
               cases hb:planarB C with
               |false=>rfl
               |true=>
                have h:=(planar_pieces HM.out HPC.out).1 hb i hil
                rw[HZZ.out]at h
                exact absurd h h2:planarB C=false)
              clear h2
              go_wp2
              go_ret
              exact⟨by rw[HPB.out];rfl,HL3.out.2.2.2.trans (HB5.out.mono hs3)⟩
          · obtain rfl:i=c:=by omega
            have HPB:Hid (planarB C=true):=((planar_pieces HM.out HPC.out).2 hall.out:planarB C=true)
            go_wp2
            go_ret
            exact⟨by rw[HPB.out];rfl,HL3.out.2.2.2.trans (hb.mono hs3)⟩
end Go.Proofs.Ytgagenmkpmmpfaa
