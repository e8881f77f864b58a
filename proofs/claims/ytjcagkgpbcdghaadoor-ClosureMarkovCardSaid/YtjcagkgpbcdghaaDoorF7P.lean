/- Several texts of the proof, one behind the other. -/
import Derived.Test.YtjcagkgpbcdghaaDoorCL4P
import Derived.Test.YtjcagkgpbcdghaaDoorW3P
import Derived.Deep.RegionHeldLaw
import Derived.Deep.RegionWith
import Derived.Test.YtjcagkgpbcdghaaDoorCB0P
/- The walk of Drawing.spread. -/
namespace Go.Proofs.YtjcagkgpbcdghaaDoor
open Go.RowKit
set_option maxHeartbeats 16000000
set_option maxRecDepth 100000
def isM (v:Value):Bool:=match v with|.int .i64 z=>decide (z = -1)|_=>false
def unC (w:World) (g n:Nat):Nat:=match w.heap[g]? with|some (.cells cur _ _)=>(cur.toList.take n).countP isM|_=>0
def unI (P:List Int):Nat:=P.countP fun z=>decide (z = -1)
theorem Xb2 {w:World} {B e g n c:Nat} {P:List Int} (h:w.ownsRow B e 1 (.slice (some ⟨g,0,none⟩) n c) n (QQ3 P)):unC w g n=unI P:=by
 rcases h.2 with⟨h,_⟩|⟨g',c',cur,e1,_,hg,_,_,_,htk⟩
 · cases h
 · injection e1 with e1
   injection e1 with e1
   injection e1 with e1
   subst e1
   unfold unC unI
   rw[hg]
   simp only[Nat.mul_one]at htk
   simp only[htk]
   unfold QQ3
   rw[List.countP_map]
   rfl
theorem JB8 (P:List Int):unI P<=P.length:=List.countP_le_length
theorem Qj0 (a b:Int) (w:World):(Instr.field 118 (.agg #[.int .i64 a,.int .i64 b]) 0).run Tryd.prog w=.ok (.int .i64 a) w:=by
 simp[Instr.field,run_underlying Tryd.underlying118,go_sem,asAgg]
theorem Zj5 {P:List Int} {y:Nat} {z:Int} (hy:y<P.length) (h:P.getD y 0 = -1) (hz:z ≠ -1):unI (P.set y z)+1=unI P:=by
 induction P generalizing y with
 |nil=>simp at hy
 |cons b l ih=>
  cases y with
  |zero=>
   have:b = -1:=by simpa using h
   subst this
   simp[unI,hz]
  |succ y=>
   have:=ih (y:=y) (by simpa using hy) (by simpa using h)
   simp only[unI,List.set_cons_succ,List.countP_cons]at this ⊢
   omega
theorem ZD7 (a : Option Addr) (cap : Nat) (C : List Cr) (loops : Int) (gF cF gT cT gP cP B : Nat) (P0 : List Int) (f num : Nat) (w00 w : World) (hm : QX3 C loops = true) (hD : Dr w00 a cap C gF gT) (hb0 : Below w00.heap.size w00 w) (hB : w00.heap.size ≤ B)
    (hP:w.ownsRow B 3 1 (.slice (some ⟨gP,0,none⟩) C.length cP) C.length (QQ3 P0)) (hf:f<C.length) (h0:P0.getD f 0 = -1) (hn:∀ v,v<C.length->P0.getD v 0≠(num:Int)):
    Calls Tryd.prog 86 #[drV a cap C loops gF cF gT cT,.slice (some ⟨gP,0,none⟩) C.length cP,.int .i64 f,.int .i64 num] w fun e w'=>e=.returned (.tuple #[])/\∃ P k,Spr C P0 P f num [] k 4/\w'.ownsRow B 3 1 (.slice (some ⟨gP,0,none⟩) C.length cP) C.length (QQ3 P)/\w.grownBy w' (some gP):=by
 obtain⟨s1,-,-,-⟩:=QJ7 (QU6 hm)
 obtain⟨i0,hi,hz0,hz1,hz2⟩:=info_parts QB7
 have HM:Hid (QX3 C loops=true):=hm
 have HDD:Hid (∀ w',Below w00.heap.size w00 w'->Dr w' a cap C gF gT):=fun w' hb=>hD.on hb
 obtain⟨b,ob,rfl,hbw,hCd⟩:=hD.cross (by omega)
 have HCD:Hid (∀ w',Below w00.heap.size w00 w'->CrossAt w' b ob C/\b<w'.heap.size):=fun w' hb=>⟨hCd.on hb hbw,Nat.lt_of_lt_of_le hbw hb.size⟩
 have hlP:P0.length=C.length:=by have:=hP.1;simpa[XK3] using this
 have hgP:=hP.lt gP rfl
 have hst:=hP.stored f (.int .i64 ((num:Nat):Int))
 rw[QK0]at hst
 have e0:w.cell? ⟨gP,f,none⟩=some (.int .i64 (P0.getD f 0)):=by
  rw[hP.cellAt f (by omega)];exact QZ5 P0 f (by omega)
 have z0:w.frozen? ⟨gP,f,none⟩=false:=hP.frozenAt f
 have hgw:=hgP.2
 have hsw:(w.setCell ⟨gP,f,none⟩ (.int .i64 ((num:Nat):Int))).heap.size=w.heap.size:=by simp
 obtain⟨w1,hw1⟩:∃ w1,w1=(w.setCell ⟨gP,f,none⟩ (.int .i64 ((num:Nat):Int))).alloc (.cells #[.slice (some ⟨b,ob,none⟩) C.length cap,.int .i64 loops,.slice (some ⟨gF,0,none⟩) (2*C.length+1) cF,.slice (some ⟨gT,0,none⟩) (2*C.length+1) cT] 44):=⟨_,rfl⟩
 have HW1:Hid (w1=(w.setCell ⟨gP,f,none⟩ (.int .i64 ((num:Nat):Int))).alloc (.cells #[.slice (some ⟨b,ob,none⟩) C.length cap,.int .i64 loops,.slice (some ⟨gF,0,none⟩) (2*C.length+1) cF,.slice (some ⟨gT,0,none⟩) (2*C.length+1) cT] 44)):=hw1
 have hs1:w1.heap.size=w.heap.size+1:=by rw[hw1];simp
 have HP1:Hid (w1.ownsRow B 3 1 (.slice (some ⟨gP,0,none⟩) C.length cP) C.length (QQ3 (P0.set f (num:Int)))):=(by rw[hw1];exact hst.1.alloc _:w1.ownsRow B 3 1 (.slice (some ⟨gP,0,none⟩) C.length cP) C.length (QQ3 (P0.set f (num:Int))))
 have HG1:Hid (w.grownBy w1 (some gP)):=(by rw[hw1];exact grown_trans hst.2 (World.grownBy_alloc _ _ _):w.grownBy w1 (some gP))
 have HT1:Hid (w1.heap[w.heap.size]?=some (.cells #[.slice (some ⟨b,ob,none⟩) C.length cap,.int .i64 loops,.slice (some ⟨gF,0,none⟩) (2*C.length+1) cF,.slice (some ⟨gT,0,none⟩) (2*C.length+1) cT] 44 (0,0))):=(by rw[hw1];exact alloc_at hsw.symm:w1.heap[w.heap.size]?=some (.cells #[.slice (some ⟨b,ob,none⟩) C.length cap,.int .i64 loops,.slice (some ⟨gF,0,none⟩) (2*C.length+1) cF,.slice (some ⟨gT,0,none⟩) (2*C.length+1) cT] 44 (0,0)))
 have HS1:Hid (Spr C P0 (P0.set f (num:Int)) f num [f] 0 4):=Spr.start hlP hf h0 hn
 have HB0:Hid (Below w00.heap.size w00 w):=hb0
 have HP:Hid (w.ownsRow B 3 1 (.slice (some ⟨gP,0,none⟩) C.length cP) C.length (QQ3 P0)):=hP
 obtain⟨w2,hw2⟩:∃ w2,w2=w1.alloc (.cells #[.int .i64 (f:Nat)] 3):=⟨_,rfl⟩
 have HW2:Hid (w2=w1.alloc (.cells #[.int .i64 (f:Nat)] 3)):=hw2
 have hs2:w2.heap.size=w.heap.size+2:=by rw[hw2];simp[hs1]
 have HP2:Hid (w2.ownsRow B 3 1 (.slice (some ⟨gP,0,none⟩) C.length cP) C.length (QQ3 (P0.set f (num:Int)))):=(by rw[hw2];exact HP1.out.alloc _:w2.ownsRow B 3 1 (.slice (some ⟨gP,0,none⟩) C.length cP) C.length (QQ3 (P0.set f (num:Int))))
 have HG2:Hid (w.grownBy w2 (some gP)):=(by rw[hw2];exact grown_trans HG1.out (World.grownBy_alloc _ _ _):w.grownBy w2 (some gP))
 have HT2:Hid (w2.heap[w.heap.size]?=some (.cells #[.slice (some ⟨b,ob,none⟩) C.length cap,.int .i64 loops,.slice (some ⟨gF,0,none⟩) (2*C.length+1) cF,.slice (some ⟨gT,0,none⟩) (2*C.length+1) cT] 44 (0,0))):=(by rw[hw2];exact alloc_old HT1.out:w2.heap[w.heap.size]?=some (.cells #[.slice (some ⟨b,ob,none⟩) C.length cap,.int .i64 loops,.slice (some ⟨gF,0,none⟩) (2*C.length+1) cF,.slice (some ⟨gT,0,none⟩) (2*C.length+1) cT] 44 (0,0)))
 have HQ2 : Hid (QueAt w2 (w.heap.size + 1) 3 (.slice (some ⟨w.heap.size + 1, 0, none⟩) 1 1) (QK9 [f])) := (by
  rw[hw2]
  exact⟨w.heap.size+1,0,1,#[.int .i64 (f:Nat)],rfl,Nat.le_refl _,alloc_at hs1.symm,Nat.le_refl _,by unfold maxLen;omega,by simp,rfl⟩:QueAt w2 (w.heap.size+1) 3 (.slice (some ⟨w.heap.size+1,0,none⟩) 1 1) (QK9 [f]))
 clear hm hb0 hP hst hw1 hw2
 unfold drV
 go_enter Tryd.func86,Tryd.ntmps86
 go_wp2
 rw[<-HW1.out,<-HW2.out]
 clear e0 z0
 go_loopw [8] (fun v8 wr=>∃ (todo:List Nat) (P:List Int) (k g off cq:Nat),v8=.slice (some ⟨g,off,none⟩) todo.length cq/\Hid (unI P+todo.length<=100)/\Hid (Spr C P0 P f num todo k 4)/\Hid (QueAt wr (w.heap.size+1) 3 v8 (QK9 todo))/\Hid (wr.ownsRow B 3 1 (.slice (some ⟨gP,0,none⟩) C.length cP) C.length (QQ3 P))/\Hid (w.grownBy wr (some gP))/\Hid (wr.heap[w.heap.size]?=some (.cells #[.slice (some ⟨b,ob,none⟩) C.length cap,.int .i64 loops,.slice (some ⟨gF,0,none⟩) (2*C.length+1) cF,.slice (some ⟨gT,0,none⟩) (2*C.length+1) cT] 44 (0,0)))/\w.heap.size+1<=wr.heap.size) (fun v8 wr=>lenOf v8+unC wr gP C.length)
 case atStart=>exact⟨[f],_,0,w.heap.size+1,0,1,rfl,(by have:=JB8 (P0.set f (num:Int));simp only[List.length_set,List.length_cons,List.length_nil]at this ⊢;omega:unI (P0.set f (num:Int))+[f].length<=100),HS1.out,HQ2.out,HP2.out,HG2.out,HT2.out,by omega⟩
 case round=>
  clear HS1 HQ2 HP2 HG2 HT2 HW1 HW2 HP1 HG1 HT1
  rename World=>W1
  obtain⟨todo,P,k0,g,off,cq,rfl,hun,hsp,hqu,hpr,hgr,hbox,hsz⟩:=hrel
  cases todo with
  |nil=>
   go_wp2
   exact bodyPost_end (v:=.tuple #[]) (by simp[results,Tryd.results86]) rfl ⟨rfl,P,k0,hsp.out,hpr.out,hgr.out⟩
  | cons k todo =>
   have hk:=hsp.out.tod k (List.Mem.head _)
   have HKC:Hid (Con (Qz0 C) f k):=hk.2
   have hkn:=hk.1
   have HSP:Hid (Spr C P0 P f num todo k 0):=hsp.out.take
   have c0:W1.cell? ⟨g,off,none⟩=some (.int .i64 (k:Nat)):=hqu.out.cell 0 _ rfl
   have hcq:todo.length+1<=cq:=hqu.out.size.2.1
   have HM0:Hid (unC W1 gP C.length=unI P):=Xb2 hpr.out
   clear hk
   by_cases hc1:cq=1
   · subst hc1
     obtain rfl:todo=[]:=by simpa[QK9] using hqu.out.tail1.2
     have HQT:Hid (QueAt W1 (w.heap.size+1) 3 (.slice (some ⟨g,off,none⟩) 0 0) (QK9 [])):=hqu.out.tail1.1
     clear hqu hsp
     go_wp2
     simp only[List.length_cons,List.length_nil,Nat.zero_add]
     go_loopw [8,26] (fun v8 v26 wr=>∃ (td:List Nat) (P1:List Int) (s g1 o1 c1:Nat),s<=4/\v26=.int .i64 (s:Nat)/\v8=.slice (some ⟨g1,o1,none⟩) td.length c1/\Hid (unI P1+td.length=unI P+([]:List Nat).length)/\Hid (Spr C P0 P1 f num td k s)/\Hid (QueAt wr (w.heap.size+1) 3 v8 (QK9 td))/\Hid (wr.ownsRow B 3 1 (.slice (some ⟨gP,0,none⟩) C.length cP) C.length (QQ3 P1))/\Hid (w.grownBy wr (some gP))/\Hid (wr.heap[w.heap.size]?=some (.cells #[.slice (some ⟨b,ob,none⟩) C.length cap,.int .i64 loops,.slice (some ⟨gF,0,none⟩) (2*C.length+1) cF,.slice (some ⟨gT,0,none⟩) (2*C.length+1) cT] 44 (0,0)))/\w.heap.size+1<=wr.heap.size) (fun _ v26 _=>4-(intOf v26).toNat)
     case atStart=>exact⟨[],P,0,_,_,_,Nat.zero_le _,rfl,rfl,(rfl:unI P+([]:List Nat).length=unI P+([]:List Nat).length),HSP.out,HQT.out,hpr.out,hgr.out,hbox.out,hsz⟩
     case round =>
      rename World=>W3
      obtain⟨td,P1,s,g1,o1,c1,hs4,rfl,rfl,hme,hsp,hqu,hpr3,hgr3,hbox3,hsz3⟩:=hrel
      by_cases hsl:s<4
      · have hds:decide ((s:Int)<4)=true:=by simp;omega
        have HB03:Hid (Below w00.heap.size w00 W3):=HB0.out.grown hgr3.out HB0.out.size (fun q hq=>by have:=Option.some.inj hq;omega)
        have hs03:=HB03.out.size
        obtain⟨n1,n2,-⟩:=Qd3 HM.out k s hkn hsl
        have hnb:=Zx5 HM.out k s hkn hsl
        have hfit:=(QV7 HM.out k s hkn hsl).1
        obtain⟨x,hx⟩:∃ x,((C.getD k Cr.none).arc s).toNat=x:=⟨_,rfl⟩
        have harc:(C.getD k Cr.none).arc s=(x:Int):=by omega
        obtain⟨p,hp⟩:∃ p,(C.getD k Cr.none).comes s=p:=⟨_,rfl⟩
        obtain⟨y,hy⟩:∃ y,nbC C k s=y:=⟨_,rfl⟩
        have hey:enC C x (!p)=y:=by rw[<-hy];unfold nbC;rw[hx,hp]
        obtain⟨ys,hys⟩:∃ ys,enS C x (!p)=ys:=⟨_,rfl⟩
        rw[hx]at n1 n2
        have HLV:Hid (∀ V,Below w00.heap.size w00 V->Calls Tryd.prog 96 #[.agg #[.slice (some ⟨b,ob,none⟩) C.length cap,.int .i64 loops,.slice (some ⟨gF,0,none⟩) (2*C.length+1) cF,.slice (some ⟨gT,0,none⟩) (2*C.length+1) cT],.agg #[.int .i64 k,.int .i64 s]] V fun e w'=>e=.returned (.agg #[.int .i64 (x:Nat),.bool p])/\Below V.heap.size V w'):=fun V hV=>by
         have h:=Qk8 b ob cap C loops (.slice (some ⟨gF,0,none⟩) (2*C.length+1) cF) (.slice (some ⟨gT,0,none⟩) (2*C.length+1) cT) k s V hkn hsl (HCD.out V hV).2 (HCD.out V hV).1
         rw[harc,hp]at h
         exact h
        have HEV:Hid (∀ V,Below w00.heap.size w00 V->Calls Tryd.prog 69 #[.agg #[.slice (some ⟨b,ob,none⟩) C.length cap,.int .i64 loops,.slice (some ⟨gF,0,none⟩) (2*C.length+1) cF,.slice (some ⟨gT,0,none⟩) (2*C.length+1) cT],.agg #[.int .i64 (x:Nat),.bool p]] V fun e w'=>e=.returned (.agg #[.int .i64 (y:Nat),.int .i64 (ys:Nat)])/\Below V.heap.size V w'):=fun V hV=>by
         have h:=XG9 (some ⟨b,ob,none⟩) cap C loops gF cF gT cT x p V HM.out n1 n2 (HDD.out V hV)
         rw[hey,hys]at h
         exact h
        rw[hy]at hnb
        have HYN:Hid (nbC C k s=y):=hy
        have HF:Hid (∀ w',Below W3.heap.size W3 w'->w'.cell? ⟨w.heap.size,0,none⟩=some (.slice (some ⟨b,ob,none⟩) C.length cap)/\w'.cell? ⟨w.heap.size,1,none⟩=some (.int .i64 loops)/\w'.cell? ⟨w.heap.size,2,none⟩=some (.slice (some ⟨gF,0,none⟩) (2*C.length+1) cF)/\w'.cell? ⟨w.heap.size,3,none⟩=some (.slice (some ⟨gT,0,none⟩) (2*C.length+1) cT)):=fun w' hb=>by
         have g:=(hb.block _ (by omega)).trans hbox3.out
         exact⟨QQ0 g rfl,QQ0 g rfl,QQ0 g rfl,QQ0 g rfl⟩
        have HD3:Hid (Below W3.heap.size W3 W3.drew):=(Below.refl _ _).drew
        have H0:Hid (∀ w',Below W3.heap.size W3 w'->Below w00.heap.size w00 w'):=fun w' hb=>HB03.out.trans (hb.mono hs03)
        have hfs:=Qj0
        have hlP1:P1.length=C.length:=hsp.out.len
        have htd:td.length<=100:=by have:=hme.out;have:=hun.out;simp only[List.length_cons]at this;omega
        have hgb:=hqu.out.size.2.2.2
        have hc1b:=hqu.out.size.2.1
        clear n1 n2 hfit hx harc hp hey hys hy
        go_wp2
        obtain⟨t0,t1,t2,t3⟩:=HF.out W3 (Below.refl _ _)
        go_region_held3 (fun w' => w'.cell? ⟨w.heap.size, 0, none⟩ = some (.slice (some ⟨b, ob, none⟩) C.length cap) ∧ w'.cell? ⟨w.heap.size, 1, none⟩ = some (.int .i64 loops) ∧ w'.cell? ⟨w.heap.size, 2, none⟩ = some (.slice (some ⟨gF, 0, none⟩) (2 * C.length + 1) cF) ∧ w'.cell? ⟨w.heap.size, 3, none⟩ = some (.slice (some ⟨gT, 0, none⟩) (2 * C.length + 1) cT)) (first | exact HF.out _ H5.out | exact HF.out _ H4.out | exact HF.out _ HD3.out) (first
         | (go_at_call 96; refine (HLV.out W3.drew (H0.out _ HD3.out)).mono ?_; rintro e9 w4 ⟨rfl, hb4⟩
            have H4:Hid (Below W3.heap.size W3 w4):=HD3.out.trans (hb4.mono HD3.out.size)
            clear hb4)
         | (go_at_call 69; refine (HEV.out _ (H0.out _ H4.out)).mono ?_; rintro e9 w5 ⟨rfl, hb5⟩
            have H5:Hid (Below W3.heap.size W3 w5):=H4.out.trans (hb5.mono H4.out.size)
            clear hb5))
        all_goals
         clear t0 t1 t2 t3 hfs
         have hs5:=H5.out.size
         have hg5:W3.grownBy w5 none:=grown_below H5.out none
         have HR5:Hid (w5.ownsRow B 3 1 (.slice (some ⟨gP,0,none⟩) C.length cP) C.length (QQ3 P1)):=own_any hpr3.out hg5
         have HQ5:Hid (QueAt w5 (w.heap.size+1) 3 (.slice (some ⟨g1,o1,none⟩) td.length c1) (QK9 td)):=hqu.out.kept hg5 (by simp[Value.ownBlock])
         have HG5:Hid (w.grownBy w5 (some gP)):=grown_new hgr3.out hg5 (fun q hq=>by cases hq)
         have HT5:Hid (w5.heap[w.heap.size]?=some (.cells #[.slice (some ⟨b,ob,none⟩) C.length cap,.int .i64 loops,.slice (some ⟨gF,0,none⟩) (2*C.length+1) cF,.slice (some ⟨gT,0,none⟩) (2*C.length+1) cT] 44 (0,0))):=(H5.out.block _ (by omega)).trans hbox3.out
         have e0:w5.cell? ⟨gP,y,none⟩=some (.int .i64 (P1.getD y 0)):=by
          rw[HR5.out.cellAt y (by omega)];exact QZ5 P1 y (by omega)
         have z0:w5.frozen? ⟨gP,y,none⟩=false:=HR5.out.frozenAt y
         have lg:gP<w5.heap.size:=by omega
         obtain⟨q,hq⟩:∃ q,P1.getD y 0=q:=⟨_,rfl⟩
         rw[hq]at e0
         have HQQ:Hid (P1.getD y 0=q):=hq
         clear hg5 hq
         by_cases hqm:q = -1
         · have hde:(q == -1)=true:=by simp[hqm]
           have HSN : Hid (Spr C P0 (P1.set y (num : Int)) f num (td ++ [y]) k (s + 1)) := (by
            have h:=hsp.out.new_side HM.out (by omega) hkn hsl HKC.out (by rw[HYN.out,HQQ.out];exact hqm)
            rw[HYN.out]at h
            exact h:Spr C P0 (P1.set y (num:Int)) f num (td++[y]) k (s+1))
           have HUN:Hid (unI (P1.set y (num:Int))+1=unI P1):=Zj5 (by omega) (by rw[HQQ.out];exact hqm) (by omega)
           have hst:=HR5.out.stored y (.int .i64 ((num:Nat):Int))
           rw[QK0]at hst
           have HRV:Hid ((w5.setCell ⟨gP,y,none⟩ (.int .i64 ((num:Nat):Int))).ownsRow B 3 1 (.slice (some ⟨gP,0,none⟩) C.length cP) C.length (QQ3 (P1.set y (num:Int)))):=hst.1
           have HQV:Hid (QueAt (w5.setCell ⟨gP,y,none⟩ (.int .i64 ((num:Nat):Int))) (w.heap.size+1) 3 (.slice (some ⟨g1,o1,none⟩) td.length c1) (QK9 td)):=HQ5.out.kept hst.2 (fun e=>by have:g1=gP:=Option.some.inj e;omega)
           have HGV:Hid (w.grownBy (w5.setCell ⟨gP,y,none⟩ (.int .i64 ((num:Nat):Int))) (some gP)):=grown_trans HG5.out hst.2
           have HTV:Hid ((w5.setCell ⟨gP,y,none⟩ (.int .i64 ((num:Nat):Int))).heap[w.heap.size]?=some (.cells #[.slice (some ⟨b,ob,none⟩) C.length cap,.int .i64 loops,.slice (some ⟨gF,0,none⟩) (2*C.length+1) cF,.slice (some ⟨gT,0,none⟩) (2*C.length+1) cT] 44 (0,0))):=(hst.2.block _ (by omega) (fun e=>by have:w.heap.size=gP:=Option.some.inj e;omega)).trans HT5.out
           have hsV:(w5.setCell ⟨gP,y,none⟩ (.int .i64 ((num:Nat):Int))).heap.size=w5.heap.size:=by simp
           clear hst hqm
           go_wp2_with (first
            |(at_builtin;refine QH0 _ rfl _ _ 22 rfl (w.heap.size+1) 3 i0 (.int .i64 0) 8 Tryd.underlying22 hi hz0 hz1 hz2 rfl _ _ rfl (HQV.out.kept (World.grownBy_alloc _ _ none) (by simp[Value.ownBlock])) ⟨w5.heap.size,0,none⟩ 1 (.int .i64 (y:Nat)) rfl (QQ0 (alloc_at hsV.symm) rfl) rfl (by rw[QU5];unfold maxLen;omega) (by rw[QU5];omega) (by simp;omega) ?_;intro v8 w8 hq8 hg8;refine Hid.out ?_))
           refine Lib.hid ?_
           have hq8':QueAt w8 (w.heap.size+1) 3 v8 (QK9 (td++[y])):=by rw[XA1];exact hq8
           have hr8:=(HRV.out.alloc (.cells #[.int .i64 (y:Nat)] 3)).kept hg8 (Or.inr (fun e=>by have:gP=g1:=Option.some.inj e;omega))
           have HR8:Hid (w8.ownsRow B 3 1 (.slice (some ⟨gP,0,none⟩) C.length cP) C.length (QQ3 (P1.set y (num:Int)))):=hr8
           have HG8:Hid (w.grownBy w8 (some gP)):=grown_new (grown_trans HGV.out (World.grownBy_alloc _ _ _)) hg8 (fun q hq=>by have:g1=q:=Option.some.inj hq;omega)
           have HT8:Hid (w8.heap[w.heap.size]?=some (.cells #[.slice (some ⟨b,ob,none⟩) C.length cap,.int .i64 loops,.slice (some ⟨gF,0,none⟩) (2*C.length+1) cF,.slice (some ⟨gT,0,none⟩) (2*C.length+1) cT] 44 (0,0))):=(hg8.block _ (by simp;omega) (fun e=>by have:w.heap.size=g1:=Option.some.inj e;omega)).trans (alloc_old HTV.out)
           have hs8:w5.heap.size+1<=w8.heap.size:=by have:=hg8.size;simp at this;omega
           obtain⟨g8,o8,c8,e8,-⟩:=hq8'.shape
           rw[QU5]at e8
           subst e8
           have HQ8:Hid (QueAt w8 (w.heap.size+1) 3 (.slice (some ⟨g8,o8,none⟩) (td++[y]).length c8) (QK9 (td++[y]))):=hq8'
           clear hq8 hq8' hr8 hg8 e0 z0
           go_wp2
           go_roundw
           case rel=>exact⟨td++[y],P1.set y (num:Int),s+1,g8,o8,c8,by omega,by go_num,rfl,(by have:=hme.out;have:=HUN.out;simp only[List.length_append,List.length_cons,List.length_nil];omega:unI (P1.set y (num:Int))+(td++[y]).length=unI P+([]:List Nat).length),HSN.out,HQ8.out,HR8.out,HG8.out,HT8.out,by omega⟩
           case measure=>simp only[intOf];omega
         · have hde:(q == -1)=false:=by simp[hqm]
           have HSO:Hid (Spr C P0 P1 f num td k (s+1)):=hsp.out.old_side (by rw[HYN.out,HQQ.out];exact hqm)
           go_wp2
           go_roundw
           case rel=>exact⟨td,P1,s+1,g1,o1,c1,by omega,by go_num,rfl,hme.out,HSO.out,HQ5.out,HR5.out,HG5.out,HT5.out,by omega⟩
           case measure=>simp only[intOf];omega
      · obtain rfl:s=4:=by omega
        go_wp2
        go_roundw
        case rel=>exact⟨td,P1,k,g1,o1,c1,rfl,(by have:=hme.out;have:=hun.out;simp only[List.length_cons]at this;omega:unI P1+td.length<=100),hsp.out,hqu.out,hpr3.out,hgr3.out,hbox3.out,hsz3⟩
        case measure=>
         rw[Xb2 hpr3.out,HM0.out]
         have:=hme.out
         simp only[lenOf,List.length_cons]
         omega
   · have HQT:Hid (QueAt W1 (w.heap.size+1) 3 (.slice (some ⟨g,off+1,none⟩) todo.length (cq-1)) (QK9 todo)):=hqu.out.tail
     have hc2:¬ (cq-1=0):=by omega
     clear hc1 hqu hsp
     go_wp2
     simp only[List.length_cons]
     go_loopw [8,26] (fun v8 v26 wr=>∃ (td:List Nat) (P1:List Int) (s g1 o1 c1:Nat),s<=4/\v26=.int .i64 (s:Nat)/\v8=.slice (some ⟨g1,o1,none⟩) td.length c1/\Hid (unI P1+td.length=unI P+todo.length)/\Hid (Spr C P0 P1 f num td k s)/\Hid (QueAt wr (w.heap.size+1) 3 v8 (QK9 td))/\Hid (wr.ownsRow B 3 1 (.slice (some ⟨gP,0,none⟩) C.length cP) C.length (QQ3 P1))/\Hid (w.grownBy wr (some gP))/\Hid (wr.heap[w.heap.size]?=some (.cells #[.slice (some ⟨b,ob,none⟩) C.length cap,.int .i64 loops,.slice (some ⟨gF,0,none⟩) (2*C.length+1) cF,.slice (some ⟨gT,0,none⟩) (2*C.length+1) cT] 44 (0,0)))/\w.heap.size+1<=wr.heap.size) (fun _ v26 _=>4-(intOf v26).toNat)
     case atStart=>exact⟨todo,P,0,_,_,_,Nat.zero_le _,rfl,rfl,(rfl:unI P+todo.length=unI P+todo.length),HSP.out,HQT.out,hpr.out,hgr.out,hbox.out,hsz⟩
     case round =>
      rename World=>W3
      obtain⟨td,P1,s,g1,o1,c1,hs4,rfl,rfl,hme,hsp,hqu,hpr3,hgr3,hbox3,hsz3⟩:=hrel
      by_cases hsl:s<4
      · have hds:decide ((s:Int)<4)=true:=by simp;omega
        have HB03:Hid (Below w00.heap.size w00 W3):=HB0.out.grown hgr3.out HB0.out.size (fun q hq=>by have:=Option.some.inj hq;omega)
        have hs03:=HB03.out.size
        obtain⟨n1,n2,-⟩:=Qd3 HM.out k s hkn hsl
        have hnb:=Zx5 HM.out k s hkn hsl
        have hfit:=(QV7 HM.out k s hkn hsl).1
        obtain⟨x,hx⟩:∃ x,((C.getD k Cr.none).arc s).toNat=x:=⟨_,rfl⟩
        have harc:(C.getD k Cr.none).arc s=(x:Int):=by omega
        obtain⟨p,hp⟩:∃ p,(C.getD k Cr.none).comes s=p:=⟨_,rfl⟩
        obtain⟨y,hy⟩:∃ y,nbC C k s=y:=⟨_,rfl⟩
        have hey:enC C x (!p)=y:=by rw[<-hy];unfold nbC;rw[hx,hp]
        obtain⟨ys,hys⟩:∃ ys,enS C x (!p)=ys:=⟨_,rfl⟩
        rw[hx]at n1 n2
        have HLV:Hid (∀ V,Below w00.heap.size w00 V->Calls Tryd.prog 96 #[.agg #[.slice (some ⟨b,ob,none⟩) C.length cap,.int .i64 loops,.slice (some ⟨gF,0,none⟩) (2*C.length+1) cF,.slice (some ⟨gT,0,none⟩) (2*C.length+1) cT],.agg #[.int .i64 k,.int .i64 s]] V fun e w'=>e=.returned (.agg #[.int .i64 (x:Nat),.bool p])/\Below V.heap.size V w'):=fun V hV=>by
         have h:=Qk8 b ob cap C loops (.slice (some ⟨gF,0,none⟩) (2*C.length+1) cF) (.slice (some ⟨gT,0,none⟩) (2*C.length+1) cT) k s V hkn hsl (HCD.out V hV).2 (HCD.out V hV).1
         rw[harc,hp]at h
         exact h
        have HEV:Hid (∀ V,Below w00.heap.size w00 V->Calls Tryd.prog 69 #[.agg #[.slice (some ⟨b,ob,none⟩) C.length cap,.int .i64 loops,.slice (some ⟨gF,0,none⟩) (2*C.length+1) cF,.slice (some ⟨gT,0,none⟩) (2*C.length+1) cT],.agg #[.int .i64 (x:Nat),.bool p]] V fun e w'=>e=.returned (.agg #[.int .i64 (y:Nat),.int .i64 (ys:Nat)])/\Below V.heap.size V w'):=fun V hV=>by
         have h:=XG9 (some ⟨b,ob,none⟩) cap C loops gF cF gT cT x p V HM.out n1 n2 (HDD.out V hV)
         rw[hey,hys]at h
         exact h
        rw[hy]at hnb
        have HYN:Hid (nbC C k s=y):=hy
        have HF:Hid (∀ w',Below W3.heap.size W3 w'->w'.cell? ⟨w.heap.size,0,none⟩=some (.slice (some ⟨b,ob,none⟩) C.length cap)/\w'.cell? ⟨w.heap.size,1,none⟩=some (.int .i64 loops)/\w'.cell? ⟨w.heap.size,2,none⟩=some (.slice (some ⟨gF,0,none⟩) (2*C.length+1) cF)/\w'.cell? ⟨w.heap.size,3,none⟩=some (.slice (some ⟨gT,0,none⟩) (2*C.length+1) cT)):=fun w' hb=>by
         have g:=(hb.block _ (by omega)).trans hbox3.out
         exact⟨QQ0 g rfl,QQ0 g rfl,QQ0 g rfl,QQ0 g rfl⟩
        have HD3:Hid (Below W3.heap.size W3 W3.drew):=(Below.refl _ _).drew
        have H0:Hid (∀ w',Below W3.heap.size W3 w'->Below w00.heap.size w00 w'):=fun w' hb=>HB03.out.trans (hb.mono hs03)
        have hfs:=Qj0
        have hlP1:P1.length=C.length:=hsp.out.len
        have htd:td.length<=100:=by have:=hme.out;have:=hun.out;simp only[List.length_cons]at this;omega
        have hgb:=hqu.out.size.2.2.2
        have hc1b:=hqu.out.size.2.1
        clear n1 n2 hfit hx harc hp hey hys hy
        go_wp2
        obtain⟨t0,t1,t2,t3⟩:=HF.out W3 (Below.refl _ _)
        go_region_held3 (fun w' => w'.cell? ⟨w.heap.size, 0, none⟩ = some (.slice (some ⟨b, ob, none⟩) C.length cap) ∧ w'.cell? ⟨w.heap.size, 1, none⟩ = some (.int .i64 loops) ∧ w'.cell? ⟨w.heap.size, 2, none⟩ = some (.slice (some ⟨gF, 0, none⟩) (2 * C.length + 1) cF) ∧ w'.cell? ⟨w.heap.size, 3, none⟩ = some (.slice (some ⟨gT, 0, none⟩) (2 * C.length + 1) cT)) (first | exact HF.out _ H5.out | exact HF.out _ H4.out | exact HF.out _ HD3.out) (first
         | (go_at_call 96; refine (HLV.out W3.drew (H0.out _ HD3.out)).mono ?_; rintro e9 w4 ⟨rfl, hb4⟩
            have H4:Hid (Below W3.heap.size W3 w4):=HD3.out.trans (hb4.mono HD3.out.size)
            clear hb4)
         | (go_at_call 69; refine (HEV.out _ (H0.out _ H4.out)).mono ?_; rintro e9 w5 ⟨rfl, hb5⟩
            have H5:Hid (Below W3.heap.size W3 w5):=H4.out.trans (hb5.mono H4.out.size)
            clear hb5))
        all_goals
         clear t0 t1 t2 t3 hfs
         have hs5:=H5.out.size
         have hg5:W3.grownBy w5 none:=grown_below H5.out none
         have HR5:Hid (w5.ownsRow B 3 1 (.slice (some ⟨gP,0,none⟩) C.length cP) C.length (QQ3 P1)):=own_any hpr3.out hg5
         have HQ5:Hid (QueAt w5 (w.heap.size+1) 3 (.slice (some ⟨g1,o1,none⟩) td.length c1) (QK9 td)):=hqu.out.kept hg5 (by simp[Value.ownBlock])
         have HG5:Hid (w.grownBy w5 (some gP)):=grown_new hgr3.out hg5 (fun q hq=>by cases hq)
         have HT5:Hid (w5.heap[w.heap.size]?=some (.cells #[.slice (some ⟨b,ob,none⟩) C.length cap,.int .i64 loops,.slice (some ⟨gF,0,none⟩) (2*C.length+1) cF,.slice (some ⟨gT,0,none⟩) (2*C.length+1) cT] 44 (0,0))):=(H5.out.block _ (by omega)).trans hbox3.out
         have e0:w5.cell? ⟨gP,y,none⟩=some (.int .i64 (P1.getD y 0)):=by
          rw[HR5.out.cellAt y (by omega)];exact QZ5 P1 y (by omega)
         have z0:w5.frozen? ⟨gP,y,none⟩=false:=HR5.out.frozenAt y
         have lg:gP<w5.heap.size:=by omega
         obtain⟨q,hq⟩:∃ q,P1.getD y 0=q:=⟨_,rfl⟩
         rw[hq]at e0
         have HQQ:Hid (P1.getD y 0=q):=hq
         clear hg5 hq
         by_cases hqm:q = -1
         · have hde:(q == -1)=true:=by simp[hqm]
           have HSN : Hid (Spr C P0 (P1.set y (num : Int)) f num (td ++ [y]) k (s + 1)) := (by
            have h:=hsp.out.new_side HM.out (by omega) hkn hsl HKC.out (by rw[HYN.out,HQQ.out];exact hqm)
            rw[HYN.out]at h
            exact h:Spr C P0 (P1.set y (num:Int)) f num (td++[y]) k (s+1))
           have HUN:Hid (unI (P1.set y (num:Int))+1=unI P1):=Zj5 (by omega) (by rw[HQQ.out];exact hqm) (by omega)
           have hst:=HR5.out.stored y (.int .i64 ((num:Nat):Int))
           rw[QK0]at hst
           have HRV:Hid ((w5.setCell ⟨gP,y,none⟩ (.int .i64 ((num:Nat):Int))).ownsRow B 3 1 (.slice (some ⟨gP,0,none⟩) C.length cP) C.length (QQ3 (P1.set y (num:Int)))):=hst.1
           have HQV:Hid (QueAt (w5.setCell ⟨gP,y,none⟩ (.int .i64 ((num:Nat):Int))) (w.heap.size+1) 3 (.slice (some ⟨g1,o1,none⟩) td.length c1) (QK9 td)):=HQ5.out.kept hst.2 (fun e=>by have:g1=gP:=Option.some.inj e;omega)
           have HGV:Hid (w.grownBy (w5.setCell ⟨gP,y,none⟩ (.int .i64 ((num:Nat):Int))) (some gP)):=grown_trans HG5.out hst.2
           have HTV:Hid ((w5.setCell ⟨gP,y,none⟩ (.int .i64 ((num:Nat):Int))).heap[w.heap.size]?=some (.cells #[.slice (some ⟨b,ob,none⟩) C.length cap,.int .i64 loops,.slice (some ⟨gF,0,none⟩) (2*C.length+1) cF,.slice (some ⟨gT,0,none⟩) (2*C.length+1) cT] 44 (0,0))):=(hst.2.block _ (by omega) (fun e=>by have:w.heap.size=gP:=Option.some.inj e;omega)).trans HT5.out
           have hsV:(w5.setCell ⟨gP,y,none⟩ (.int .i64 ((num:Nat):Int))).heap.size=w5.heap.size:=by simp
           clear hst hqm
           go_wp2_with (first
            |(at_builtin;refine QH0 _ rfl _ _ 22 rfl (w.heap.size+1) 3 i0 (.int .i64 0) 8 Tryd.underlying22 hi hz0 hz1 hz2 rfl _ _ rfl (HQV.out.kept (World.grownBy_alloc _ _ none) (by simp[Value.ownBlock])) ⟨w5.heap.size,0,none⟩ 1 (.int .i64 (y:Nat)) rfl (QQ0 (alloc_at hsV.symm) rfl) rfl (by rw[QU5];unfold maxLen;omega) (by rw[QU5];omega) (by simp;omega) ?_;intro v8 w8 hq8 hg8;refine Hid.out ?_))
           refine Lib.hid ?_
           have hq8':QueAt w8 (w.heap.size+1) 3 v8 (QK9 (td++[y])):=by rw[XA1];exact hq8
           have hr8:=(HRV.out.alloc (.cells #[.int .i64 (y:Nat)] 3)).kept hg8 (Or.inr (fun e=>by have:gP=g1:=Option.some.inj e;omega))
           have HR8:Hid (w8.ownsRow B 3 1 (.slice (some ⟨gP,0,none⟩) C.length cP) C.length (QQ3 (P1.set y (num:Int)))):=hr8
           have HG8:Hid (w.grownBy w8 (some gP)):=grown_new (grown_trans HGV.out (World.grownBy_alloc _ _ _)) hg8 (fun q hq=>by have:g1=q:=Option.some.inj hq;omega)
           have HT8:Hid (w8.heap[w.heap.size]?=some (.cells #[.slice (some ⟨b,ob,none⟩) C.length cap,.int .i64 loops,.slice (some ⟨gF,0,none⟩) (2*C.length+1) cF,.slice (some ⟨gT,0,none⟩) (2*C.length+1) cT] 44 (0,0))):=(hg8.block _ (by simp;omega) (fun e=>by have:w.heap.size=g1:=Option.some.inj e;omega)).trans (alloc_old HTV.out)
           have hs8:w5.heap.size+1<=w8.heap.size:=by have:=hg8.size;simp at this;omega
           obtain⟨g8,o8,c8,e8,-⟩:=hq8'.shape
           rw[QU5]at e8
           subst e8
           have HQ8:Hid (QueAt w8 (w.heap.size+1) 3 (.slice (some ⟨g8,o8,none⟩) (td++[y]).length c8) (QK9 (td++[y]))):=hq8'
           clear hq8 hq8' hr8 hg8 e0 z0
           go_wp2
           go_roundw
           case rel=>exact⟨td++[y],P1.set y (num:Int),s+1,g8,o8,c8,by omega,by go_num,rfl,(by have:=hme.out;have:=HUN.out;simp only[List.length_append,List.length_cons,List.length_nil];omega:unI (P1.set y (num:Int))+(td++[y]).length=unI P+todo.length),HSN.out,HQ8.out,HR8.out,HG8.out,HT8.out,by omega⟩
           case measure=>simp only[intOf];omega
         · have hde:(q == -1)=false:=by simp[hqm]
           have HSO:Hid (Spr C P0 P1 f num td k (s+1)):=hsp.out.old_side (by rw[HYN.out,HQQ.out];exact hqm)
           go_wp2
           go_roundw
           case rel=>exact⟨td,P1,s+1,g1,o1,c1,by omega,by go_num,rfl,hme.out,HSO.out,HQ5.out,HR5.out,HG5.out,HT5.out,by omega⟩
           case measure=>simp only[intOf];omega
      · obtain rfl:s=4:=by omega
        go_wp2
        go_roundw
        case rel=>exact⟨td,P1,k,g1,o1,c1,rfl,(by have:=hme.out;have:=hun.out;simp only[List.length_cons]at this;omega:unI P1+td.length<=100),hsp.out,hqu.out,hpr3.out,hgr3.out,hbox3.out,hsz3⟩
        case measure=>
         rw[Xb2 hpr3.out,HM0.out]
         have:=hme.out
         simp only[lenOf,List.length_cons]
         omega
end Go.Proofs.YtjcagkgpbcdghaaDoor
/- The walk of Drawing.Pieces. -/
namespace Go.Proofs.YtjcagkgpbcdghaaDoor
open Go.RowKit
set_option maxHeartbeats 16000000
set_option maxRecDepth 100000
def Qx4 (n i:Nat):List Int:=(List.range n).map fun v=>if v<i then -1 else 0
theorem ZH4 (n:Nat):List.replicate n (0:Int)=Qx4 n 0:=by
 refine List.ext_getElem (by simp[Qx4]) fun j h1 h2=>?_
 simp[Qx4]
theorem ZH5 (n i:Nat):(Qx4 n i).set i (-1)=Qx4 n (i+1):=by
 refine List.ext_getElem (by simp[Qx4]) fun j h1 h2=>?_
 simp only[List.getElem_set,Qx4,List.getElem_map,List.getElem_range]
 split
 · rename_i h;subst h;simp
 · rename_i h
   by_cases h3:j<i
   · rw[if_pos h3,if_pos (by omega)]
   · rw[if_neg h3,if_neg (by omega)]
theorem KZ6 (n:Nat):Qx4 n n=List.replicate n (-1):=by
 refine List.ext_getElem (by simp[Qx4]) fun j h1 h2=>?_
 simp only[Qx4,List.getElem_map,List.getElem_range,List.getElem_replicate]
 rw[if_pos (by simpa[Qx4] using h1)]
theorem ZG7 (a : Option Addr) (cap : Nat) (C : List Cr) (loops : Int) (gF cF gT cT : Nat) (w : World) (hm : QX3 C loops = true) (hD : Dr w a cap C gF gT) :
    Calls Tryd.prog 67 #[drV a cap C loops gF cF gT cT] w fun e w'=>∃ gP cP P c,e=.returned (.tuple #[.slice (some ⟨gP,0,none⟩) C.length cP,.int .i64 (c:Nat)])/\w'.ownsRow w.heap.size 3 1 (.slice (some ⟨gP,0,none⟩) C.length cP) C.length (QQ3 P)/\PcsAll C P c/\Below w.heap.size w w':=by
 obtain⟨s1,-,-,-⟩:=QJ7 (QU6 hm)
 obtain⟨i2,hk,hx0,hx1,hx2⟩:=info_parts QB7
 have HM:=KU4 hm
 have HD:=KU4 hD
 unfold drV
 clear hm hD
 obtain⟨w0,hw0⟩:∃ w0,w0=w.alloc (.cells #[.slice a C.length cap,.int .i64 loops,.slice (some ⟨gF,0,none⟩) (2*C.length+1) cF,.slice (some ⟨gT,0,none⟩) (2*C.length+1) cT] 44):=⟨_,rfl⟩
 have HW0:=KU4 hw0
 have hs0:w0.heap.size=w.heap.size+1:=by rw[hw0];simp
 have HB0:=KU4 (show Below w.heap.size w w0 by rw[hw0];exact(Below.refl _ _).alloc (Nat.le_refl _) _)
 have HT0:=KU4 (show w0.heap[w.heap.size]?=some (.cells #[.slice a C.length cap,.int .i64 loops,.slice (some ⟨gF,0,none⟩) (2*C.length+1) cF,.slice (some ⟨gT,0,none⟩) (2*C.length+1) cT] 44 (0,0)) by rw[hw0];exact alloc_at rfl)
 clear hw0
 go_enter Tryd.func67,Tryd.ntmps67
 go_wp2_with (first|(at_make;refine wpList_make_full _ rfl _ _ 22 rfl (w.heap.size+1) 3 i2 (.int .i64 0) 1 Tryd.underlying22 hk hx0 hx1 .i64 .i64 _ _ C.length rfl rfl rfl rfl (by rw[hx2];omega) (by unfold maxLen;omega) (by simp) ?_;intro w1 hrow hg1;refine Hid.out ?_))
 refine Lib.hid ?_
 rw[<-HW0.out]at hrow hg1
 rw[Qw7,hs0,ZH4]at hrow
 have HP0:Hid (w1.heap[w.heap.size]?=some (.cells #[.slice a C.length cap,.int .i64 loops,.slice (some ⟨gF,0,none⟩) (2*C.length+1) cF,.slice (some ⟨gT,0,none⟩) (2*C.length+1) cT] 44 (0,0))/\w1.ownsRow (w.heap.size+1) 3 1 (.slice (some ⟨w.heap.size+1,0,none⟩) C.length C.length) C.length (QQ3 (Qx4 C.length 0))/\Below w.heap.size w w1):=⟨(hg1.block _ (by omega) (by simp)).trans HT0.out,hrow,HB0.out.grown hg1 (by omega) (fun k hk=>by cases hk)⟩
 clear hrow hg1 HT0 HB0 hs0 HW0
 go_wp2
 go_loopw [15] (fun v15 wr=>∃ i:Nat,i<=C.length/\v15=.int .i64 (i:Nat)/\Hid (wr.heap[w.heap.size]?=some (.cells #[.slice a C.length cap,.int .i64 loops,.slice (some ⟨gF,0,none⟩) (2*C.length+1) cF,.slice (some ⟨gT,0,none⟩) (2*C.length+1) cT] 44 (0,0))/\wr.ownsRow (w.heap.size+1) 3 1 (.slice (some ⟨w.heap.size+1,0,none⟩) C.length C.length) C.length (QQ3 (Qx4 C.length i))/\Below w.heap.size w wr)) (fun v15 _=>C.length-(intOf v15).toNat)
 case atStart=>exact⟨0,Nat.zero_le _,rfl,HP0.out⟩
 case round=>
  clear HP0
  rename World=>W1
  obtain⟨i,hin,rfl,hp⟩:=hrel
  have hlt:=hp.out.2.1.lt (w.heap.size+1) rfl
  by_cases hil:i<C.length
  · have hst:=hp.out.2.1.stored i (.int .i64 (-1))
    rw[QK0,ZH5]at hst
    have HST:Hid ((W1.setCell ⟨w.heap.size+1,i,none⟩ (.int .i64 (-1))).heap[w.heap.size]?=some (.cells #[.slice a C.length cap,.int .i64 loops,.slice (some ⟨gF,0,none⟩) (2*C.length+1) cF,.slice (some ⟨gT,0,none⟩) (2*C.length+1) cT] 44 (0,0))/\(W1.setCell ⟨w.heap.size+1,i,none⟩ (.int .i64 (-1))).ownsRow (w.heap.size+1) 3 1 (.slice (some ⟨w.heap.size+1,0,none⟩) C.length C.length) C.length (QQ3 (Qx4 C.length (i+1)))/\Below w.heap.size w (W1.setCell ⟨w.heap.size+1,i,none⟩ (.int .i64 (-1)))):=⟨(hst.2.block _ (by omega) (fun e=>by have:w.heap.size=w.heap.size+1:=Option.some.inj e;omega)).trans hp.out.1,hst.1,hp.out.2.2.grown hst.2 hp.out.2.2.size (fun q hq=>by have:=Option.some.inj hq;omega)⟩
    have e0:W1.cell? ⟨w.heap.size+1,i,none⟩=some (.int .i64 ((Qx4 C.length i).getD i 0)):=by
     rw[hp.out.2.1.cellAt i (by omega)];exact QZ5 _ i (by simp[Qx4];omega)
    have z0:W1.frozen? ⟨w.heap.size+1,i,none⟩=false:=hp.out.2.1.frozenAt i
    clear hst
    go_wp2
    go_roundw
    case rel=>exact⟨i+1,by omega,by go_num,HST.out⟩
    case measure=>simp only[intOf];omega
  · obtain rfl:i=C.length:=by omega
    have HPC:=KU4 (Pcs.start C _ (KZ6 _) (Xg6 HM.out))
    have HP1:=KU4 hp.out
    clear hp
    go_wp2
    go_loopw [6,24] (fun v6 v24 wr=>∃ (k c:Nat) (P:List Int),k<=C.length/\v24=.int .i64 (k:Nat)/\v6=.int .i64 (c:Nat)/\Hid (Pcs C P c k)/\Hid (wr.heap[w.heap.size]?=some (.cells #[.slice a C.length cap,.int .i64 loops,.slice (some ⟨gF,0,none⟩) (2*C.length+1) cF,.slice (some ⟨gT,0,none⟩) (2*C.length+1) cT] 44 (0,0))/\wr.ownsRow (w.heap.size+1) 3 1 (.slice (some ⟨w.heap.size+1,0,none⟩) C.length C.length) C.length (QQ3 P)/\Below w.heap.size w wr)) (fun _ v24 _=>C.length-(intOf v24).toNat)
    case atStart=>exact⟨0,0,_,Nat.zero_le _,rfl,rfl,HPC.out,HP1.out⟩
    case round=>
     clear HP1 HPC hlt
     rename World=>W3
     obtain⟨k,c,P,hkn,rfl,rfl,hpc,hp⟩:=hrel
     have hlt:=hp.out.2.1.lt (w.heap.size+1) rfl
     have hck:=hpc.out.few
     have hsW:=hp.out.2.2.size
     by_cases hkl:k<C.length
     · have e0 : W3.cell? ⟨w.heap.size + 1, k, none⟩ = some (.int .i64 (P.getD k 0)) := by
         rw[hp.out.2.1.cellAt k (by omega)];exact QZ5 _ k (by rw[hpc.out.len];exact hkl)
       obtain⟨q,hq⟩:∃ q,P.getD k 0=q:=⟨_,rfl⟩
       rw[hq]at e0
       have HQ:=KU4 hq
       clear hq
       by_cases hqm:q = -1
       · have HQM:Hid (P.getD k 0 = -1):=(by rw[HQ.out];exact hqm:P.getD k 0 = -1)
         have hde:(q == -1)=true:=by simp[hqm]
         have HSC:Hid (∀ V,Below W3.heap.size W3 V->V.ownsRow (w.heap.size+1) 3 1 (.slice (some ⟨w.heap.size+1,0,none⟩) C.length C.length) C.length (QQ3 P)->Calls Tryd.prog 86 #[.agg #[.slice a C.length cap,.int .i64 loops,.slice (some ⟨gF,0,none⟩) (2*C.length+1) cF,.slice (some ⟨gT,0,none⟩) (2*C.length+1) cT],.slice (some ⟨w.heap.size+1,0,none⟩) C.length C.length,.int .i64 k,.int .i64 c] V fun e w'=>e=.returned (.tuple #[])/\∃ P2 k2,Spr C P P2 k c [] k2 4/\w'.ownsRow (w.heap.size+1) 3 1 (.slice (some ⟨w.heap.size+1,0,none⟩) C.length C.length) C.length (QQ3 P2)/\V.grownBy w' (some (w.heap.size+1))):=fun V hV hrow=>
          ZD7 a cap C loops gF cF gT cT (w.heap.size + 1) C.length (w.heap.size + 1) P k c w V HM.out HD.out (hp.out.2.2.trans (hV.mono hsW)) (by omega) hrow hkl HQM.out (fun v hv => by
           rcases hpc.out.vals v hv with h|h
           · rw[h];omega
           · omega)
         have p0:=QQ0 (i:=0) hp.out.1 rfl
         have p1:=QQ0 (i:=1) hp.out.1 rfl
         have p2:=QQ0 (i:=2) hp.out.1 rfl
         have p3:=QQ0 (i:=3) hp.out.1 rfl
         clear hqm
         go_wp2_with (go_at_call 86;refine(HSC.out _ (Below.refl _ _) hp.out.2.1).mono ?_;rintro e9 w4 ⟨rfl,P2,k2,hsp,hr4,hg4⟩;refine Hid.out ?_)
         refine Lib.hid ?_
         have HPN:=KU4 (hpc.out.more HM.out hkl HQM.out hsp)
         have HP4:Hid (w4.heap[w.heap.size]?=some (.cells #[.slice a C.length cap,.int .i64 loops,.slice (some ⟨gF,0,none⟩) (2*C.length+1) cF,.slice (some ⟨gT,0,none⟩) (2*C.length+1) cT] 44 (0,0))/\w4.ownsRow (w.heap.size+1) 3 1 (.slice (some ⟨w.heap.size+1,0,none⟩) C.length C.length) C.length (QQ3 P2)/\Below w.heap.size w w4):=⟨(hg4.block _ (by omega) (fun e=>by have:w.heap.size=w.heap.size+1:=Option.some.inj e;omega)).trans hp.out.1,hr4,hp.out.2.2.grown hg4 hsW (fun q hq=>by have:=Option.some.inj hq;omega)⟩
         clear p0 p1 p2 p3 hsp hr4 hg4
         go_wp2
         go_roundw
         case rel=>exact⟨k+1,c+1,P2,by omega,by go_num,by go_num,HPN.out,HP4.out⟩
         case measure=>simp only[intOf];omega
       · have hde:(q == -1)=false:=by simp[hqm]
         have HPN:Hid (Pcs C P c (k+1)):=hpc.out.skip (by rw[HQ.out];exact hqm)
         go_wp2
         go_roundw
         case rel=>exact⟨k+1,c,P,by omega,by go_num,rfl,HPN.out,hp.out⟩
         case measure=>simp only[intOf];omega
     · obtain rfl:k=C.length:=by omega
       go_wp2
       exact bodyPost_ret (v:=.tuple #[.slice (some ⟨w.heap.size+1,0,none⟩) C.length C.length,.int .i64 (c:Nat)]) (by simp[results,Tryd.results67,go_sem]) rfl ⟨w.heap.size+1,C.length,P,c,rfl,QZ6 hp.out.2.1 (by omega),hpc.out.all,hp.out.2.2⟩
end Go.Proofs.YtjcagkgpbcdghaaDoor
/- The walk of Drawing.OnSphere, the rings of FaceRings being given. -/
namespace Go.Proofs.YtjcagkgpbcdghaaDoor
open Go.RowKit
def QX8 : Prop := ∀ (a : Option Addr) (cap : Nat) (C : List Cr) (loops : Int) (gF cF gT cT : Nat) (w : World), QX3 C loops = true → Dr w a cap C gF gT →
    Calls Tryd.prog 68 #[drV a cap C loops gF cF gT cT] w fun e w'=>∃ v,e=.returned v/\DartsOwn w' w.heap.size v (QX0 C)/\Below w.heap.size w w'
def KU5 (P:List Int) (p i:Nat):Nat:=(List.range i).countP fun v=>decide (P.getD v 0=(p:Int))
theorem KV8 (P:List Int) (p i:Nat):KU5 P p (i+1)=KU5 P p i+if P.getD i 0=(p:Int) then 1 else 0:=by
 unfold KU5
 rw[List.range_succ,List.countP_append]
 congr 1
 by_cases h:P.getD i 0=(p:Int)
 · rw[if_pos h];simp only[List.countP_cons,List.countP_nil,h,decide_true,if_true]
 · rw[if_neg h];simp only[List.countP_cons,List.countP_nil,h,decide_false];rfl
theorem Zd3 (P:List Int) (p i:Nat):KU5 P p i<=i:=by
 have:=List.countP_le_length (p:=fun v=>decide (P.getD v 0=(p:Int))) (l:=List.range i)
 simpa[KU5] using this
def KU6 (G:List Nat) (P:List Int) (p i:Nat):Nat:=(G.take i).countP fun g=>decide (P.getD g 0=(p:Int))
theorem KV9 (G:List Nat) (P:List Int) (p i:Nat) (hi:i<G.length):KU6 G P p (i+1)=KU6 G P p i+if P.getD (G.getD i 0) 0=(p:Int) then 1 else 0:=by
 unfold KU6
 rw[List.take_add_one,List.countP_append]
 congr 1
 have e:G[i]?=some (G.getD i 0):=by rw[List.getD_eq_getElem?_getD,List.getElem?_eq_getElem hi];rfl
 rw[e]
 by_cases h:P.getD (G.getD i 0) 0=(p:Int)
 · rw[if_pos h];simp only[Option.toList_some,List.countP_cons,List.countP_nil,h,decide_true,if_true]
 · rw[if_neg h];simp only[Option.toList_some,List.countP_cons,List.countP_nil,h,decide_false];rfl
theorem Zd4 (G:List Nat) (P:List Int) (p i:Nat):KU6 G P p i<=G.length:=by
 have:=List.countP_le_length (p:=fun g=>decide (P.getD g 0=(p:Int))) (l:=G.take i)
 unfold KU6
 have h3:(G.take i).length<=G.length:=by rw[List.length_take];omega
 omega
def exL (G:List Nat) (P:List Int) (c i j:Nat):List Int:=(List.range c).map fun p=>(KU6 G P p j:Int)-(KU5 P p i:Int)
theorem Xf6 (G:List Nat) (P:List Int) (c i j:Nat):(exL G P c i j).length=c:=by simp[exL]
theorem Xz0 (G:List Nat) (P:List Int) (c i j p:Nat) (hp:p<c):(exL G P c i j).getD p 0=(KU6 G P p j:Int)-(KU5 P p i:Int):=by
 simp[exL,List.getD_eq_getElem?_getD,hp]
theorem KC0 (G:List Nat) (P:List Int) (c:Nat):List.replicate c (0:Int)=exL G P c 0 0:=by
 refine List.ext_getElem (by simp[exL]) fun j h1 h2=>?_
 simp[exL,KU6,KU5]
theorem KC2 (G:List Nat) (P:List Int) (c i q:Nat) (hq:P.getD i 0=(q:Int)) (hc:q<c):(exL G P c i 0).set q ((exL G P c i 0).getD q 0-1)=exL G P c (i+1) 0:=by
 rw[Xz0 _ _ _ _ _ _ hc]
 refine List.ext_getElem (by simp[exL]) fun j h1 h2=>?_
 rw[List.getElem_set]
 simp only[exL,List.getElem_map,List.getElem_range]
 rw[KV8]
 split
 · rename_i h;subst h;rw[if_pos hq];omega
 · rename_i h;rw[if_neg (fun e=>h (by rw[hq]at e;omega))];rfl
theorem KC1 (G:List Nat) (P:List Int) (c i j q:Nat) (hj:j<G.length) (hq:P.getD (G.getD j 0) 0=(q:Int)) (hc:q<c):(exL G P c i j).set q ((exL G P c i j).getD q 0+1)=exL G P c i (j+1):=by
 rw[Xz0 _ _ _ _ _ _ hc]
 refine List.ext_getElem (by simp[exL]) fun k h1 h2=>?_
 rw[List.getElem_set]
 simp only[exL,List.getElem_map,List.getElem_range]
 rw[KV9 _ _ _ _ hj]
 split
 · rename_i h;subst h;rw[if_pos hq];omega
 · rename_i h;rw[if_neg (fun e=>h (by rw[hq]at e;omega))];rfl
theorem JH6 (n:Nat) (G:List Nat) (P:List Int) (c p:Nat) (hp:p<c):(exL G P c n G.length).getD p 0=exI n G P p:=by
 rw[Xz0 _ _ _ _ _ _ hp]
 unfold exI KU6 KU5
 rw[List.take_length]
theorem Qu7 {C:List Cr} {loops:Int} (hm:QX3 C loops=true) {P:List Int} {c:Nat} (hP:PcsAll C P c):QZ1 C=true↔∀ p,p<c->exI C.length (QX6 C) P p=2:=by
 rw[Qk6]
 exact(ZD8 hP (QU1 hm) (XK4 hm)).symm
end Go.Proofs.YtjcagkgpbcdghaaDoor
/- The walk of Drawing.OnSphere, the rings of FaceRings being given. -/
namespace Go.Proofs.YtjcagkgpbcdghaaDoor
open Go.RowKit
set_option maxHeartbeats 16000000
set_option maxRecDepth 100000
theorem Xu7 (hFR : QX8) (a : Option Addr) (cap : Nat) (C : List Cr) (loops : Int) (gF cF gT cT : Nat) (w : World) (hm : QX3 C loops = true) (hD : Dr w a cap C gF gT) :
    Calls Tryd.prog 52 #[drV a cap C loops gF cF gT cT] w fun e w'=>e=.returned (.bool (QZ1 C))/\Below w.heap.size w w':=by
 obtain⟨s1,-,-,-⟩:=QJ7 (QU6 hm)
 obtain⟨i2,hk,hx0,hx1,hx2⟩:=info_parts QB7
 have HM:Hid (QX3 C loops=true):=hm
 have HD:Hid (Dr w a cap C gF gT):=hD
 have HFA:Hid QX8:=hFR
 obtain⟨hfl,hfr⟩:=Qq3 hm
 have HFR:Hid (∀ j,j<(QX0 C).length->0<((QX0 C).getD j []).length/\((QX0 C).getD j []).length<=4*C.length+1/\∀ k,k<((QX0 C).getD j []).length->1<=((QX0 C).getD j []).getD k 0/\((QX0 C).getD j []).getD k 0<=4*C.length):=hfr
 clear hm hD hfr hFR
 obtain⟨w0,hw0⟩:∃ w0,w0=w.alloc (.cells #[.slice a C.length cap,.int .i64 loops,.slice (some ⟨gF,0,none⟩) (2*C.length+1) cF,.slice (some ⟨gT,0,none⟩) (2*C.length+1) cT] 44):=⟨_,rfl⟩
 have HW0:Hid (w0=w.alloc (.cells #[.slice a C.length cap,.int .i64 loops,.slice (some ⟨gF,0,none⟩) (2*C.length+1) cF,.slice (some ⟨gT,0,none⟩) (2*C.length+1) cT] 44)):=hw0
 have hs0:w0.heap.size=w.heap.size+1:=by rw[hw0];simp
 have HB0:Hid (Below w.heap.size w w0):=(by rw[hw0];exact(Below.refl _ _).alloc (Nat.le_refl _) _:Below w.heap.size w w0)
 have HT0:Hid (w0.heap[w.heap.size]?=some (.cells #[.slice a C.length cap,.int .i64 loops,.slice (some ⟨gF,0,none⟩) (2*C.length+1) cF,.slice (some ⟨gT,0,none⟩) (2*C.length+1) cT] 44 (0,0))):=(by rw[hw0];exact alloc_at rfl:w0.heap[w.heap.size]?=some (.cells #[.slice a C.length cap,.int .i64 loops,.slice (some ⟨gF,0,none⟩) (2*C.length+1) cF,.slice (some ⟨gT,0,none⟩) (2*C.length+1) cT] 44 (0,0)))
 have HPI:Hid (∀ V,Dr V a cap C gF gT->Calls Tryd.prog 67 #[.agg #[.slice a C.length cap,.int .i64 loops,.slice (some ⟨gF,0,none⟩) (2*C.length+1) cF,.slice (some ⟨gT,0,none⟩) (2*C.length+1) cT]] V fun e w'=>∃ gP cP P c,e=.returned (.tuple #[.slice (some ⟨gP,0,none⟩) C.length cP,.int .i64 (c:Nat)])/\w'.ownsRow V.heap.size 3 1 (.slice (some ⟨gP,0,none⟩) C.length cP) C.length (QQ3 P)/\PcsAll C P c/\Below V.heap.size V w'):=fun V hV=>ZG7 a cap C loops gF cF gT cT V HM.out hV
 have HFI:Hid (∀ V,Dr V a cap C gF gT->Calls Tryd.prog 68 #[.agg #[.slice a C.length cap,.int .i64 loops,.slice (some ⟨gF,0,none⟩) (2*C.length+1) cF,.slice (some ⟨gT,0,none⟩) (2*C.length+1) cT]] V fun e w'=>∃ v,e=.returned v/\DartsOwn w' V.heap.size v (QX0 C)/\Below V.heap.size V w'):=fun V hV=>HFA.out a cap C loops gF cF gT cT V HM.out hV
 clear hw0
 unfold drV
 go_enter Tryd.func52,Tryd.ntmps52
 go_wp2_with (go_at_call 67;rw[<-HW0.out];refine(HPI.out _ (HD.out.on HB0.out)).mono ?_;rintro e9 w1 ⟨gP,cP,P,c,rfl,hrow,hpc,hb1⟩;refine Hid.out ?_)
 refine Lib.hid ?_
 have HPC:Hid (PcsAll C P c):=hpc
 have hcn:=hpc.few
 have hs1:=hb1.size
 have HB1:Hid (Below w0.heap.size w0 w1):=hb1
 have HR1:Hid (w1.ownsRow w0.heap.size 3 1 (.slice (some ⟨gP,0,none⟩) C.length cP) C.length (QQ3 P)):=hrow
 have hgP:=hrow.lt gP rfl
 clear hpc hb1 hrow
 go_wp2_with (first|(at_make;refine wpList_make_full _ rfl _ _ 22 rfl w1.heap.size 3 i2 (.int .i64 0) 1 Tryd.underlying22 hk hx0 hx1 .i64 .i64 _ _ c rfl rfl rfl rfl (by rw[hx2];omega) (by unfold maxLen;omega) (by simp) ?_;intro w2 hrow2 hg2;refine Hid.out ?_))
 refine Lib.hid ?_
 rw[Qw7,KC0 (QX6 C) P c]at hrow2
 have hg2':w1.grownBy w2 none:=hg2
 have HE2:Hid (w2.heap[w.heap.size]?=some (.cells #[.slice a C.length cap,.int .i64 loops,.slice (some ⟨gF,0,none⟩) (2*C.length+1) cF,.slice (some ⟨gT,0,none⟩) (2*C.length+1) cT] 44 (0,0))/\w2.ownsRow w0.heap.size 3 1 (.slice (some ⟨gP,0,none⟩) C.length cP) C.length (QQ3 P)/\w2.ownsRow w1.heap.size 3 1 (.slice (some ⟨w1.heap.size,0,none⟩) c c) c (QQ3 (exL (QX6 C) P c 0 0))/\Below w.heap.size w w2):=⟨(hg2'.block _ (by omega) (by simp)).trans ((HB1.out.block _ (by omega)).trans HT0.out),own_any HR1.out hg2',hrow2,(HB0.out.trans (HB1.out.mono (by omega))).grown hg2' (by omega) (fun k hk=>by cases hk)⟩
 have HVA:Hid (∀ i,i<C.length->∃ q:Nat,P.getD i 0=(q:Int)/\q<c):=fun i hi=>⟨(P.getD i 0).toNat,by have:=HPC.out.vals i hi;omega,by have:=HPC.out.vals i hi;omega⟩
 have HPL:Hid (P.length=C.length):=HPC.out.len
 clear hrow2 hg2 hg2' HT0 HB0 HB1 HR1
 go_wp2
 go_loopw [21] (fun v21 wr=>∃ i:Nat,i<=C.length/\v21=.int .i64 (i:Nat)/\Hid (wr.heap[w.heap.size]?=some (.cells #[.slice a C.length cap,.int .i64 loops,.slice (some ⟨gF,0,none⟩) (2*C.length+1) cF,.slice (some ⟨gT,0,none⟩) (2*C.length+1) cT] 44 (0,0))/\wr.ownsRow w0.heap.size 3 1 (.slice (some ⟨gP,0,none⟩) C.length cP) C.length (QQ3 P)/\wr.ownsRow w1.heap.size 3 1 (.slice (some ⟨w1.heap.size,0,none⟩) c c) c (QQ3 (exL (QX6 C) P c i 0))/\Below w.heap.size w wr)) (fun v21 _=>C.length-(intOf v21).toNat)
 case atStart=>exact⟨0,Nat.zero_le _,rfl,HE2.out⟩
 case round=>
  clear HE2
  rename World=>W1
  obtain⟨i,hin,rfl,he⟩:=hrel
  have hlE:=he.out.2.2.1.lt w1.heap.size rfl
  have hlP:=he.out.2.1.lt gP rfl
  have hsW:=he.out.2.2.2.size
  by_cases hil:i<C.length
  · obtain⟨q,hq,hqc⟩:=HVA.out i hil
    have e0:W1.cell? ⟨gP,i,none⟩=some (.int .i64 (q:Nat)):=by
     rw[he.out.2.1.cellAt i (by omega),QZ5 P i (by rw[HPL.out];exact hil),hq]
    obtain⟨z,hz⟩:∃ z,(exL (QX6 C) P c i 0).getD q 0=z:=⟨_,rfl⟩
    have hzb : -16<=z/\z<=100:=by
     rw[<-hz,Xz0 _ _ _ _ _ _ hqc]
     have h1:=Zd3 P q i
     have h2:=Zd4 (QX6 C) P q 0
     rw[QG6]at h2
     omega
    have e1:W1.cell? ⟨w1.heap.size,q,none⟩=some (.int .i64 z):=by
     rw[he.out.2.2.1.cellAt q (by omega),QZ5 _ q (by rw[Xf6];exact hqc),hz]
    have z1:W1.frozen? ⟨w1.heap.size,q,none⟩=false:=he.out.2.2.1.frozenAt q
    have hst:=he.out.2.2.1.stored q (.int .i64 (z-1))
    rw[QK0,<-hz,KC2 (QX6 C) P c i q hq hqc,hz]at hst
    have HST:Hid ((W1.setCell ⟨w1.heap.size,q,none⟩ (.int .i64 (z-1))).heap[w.heap.size]?=some (.cells #[.slice a C.length cap,.int .i64 loops,.slice (some ⟨gF,0,none⟩) (2*C.length+1) cF,.slice (some ⟨gT,0,none⟩) (2*C.length+1) cT] 44 (0,0))/\(W1.setCell ⟨w1.heap.size,q,none⟩ (.int .i64 (z-1))).ownsRow w0.heap.size 3 1 (.slice (some ⟨gP,0,none⟩) C.length cP) C.length (QQ3 P)/\(W1.setCell ⟨w1.heap.size,q,none⟩ (.int .i64 (z-1))).ownsRow w1.heap.size 3 1 (.slice (some ⟨w1.heap.size,0,none⟩) c c) c (QQ3 (exL (QX6 C) P c (i+1) 0))/\Below w.heap.size w (W1.setCell ⟨w1.heap.size,q,none⟩ (.int .i64 (z-1)))):=⟨(hst.2.block _ (by omega) (fun e=>by have:w.heap.size=w1.heap.size:=Option.some.inj e;omega)).trans he.out.1,he.out.2.1.kept hst.2 (Or.inr (fun e=>by have:gP=w1.heap.size:=Option.some.inj e;omega)),hst.1,he.out.2.2.2.grown hst.2 hsW (fun k hk=>by have:=Option.some.inj hk;omega)⟩
    have hqI:(q:Int)<(c:Int):=by omega
    clear hst hz hq
    go_wp2
    go_roundw
    case rel=>exact⟨i+1,by omega,by go_num,HST.out⟩
    case measure=>simp only[intOf];omega
  · obtain rfl:i=C.length:=by omega
    have HE3:Hid (W1.heap[w.heap.size]?=some (.cells #[.slice a C.length cap,.int .i64 loops,.slice (some ⟨gF,0,none⟩) (2*C.length+1) cF,.slice (some ⟨gT,0,none⟩) (2*C.length+1) cT] 44 (0,0))/\W1.ownsRow w0.heap.size 3 1 (.slice (some ⟨gP,0,none⟩) C.length cP) C.length (QQ3 P)/\W1.ownsRow w1.heap.size 3 1 (.slice (some ⟨w1.heap.size,0,none⟩) c c) c (QQ3 (exL (QX6 C) P c C.length 0))/\Below w.heap.size w W1):=he.out
    have p0:W1.cell? ⟨w.heap.size,0,none⟩=some (.slice a C.length cap):=QQ0 he.out.1 rfl
    have p1:W1.cell? ⟨w.heap.size,1,none⟩=some (.int .i64 loops):=QQ0 he.out.1 rfl
    have p2:W1.cell? ⟨w.heap.size,2,none⟩=some (.slice (some ⟨gF,0,none⟩) (2*C.length+1) cF):=QQ0 he.out.1 rfl
    have p3:W1.cell? ⟨w.heap.size,3,none⟩=some (.slice (some ⟨gT,0,none⟩) (2*C.length+1) cT):=QQ0 he.out.1 rfl
    clear he
    go_wp2_with (go_at_call 68;refine(HFI.out _ (HD.out.on HE3.out.2.2.2)).mono ?_;rintro e9 w4 ⟨vf,rfl,hrf,hb4⟩;refine Hid.out ?_)
    refine Lib.hid ?_
    have hs4:=hb4.size
    have hg4:W1.grownBy w4 none:=grown_below hb4 none
    have HE4:Hid (w4.heap[w.heap.size]?=some (.cells #[.slice a C.length cap,.int .i64 loops,.slice (some ⟨gF,0,none⟩) (2*C.length+1) cF,.slice (some ⟨gT,0,none⟩) (2*C.length+1) cT] 44 (0,0))/\w4.ownsRow w0.heap.size 3 1 (.slice (some ⟨gP,0,none⟩) C.length cP) C.length (QQ3 P)/\w4.ownsRow w1.heap.size 3 1 (.slice (some ⟨w1.heap.size,0,none⟩) c c) c (QQ3 (exL (QX6 C) P c C.length 0))/\Below w.heap.size w w4):=⟨(hb4.block _ (by omega)).trans HE3.out.1,own_any HE3.out.2.1 hg4,own_any HE3.out.2.2.1 hg4,HE3.out.2.2.2.trans (hb4.mono hsW)⟩
    have hrg:=hrf.rings (fun j hj=>(HFR.out j hj).1)
    obtain⟨af,cf,rfl,ff⟩:=hrg
    have HRG:Hid (RingsAt w4 W1.heap.size (.slice af (QX0 C).length cf) (QX0 C)):=⟨af,cf,rfl,ff⟩
    clear hrf ff hb4 hg4 p0 p1 p2 p3 HE3
    by_cases hz:C.length=0
    · have HPB:Hid (QZ1 C=true):=((Qk6 C).2 fun p hp=>by omega:QZ1 C=true)
      have hf0:(QX0 C).length=0:=by omega
      have hc0:c=0:=by omega
      go_wp2
      go_loopw [35] (fun v35 wr=>v35=.int .i64 0/\Below w4.heap.size w4 wr) (fun _ _=>0)
      case atStart=>exact⟨rfl,Below.refl _ _⟩
      case round=>
       rename World=>W3
       obtain⟨rfl,hb⟩:=hrel
       have HBW:Hid (Below w.heap.size w W3):=HE4.out.2.2.2.trans (hb.mono HE4.out.2.2.2.size)
       have hfz:((QX0 C).length:Int)=0:=by omega
       clear hb
       go_wp2
       go_loopw [56] (fun v56 wr=>v56=.int .i64 0/\Below w.heap.size w wr) (fun _ _=>0)
       case atStart=>exact⟨rfl,HBW.out⟩
       case round=>
        obtain⟨rfl,hb⟩:=hrel
        have hcz:(c:Int)=0:=by omega
        go_wp2
        go_ret
        exact⟨by rw[HPB.out];rfl,hb⟩
    · have hpos:0<C.length:=by omega
      obtain⟨af',cf',ef,ff⟩:=HRG.out
      injection ef with ef1 ef2 ef3
      obtain⟨bf,of,efa,hbf,hBf,hcf⟩:=ff (ZC0 hpos)
      rw[<-ef1]at efa
      subst efa
      have HCF:Hid (∀ j,j<(QX0 C).length->∃ g c,w4.cell? ⟨bf,of+j,none⟩=some (.slice (some ⟨g,0,none⟩) ((QX0 C).getD j []).length c)/\g<w4.heap.size/\W1.heap.size<=g/\∀ k,k<((QX0 C).getD j []).length->w4.cell? ⟨g,k*2,none⟩=some (.int .i64 (dA (((QX0 C).getD j []).getD k 0):Nat))/\w4.cell? ⟨g,k*2+1,none⟩=some (.bool (dB (((QX0 C).getD j []).getD k 0)))):=hcf
      have HEF:Hid (af'=some ⟨bf,of,none⟩):=ef1.symm
      have hEW:=hlE.2
      clear ff hcf ef1 ef2 ef3 HRG hz hlE hlP
      go_wp2
      go_loopw [35] (fun v35 wr=>∃ i:Nat,i<=(QX0 C).length/\v35=.int .i64 (i:Nat)/\Hid (wr.heap[w.heap.size]?=some (.cells #[.slice a C.length cap,.int .i64 loops,.slice (some ⟨gF,0,none⟩) (2*C.length+1) cF,.slice (some ⟨gT,0,none⟩) (2*C.length+1) cT] 44 (0,0))/\wr.ownsRow w0.heap.size 3 1 (.slice (some ⟨gP,0,none⟩) C.length cP) C.length (QQ3 P)/\wr.ownsRow w1.heap.size 3 1 (.slice (some ⟨w1.heap.size,0,none⟩) c c) c (QQ3 (exL (QX6 C) P c C.length i))/\Below w.heap.size w wr)/\Hid (w4.grownBy wr (some w1.heap.size))) (fun v35 _=>(QX0 C).length-(intOf v35).toNat)
      case atStart=>exact⟨0,Nat.zero_le _,rfl,HE4.out,World.grownBy.refl _ _⟩
      case round =>
       clear HE4
       rename World=>W3
       obtain⟨i,hin,rfl,he,hgr⟩:=hrel
       have hlE:=he.out.2.2.1.lt w1.heap.size rfl
       have hlP:=he.out.2.1.lt gP rfl
       have hs3:=he.out.2.2.2.size
       have hsg:=hgr.out.size
       by_cases hil:i<(QX0 C).length
       · obtain⟨gj,cj,k0,k1,kB,k2⟩:=HCF.out i hil
         obtain⟨l0,l1,l2⟩:=HFR.out i hil
         have hx12:=l2 0 l0
         have k3:=k2 0 l0
         obtain⟨nF,hnF⟩:∃ nF,((QX0 C).getD i []).length=nF:=⟨_,rfl⟩
         obtain⟨x,hx⟩:∃ x,((QX0 C).getD i []).getD 0 0=x:=⟨_,rfl⟩
         rw[hnF]at k0 l0
         rw[hx]at k3 hx12
         obtain⟨-,d2,-⟩:=XF6 HM.out x hx12.1 hx12.2
         have dle:=Qx7 hx12.1 hx12.2
         obtain⟨y,hy⟩:∃ y,dC C x=y:=⟨_,rfl⟩
         obtain⟨ys,hys⟩:∃ ys,dS C x=ys:=⟨_,rfl⟩
         have HEV:Hid (∀ V,Below w.heap.size w V->Calls Tryd.prog 69 #[.agg #[.slice a C.length cap,.int .i64 loops,.slice (some ⟨gF,0,none⟩) (2*C.length+1) cF,.slice (some ⟨gT,0,none⟩) (2*C.length+1) cT],.agg #[.int .i64 (dA x:Nat),.bool (dB x)]] V fun e w'=>e=.returned (.agg #[.int .i64 (y:Nat),.int .i64 (ys:Nat)])/\Below V.heap.size V w'):=fun V hV=>by
          rw[<-hy,<-hys]
          exact XG9 a cap C loops gF cF gT cT (dA x) (dB x) V HM.out dle.1 dle.2 (HD.out.on hV)
         rw[hy]at d2
         obtain⟨q,hq,hqc⟩:=HVA.out y d2
         have HHD:Hid (P.getD ((QX6 C).getD i 0) 0=(q:Int)):=(by rw[KJ6 C i hil,hx,hy];exact hq:P.getD ((QX6 C).getD i 0) 0=(q:Int))
         obtain⟨z,hz⟩:∃ z,(exL (QX6 C) P c C.length i).getD q 0=z:=⟨_,rfl⟩
         have hzb : -16<=z/\z<=100:=by
          rw[<-hz,Xz0 _ _ _ _ _ _ hqc]
          have h1:=Zd3 P q C.length
          have h2:=Zd4 (QX6 C) P q i
          rw[QG6]at h2
          omega
         have far:∀ (b o:Nat) (u:Value),w4.cell? ⟨b,o,none⟩=some u->W1.heap.size<=b->W3.cell? ⟨b,o,none⟩=some u:=fun b o u hu hB=>hgr.out.cell hu (fun e=>by have:b=w1.heap.size:=Option.some.inj e;omega)
         have m0:W3.cell? ⟨bf,of+i,none⟩=some (.slice (some ⟨gj,0,none⟩) nF cj):=far _ _ _ k0 hBf
         have m1:W3.cell? ⟨gj,0,none⟩=some (.int .i64 (dA x:Nat)):=far _ _ _ k3.1 kB
         have m2:W3.cell? ⟨gj,1,none⟩=some (.bool (dB x)):=far _ _ _ k3.2 kB
         have p0:W3.cell? ⟨w.heap.size,0,none⟩=some (.slice a C.length cap):=QQ0 he.out.1 rfl
         have p1:W3.cell? ⟨w.heap.size,1,none⟩=some (.int .i64 loops):=QQ0 he.out.1 rfl
         have p2:W3.cell? ⟨w.heap.size,2,none⟩=some (.slice (some ⟨gF,0,none⟩) (2*C.length+1) cF):=QQ0 he.out.1 rfl
         have p3:W3.cell? ⟨w.heap.size,3,none⟩=some (.slice (some ⟨gT,0,none⟩) (2*C.length+1) cT):=QQ0 he.out.1 rfl
         have hfs:=Qj0
         have hwz:IntKind.i64.wrap (z+1)=z+1:=IntWalk.i64_in _ (by omega)
         have i1:(i:Int)<((QX0 C).length:Int):=by omega
         have i2':(0:Int)<(nF:Int):=by omega
         have i3:(y:Int)<(C.length:Int):=by omega
         have i4:(q:Int)<(c:Int):=by omega
         have HD3:Hid (Below W3.heap.size W3 W3.drew):=(Below.refl _ _).drew
         have HQY:Hid (P.getD y 0=(q:Int)):=hq
         have HZZ:Hid ((exL (QX6 C) P c C.length i).getD q 0=z):=hz
         clear k0 k1 kB k2 k3 l1 l2 hnF hx hy hys hq hz dle hx12 far
         generalize dA x=xA at HEV m1
         generalize dB x=xB at HEV m2
         go_wp2
         go_region_with (first
          | (go_at_call 69; refine (HEV.out _ (he.out.2.2.2.trans (HD3.out.mono hs3))).mono ?_; rintro e9 w5 ⟨rfl, hb5⟩
             have H5:Hid (Below W3.heap.size W3 w5):=HD3.out.trans (hb5.mono HD3.out.size)
             have hg5:=grown_below H5.out none
             have hs5:=H5.out.size
             have HP5:=own_any he.out.2.1 hg5
             have HE5:=own_any he.out.2.2.1 hg5
             have e0:w5.cell? ⟨gP,y,none⟩=some (.int .i64 (q:Nat)):=by
              rw[HP5.cellAt y (by omega),QZ5 P y (by rw[HPL.out];exact d2),HQY.out]
             have e1:w5.cell? ⟨w1.heap.size,q,none⟩=some (.int .i64 z):=by
              rw[HE5.cellAt q (by omega),QZ5 _ q (by rw[Xf6];exact hqc),HZZ.out]
             have z1:w5.frozen? ⟨w1.heap.size,q,none⟩=false:=HE5.frozenAt q
             clear hb5 hg5 HP5 HE5))
         all_goals
          have hg5:=grown_below H5.out none
          have HE5:=own_any he.out.2.2.1 hg5
          have hst:=HE5.stored q (.int .i64 (z+1))
          rw[QK0,<-HZZ.out,KC1 (QX6 C) P c C.length i q (by rw[QG6];exact hil) HHD.out hqc,HZZ.out]at hst
          have HST:Hid ((w5.setCell ⟨w1.heap.size,q,none⟩ (.int .i64 (z+1))).heap[w.heap.size]?=some (.cells #[.slice a C.length cap,.int .i64 loops,.slice (some ⟨gF,0,none⟩) (2*C.length+1) cF,.slice (some ⟨gT,0,none⟩) (2*C.length+1) cT] 44 (0,0))/\(w5.setCell ⟨w1.heap.size,q,none⟩ (.int .i64 (z+1))).ownsRow w0.heap.size 3 1 (.slice (some ⟨gP,0,none⟩) C.length cP) C.length (QQ3 P)/\(w5.setCell ⟨w1.heap.size,q,none⟩ (.int .i64 (z+1))).ownsRow w1.heap.size 3 1 (.slice (some ⟨w1.heap.size,0,none⟩) c c) c (QQ3 (exL (QX6 C) P c C.length (i+1)))/\Below w.heap.size w (w5.setCell ⟨w1.heap.size,q,none⟩ (.int .i64 (z+1)))):=⟨(hst.2.block _ (by omega) (fun e=>by have:w.heap.size=w1.heap.size:=Option.some.inj e;omega)).trans ((H5.out.block _ (by omega)).trans he.out.1),(own_any he.out.2.1 hg5).kept hst.2 (Or.inr (fun e=>by have:gP=w1.heap.size:=Option.some.inj e;omega)),hst.1,(he.out.2.2.2.trans (H5.out.mono hs3)).grown hst.2 (by omega) (fun k hk=>by have:=Option.some.inj hk;omega)⟩
          have HGG:Hid (w4.grownBy (w5.setCell ⟨w1.heap.size,q,none⟩ (.int .i64 (z+1))) (some w1.heap.size)):=grown_trans (grown_new hgr.out hg5 (fun q hq=>by cases hq)) hst.2
          clear hg5 HE5 hst e0 e1 z1 m0 m1 m2 p0 p1 p2 p3 hfs hwz
          go_wp2
          go_roundw
         all_goals first
          |(simp only[intOf];omega)
          |exact⟨i+1,by omega,by go_num,HST.out,HGG.out⟩
       · obtain rfl:i=(QX0 C).length:=by omega
         have HL3:Hid (W3.heap[w.heap.size]?=some (.cells #[.slice a C.length cap,.int .i64 loops,.slice (some ⟨gF,0,none⟩) (2*C.length+1) cF,.slice (some ⟨gT,0,none⟩) (2*C.length+1) cT] 44 (0,0))/\W3.ownsRow w0.heap.size 3 1 (.slice (some ⟨gP,0,none⟩) C.length cP) C.length (QQ3 P)/\W3.ownsRow w1.heap.size 3 1 (.slice (some ⟨w1.heap.size,0,none⟩) c c) c (QQ3 (exL (QX6 C) P c C.length (QX6 C).length))/\Below w.heap.size w W3):=(by rw[QG6];exact he.out:(W3.heap[w.heap.size]?=some (.cells #[.slice a C.length cap,.int .i64 loops,.slice (some ⟨gF,0,none⟩) (2*C.length+1) cF,.slice (some ⟨gT,0,none⟩) (2*C.length+1) cT] 44 (0,0))/\W3.ownsRow w0.heap.size 3 1 (.slice (some ⟨gP,0,none⟩) C.length cP) C.length (QQ3 P)/\W3.ownsRow w1.heap.size 3 1 (.slice (some ⟨w1.heap.size,0,none⟩) c c) c (QQ3 (exL (QX6 C) P c C.length (QX6 C).length))/\Below w.heap.size w W3))
         clear he hgr
         go_wp2
         go_loopw [56] (fun v56 wr=>∃ i:Nat,i<=c/\v56=.int .i64 (i:Nat)/\Hid (∀ p,p<i->exI C.length (QX6 C) P p=2)/\Below W3.heap.size W3 wr) (fun v56 _=>c-(intOf v56).toNat)
         case atStart=>exact⟨0,Nat.zero_le _,rfl,(fun p hp=>absurd hp (Nat.not_lt_zero _):∀ p,p<0->exI C.length (QX6 C) P p=2),Below.refl _ _⟩
         case round=>
          rename World=>W5
          obtain⟨i,hic,rfl,hall,hb⟩:=hrel
          have hs5:=hb.size
          by_cases hil:i<c
          · obtain⟨z,hz⟩:∃ z,exI C.length (QX6 C) P i=z:=⟨_,rfl⟩
            have e0:W5.cell? ⟨w1.heap.size,i,none⟩=some (.int .i64 z):=by
             have h:=own_any HL3.out.2.2.1 (grown_below hb none)
             rw[h.cellAt i (by omega),QZ5 _ i (by rw[Xf6];exact hil),JH6 C.length (QX6 C) P c i hil,hz]
            have HZZ:Hid (exI C.length (QX6 C) P i=z):=hz
            have HB5:Hid (Below W3.heap.size W3 W5):=hb
            clear hz hb
            by_cases h2:z=2
            · have hde:(z != 2)=false:=by simp[h2]
              have HZ2:Hid (z=2):=h2
              clear h2
              go_wp2
              go_roundw
              case rel=>
               refine⟨i+1,by omega,by go_num,(fun p hp=>?_:∀ p,p<i+1->exI C.length (QX6 C) P p=2),HB5.out⟩
               by_cases e2:p=i
               · rw[e2,HZZ.out];exact HZ2.out
               · exact hall.out p (by omega)
              case measure=>simp only[intOf];omega
            · have hde:(z != 2)=true:=by simp[h2]
              have HPB : Hid (QZ1 C = false) := (by
               cases hb:QZ1 C with
               |false=>rfl
               |true=>
                have h:=(Qu7 HM.out HPC.out).1 hb i hil
                rw[HZZ.out]at h
                exact absurd h h2:QZ1 C=false)
              clear h2
              go_wp2
              go_ret
              exact⟨by rw[HPB.out];rfl,HL3.out.2.2.2.trans (HB5.out.mono hs3)⟩
          · obtain rfl:i=c:=by omega
            have HPB:Hid (QZ1 C=true):=((Qu7 HM.out HPC.out).2 hall.out:QZ1 C=true)
            go_wp2
            go_ret
            exact⟨by rw[HPB.out];rfl,HL3.out.2.2.2.trans (hb.mono hs3)⟩
end Go.Proofs.YtjcagkgpbcdghaaDoor
/- The walks of code.May, code.Faces and code.Planar. -/
namespace Go.Proofs.YtjcagkgpbcdghaaDoor
open Go.RowKit
theorem DartsOwn.low {w:World} {B B':Nat} {v:Value} {L:List (List Nat)} (h:DartsOwn w B v L) (hB:B'<=B):DartsOwn w B' v L:=by
 obtain⟨ys,h1,h2,h3⟩:=h
 exact⟨ys,h1,QZ6 h2 hB,fun j hj=>QZ6 (h3 j hj) hB⟩
theorem DartsOwn.any {w w':World} {B:Nat} {v:Value} {L:List (List Nat)} (h:DartsOwn w B v L) (hg:w.grownBy w' none):DartsOwn w' B v L:=by
 obtain⟨ys,h1,h2,h3⟩:=h
 exact⟨ys,h1,own_any h2 hg,fun j hj=>own_any (h3 j hj) hg⟩
end Go.Proofs.YtjcagkgpbcdghaaDoor
/- The walks of drawing.Flat and of ref.PlanarMay. -/
namespace Go.Proofs.YtjcagkgpbcdghaaDoor
open Go.RowKit
set_option maxHeartbeats 4000000
set_option maxRecDepth 100000
def noN (C:List Cr) (loops:Int):Int:=if QX3 C loops=true then(if QZ1 C=true then 0 else 5) else 7
theorem Drawn.dr2 {w w' : World} {a : Option Addr} {cap : Nat} {loops : Int} {C : List Cr} {D : Value} (h : Drawn w w' w.heap.size (.slice a C.length cap) loops C D) (hm : QX3 C loops = true) (hb : Below w.heap.size w w') (hC : Crs w w.heap.size (.slice a C.length cap) C) :
    ∃ gF cF gT cT,D=drV a cap C loops gF cF gT cT/\Dr w' a cap C gF gT/\w'.ownsRow w.heap.size 118 2 (.slice (some ⟨gF,0,none⟩) (2*C.length+1) cF) (2*C.length+1) (flat (ends C false C.length 0))/\
    w'.ownsRow w.heap.size 118 2 (.slice (some ⟨gT,0,none⟩) (2*C.length+1) cT) (2*C.length+1) (flat (ends C true C.length 0)):=by
 obtain⟨gF,cF,gT,cT,rfl,h1,h2⟩:=h.yes hm
 exact⟨gF,cF,gT,cT,rfl,⟨hC.up hb,(h1.lt gF rfl).2,(h2.lt gT rfl).2,Qw4 h1 (QZ4 _ _ _ _),Qw4 h2 (QZ4 _ _ _ _)⟩,h1,h2⟩
theorem Xv7 (hFR : QX8) (a : Option Addr) (cap : Nat) (C : List Cr) (loops : Int) (w : World) (hm : QX3 C loops = true) (hp : QZ1 C = true) (h : Crs w w.heap.size (.slice a C.length cap) C) :
    Calls Tryd.prog 32 #[.agg #[.slice a C.length cap,.int .i64 loops]] w fun e w'=>∃ gF cF gT cT,e=.returned (.tuple #[drV a cap C loops gF cF gT cT,.int .i64 0])/\(Dr w' a cap C gF gT/\w.heap.size<=gF/\w.heap.size<=gT)/\Below w.heap.size w w':=by
 have HC:Hid (Crs w w.heap.size (.slice a C.length cap) C):=h
 have HFA:Hid QX8:=hFR
 have HM:Hid (QX3 C loops=true):=hm
 have HP:Hid (QZ1 C=true):=hp
 have HB1:Hid (Below w.heap.size w ((w.alloc (.cells #[.slice a C.length cap,.int .i64 loops] 27)).alloc (.cells #[.slice none 0 0,.int .i64 0,.slice none 0 0,.slice none 0 0] 44))):=QF9 _ _ _
 go_enter Tryd.func32,Tryd.ntmps32
 go_wp2_with (go_at_call 51;refine(JG4 _ C loops _ (HC.out.up HB1.out)).mono ?_;rw[hm];rintro e9 w2 ⟨d,rfl,hb2,hd⟩;obtain⟨gF,cF,gT,cT,rfl,hdr,hF,hT⟩:=hd.dr2 HM.out hb2 (HC.out.up HB1.out);refine Hid.out ?_)
 refine Lib.hid ?_
 have HDR:Hid (Dr w2 a cap C gF gT):=hdr
 have HF:Hid (w2.ownsRow (w.heap.size+2) 118 2 (.slice (some ⟨gF,0,none⟩) (2*C.length+1) cF) (2*C.length+1) (flat (ends C false C.length 0))):=QZ6 hF (by simp)
 have HT:Hid (w2.ownsRow (w.heap.size+2) 118 2 (.slice (some ⟨gT,0,none⟩) (2*C.length+1) cT) (2*C.length+1) (flat (ends C true C.length 0))):=QZ6 hT (by simp)
 unfold drV
 have HB2:Hid (Below w.heap.size w w2):=HB1.out.trans (hb2.mono (by simp;omega))
 have hR:w2.heap[w.heap.size+1]?=some (.cells #[.slice none 0 0,.int .i64 0,.slice none 0 0,.slice none 0 0] 44 (0,0)):=(hb2.block _ (by simp)).trans (alloc_at (by simp))
 have hs2:w.heap.size+2<=w2.heap.size:=by have:=hb2.size;simpa using this
 have HR:Hid (w2.heap[w.heap.size+1]?=some (.cells #[.slice none 0 0,.int .i64 0,.slice none 0 0,.slice none 0 0] 44 (0,0))):=hR
 have HBA:Hid (Below w2.heap.size w2 (w2.alloc (.cells #[.slice a C.length cap,.int .i64 loops,.slice (some ⟨gF,0,none⟩) (2*C.length+1) cF,.slice (some ⟨gT,0,none⟩) (2*C.length+1) cT] 44))):=(Below.refl _ _).alloc (Nat.le_refl _) _
 clear hb2 hd hdr hm hR hp hF hT
 go_wp2_with (go_at_call 52;refine(Xu7 HFA.out a cap C loops gF cF gT cT _ HM.out (HDR.out.on HBA.out)).mono ?_;rw[HP.out];rintro e9 w3 ⟨rfl,hb3⟩;refine Hid.out ?_)
 refine Lib.hid ?_
 have HB23:Hid (Below w2.heap.size w2 w3):=HBA.out.trans (hb3.mono (by simp))
 have HB3:Hid (Below w.heap.size w w3):=HB2.out.trans (HB23.out.mono HB2.out.size)
 have hR:w3.heap[w.heap.size+1]?=some (.cells #[.slice none 0 0,.int .i64 0,.slice none 0 0,.slice none 0 0] 44 (0,0)):=(HB23.out.block _ (by omega)).trans HR.out
 have hQ:w3.heap[w2.heap.size]?=some (.cells #[.slice a C.length cap,.int .i64 loops,.slice (some ⟨gF,0,none⟩) (2*C.length+1) cF,.slice (some ⟨gT,0,none⟩) (2*C.length+1) cT] 44 (0,0)):=(hb3.block _ (by simp)).trans (alloc_at rfl)
 have hs3:w2.heap.size+1<=w3.heap.size:=by have:=hb3.size;simpa using this
 have HR3:Hid (w3.heap[w.heap.size+1]?=some (.cells #[.slice none 0 0,.int .i64 0,.slice none 0 0,.slice none 0 0] 44 (0,0))):=hR
 have c0:w3.cell? ⟨w.heap.size+1,0,none⟩=some (.slice none 0 0):=QQ0 hR rfl
 have c1:w3.cell? ⟨w.heap.size+1,1,none⟩=some (.int .i64 0):=QQ0 hR rfl
 have c2:w3.cell? ⟨w.heap.size+1,2,none⟩=some (.slice none 0 0):=QQ0 hR rfl
 have c3:w3.cell? ⟨w.heap.size+1,3,none⟩=some (.slice none 0 0):=QQ0 hR rfl
 have f0:w3.frozen? ⟨w.heap.size+1,0,none⟩=false:=QQ4 hR
 have f1:w3.frozen? ⟨w.heap.size+1,1,none⟩=false:=QQ4 hR
 have f2:w3.frozen? ⟨w.heap.size+1,2,none⟩=false:=QQ4 hR
 have f3:w3.frozen? ⟨w.heap.size+1,3,none⟩=false:=QQ4 hR
 have d0:w3.cell? ⟨w2.heap.size,0,none⟩=some (.slice a C.length cap):=QQ0 hQ rfl
 have d1:w3.cell? ⟨w2.heap.size,1,none⟩=some (.int .i64 loops):=QQ0 hQ rfl
 have d2:w3.cell? ⟨w2.heap.size,2,none⟩=some (.slice (some ⟨gF,0,none⟩) (2*C.length+1) cF):=QQ0 hQ rfl
 have d3:w3.cell? ⟨w2.heap.size,3,none⟩=some (.slice (some ⟨gT,0,none⟩) (2*C.length+1) cT):=QQ0 hQ rfl
 have l2:w.heap.size+1<w3.heap.size:=by omega
 have l3:w2.heap.size<w3.heap.size:=by omega
 clear hb3 hR hQ
 go_wp2
 have hG:=QJ6 w3 (w.heap.size+1) (.slice a C.length cap) (.int .i64 loops) (.slice (some ⟨gF,0,none⟩) (2*C.length+1) cF) (.slice (some ⟨gT,0,none⟩) (2*C.length+1) cT)
 have hX:=QW5 (a:=.slice a C.length cap) (b:=.int .i64 loops) (c:=.slice (some ⟨gF,0,none⟩) (2*C.length+1) cF) (d:=.slice (some ⟨gT,0,none⟩) (2*C.length+1) cT) HR3.out
 have x0:=QQ0 (i:=0) (v:=.slice a C.length cap) hX rfl
 have x1:=QQ0 (i:=1) (v:=.int .i64 loops) hX rfl
 have x2:=QQ0 (i:=2) (v:=.slice (some ⟨gF,0,none⟩) (2*C.length+1) cF) hX rfl
 have x3:=QQ0 (i:=3) (v:=.slice (some ⟨gT,0,none⟩) (2*C.length+1) cT) hX rfl
 have hbb:=HB3.out.grown hG HB3.out.size (fun k hk=>by have:=Option.some.inj hk;omega)
 unfold st4 at x0 x1 x2 x3
 refine bodyPost_ret (v:=.tuple #[.agg #[.slice a C.length cap,.int .i64 loops,.slice (some ⟨gF,0,none⟩) (2*C.length+1) cF,.slice (some ⟨gT,0,none⟩) (2*C.length+1) cT],.int .i64 0]) (by simp[results,Tryd.results32,go_sem,x0,x1,x2,x3]) rfl ⟨gF,cF,gT,cT,rfl,⟨?_,by have h1:=(HF.out.lt gF rfl).1;omega,by have h1:=(HT.out.lt gT rfl).1;omega⟩,hbb⟩
 have hn:=grown_below HB23.out none
 have gF2:=(own_any HF.out hn).kept hG (Or.inr (fun e=>by have h1:=(HF.out.lt gF rfl).1;have h2:gF=w.heap.size+1:=Option.some.inj e;omega))
 have gT2:=(own_any HT.out hn).kept hG (Or.inr (fun e=>by have h1:=(HT.out.lt gT rfl).1;have h2:gT=w.heap.size+1:=Option.some.inj e;omega))
 exact⟨HC.out.up hbb,(gF2.lt gF rfl).2,(gT2.lt gT rfl).2,Qw4 gF2 (QZ4 _ _ _ _),Qw4 gT2 (QZ4 _ _ _ _)⟩
theorem ZU5 (hFR : QX8) (v : Value) (C : List Cr) (loops : Int) (w : World) (hm : QX3 C loops = true) (hp : QZ1 C = true) (h : Crs w w.heap.size v C) :
    Calls Tryd.prog 32 #[.agg #[v,.int .i64 loops]] w fun e w'=>∃ a cap gF cF gT cT,e=.returned (.tuple #[drV a cap C loops gF cF gT cT,.int .i64 0])/\Dr w' a cap C gF gT/\Below w.heap.size w w':=by
 obtain⟨a,cap,rfl,-,-⟩:=id h
 exact(Xv7 hFR a cap C loops w hm hp h).mono fun e w' ⟨gF,cF,gT,cT,he,hd,hb⟩=>⟨a,cap,gF,cF,gT,cT,he,hd.1,hb⟩
theorem QD6 {C:List Cr} {loops:Int} (h:noN C loops=0):QX3 C loops=true/\QZ1 C=true:=by
 unfold noN at h
 by_cases hm:QX3 C loops=true
 · rw[if_pos hm]at h
   by_cases hp:QZ1 C=true
   · exact⟨hm,hp⟩
   · rw[if_neg hp]at h;omega
 · rw[if_neg hm]at h;omega
end Go.Proofs.YtjcagkgpbcdghaaDoor
/- The walks of colour.lowestArcs and colour.overpasses. -/
namespace Go.Proofs.YtjcagkgpbcdghaaDoor
open Go.RowKit
set_option maxHeartbeats 16000000
set_option maxRecDepth 100000
theorem JQ5 (V:List Nat) (C:List Cr) (i:Nat) (hi:i<C.length):QF5 V ((ovE C).take (i+1))=mer (QF5 V ((ovE C).take i)) (C.getD i Cr.none).b.toNat (C.getD i Cr.none).d.toNat:=by
 rw[KG3 C i hi,ZW5]
 rfl
theorem XU3 (a : Option Addr) (cap : Nat) (C : List Cr) (loops : Int) (gF cF gT cT : Nat) (w : World) (hm : QX3 C loops = true) (hD : Dr w a cap C gF gT) :
    Calls Tryd.prog 81 #[drV a cap C loops gF cF gT cT] w fun e w'=>∃ g,e=.returned (.slice (some ⟨g,0,none⟩) (2*C.length+1) (2*C.length+1))/\w'.ownsRow w.heap.size 3 1 (.slice (some ⟨g,0,none⟩) (2*C.length+1) (2*C.length+1)) (2*C.length+1) (QK9 (QK4 C))/\Below w.heap.size w w':=by
 obtain⟨s1,-,-,-⟩:=QJ7 (QU6 hm)
 obtain⟨i2,hk,hx0,hx1,hx2⟩:=info_parts QB7
 have HM:Hid (QX3 C loops=true):=hm
 have HD:Hid (Dr w a cap C gF gT):=hD
 unfold drV
 obtain⟨N,hN⟩:∃ N,N=2*C.length+1:=⟨_,rfl⟩
 have HN:Hid (N=2*C.length+1):=hN
 have hN1:1<=N:=by omega
 have hN2:N<=33:=by omega
 rw[<-hN]
 clear hN hm hD
 obtain⟨w0,hw0⟩:∃ w0,w0=w.alloc (.cells #[.slice a C.length cap,.int .i64 loops,.slice (some ⟨gF,0,none⟩) N cF,.slice (some ⟨gT,0,none⟩) N cT] 44):=⟨_,rfl⟩
 have HW0:Hid (w0=w.alloc (.cells #[.slice a C.length cap,.int .i64 loops,.slice (some ⟨gF,0,none⟩) N cF,.slice (some ⟨gT,0,none⟩) N cT] 44)):=hw0
 have hs0:w0.heap.size=w.heap.size+1:=by rw[hw0];simp
 have HB0:Hid (Below w.heap.size w w0):=(by rw[hw0];exact(Below.refl _ _).alloc (Nat.le_refl _) _:Below w.heap.size w w0)
 have HT0:Hid (w0.heap[w.heap.size]?=some (.cells #[.slice a C.length cap,.int .i64 loops,.slice (some ⟨gF,0,none⟩) N cF,.slice (some ⟨gT,0,none⟩) N cT] 44 (0,0))):=(by rw[hw0];exact alloc_at rfl:w0.heap[w.heap.size]?=some (.cells #[.slice a C.length cap,.int .i64 loops,.slice (some ⟨gF,0,none⟩) N cF,.slice (some ⟨gT,0,none⟩) N cT] 44 (0,0)))
 clear hw0
 go_enter Tryd.func81,Tryd.ntmps81
 go_wp2_with (first|(at_make;refine wpList_make_full _ rfl _ _ 22 rfl (w.heap.size+1) 3 i2 (.int .i64 0) 1 Tryd.underlying22 hk hx0 hx1 .i64 .i64 _ _ N rfl rfl rfl rfl (by rw[hx2];omega) (by unfold maxLen;omega) (by simp) ?_;intro w1 hrow hg1;refine Hid.out ?_))
 refine Lib.hid ?_
 rw[<-HW0.out]at hrow hg1
 rw[XD0,hs0,ZA5]at hrow
 have HP0:Hid (w1.heap[w.heap.size]?=some (.cells #[.slice a C.length cap,.int .i64 loops,.slice (some ⟨gF,0,none⟩) N cF,.slice (some ⟨gT,0,none⟩) N cT] 44 (0,0))/\w1.ownsRow (w.heap.size+1) 3 1 (.slice (some ⟨w.heap.size+1,0,none⟩) N N) N (QK9 (Qx6 N 0))/\Below w.heap.size w w1):=⟨(hg1.block _ (by omega) (by simp)).trans HT0.out,hrow,HB0.out.grown hg1 (by omega) (fun k hk=>by cases hk)⟩
 clear hrow hg1 HT0 HB0 hs0 HW0
 go_wp2
 go_loopw [16] (fun v5 wr=>∃ i:Nat,i<=N/\v5=.int .i64 (i:Nat)/\Hid (wr.heap[w.heap.size]?=some (.cells #[.slice a C.length cap,.int .i64 loops,.slice (some ⟨gF,0,none⟩) N cF,.slice (some ⟨gT,0,none⟩) N cT] 44 (0,0))/\wr.ownsRow (w.heap.size+1) 3 1 (.slice (some ⟨w.heap.size+1,0,none⟩) N N) N (QK9 (Qx6 N i))/\Below w.heap.size w wr)) (fun v5 _=>N-(intOf v5).toNat)
 case atStart=>exact⟨0,Nat.zero_le _,rfl,HP0.out⟩
 case round=>
  clear HP0
  rename World=>W1
  obtain⟨i,hin,rfl,hp⟩:=hrel
  have hlt:=hp.out.2.1.lt (w.heap.size+1) rfl
  by_cases hil:i<N
  · have hst:=hp.out.2.1.stored i (.int .i64 (i:Nat))
    rw[Qg3,ZA6]at hst
    have HST:Hid ((W1.setCell ⟨w.heap.size+1,i,none⟩ (.int .i64 (i:Nat))).heap[w.heap.size]?=some (.cells #[.slice a C.length cap,.int .i64 loops,.slice (some ⟨gF,0,none⟩) N cF,.slice (some ⟨gT,0,none⟩) N cT] 44 (0,0))/\(W1.setCell ⟨w.heap.size+1,i,none⟩ (.int .i64 (i:Nat))).ownsRow (w.heap.size+1) 3 1 (.slice (some ⟨w.heap.size+1,0,none⟩) N N) N (QK9 (Qx6 N (i+1)))/\Below w.heap.size w (W1.setCell ⟨w.heap.size+1,i,none⟩ (.int .i64 (i:Nat)))):=⟨(hst.2.block _ (by omega) (fun e=>by have:w.heap.size=w.heap.size+1:=Option.some.inj e;omega)).trans hp.out.1,hst.1,hp.out.2.2.grown hst.2 hp.out.2.2.size (fun q hq=>by have:=Option.some.inj hq;omega)⟩
    have e0:W1.cell? ⟨w.heap.size+1,i,none⟩=some (.int .i64 ((Qx6 N i).getD i 0:Nat)):=by
     rw[hp.out.2.1.cellAt i (by omega)];exact QV2 _ i (by simp[Qx6];omega)
    have z0:W1.frozen? ⟨w.heap.size+1,i,none⟩=false:=hp.out.2.1.frozenAt i
    have hdi:(i:Int)<=2*(C.length:Int):=by have:=HN.out;omega
    clear hst
    go_wp2
    go_roundw
    case rel=>exact⟨i+1,by omega,by go_num,HST.out⟩
    case measure=>simp only[intOf];omega
  · obtain rfl:N=i:=by omega
    have HP1:Hid (W1.heap[w.heap.size]?=some (.cells #[.slice a C.length cap,.int .i64 loops,.slice (some ⟨gF,0,none⟩) N cF,.slice (some ⟨gT,0,none⟩) N cT] 44 (0,0))/\W1.ownsRow (w.heap.size+1) 3 1 (.slice (some ⟨w.heap.size+1,0,none⟩) N N) N (QK9 (QF5 (List.range N) ((ovE C).take 0)))/\Below w.heap.size w W1):=(by have h:=hp.out;rw[KK7]at h;exact h:W1.heap[w.heap.size]?=some (.cells #[.slice a C.length cap,.int .i64 loops,.slice (some ⟨gF,0,none⟩) N cF,.slice (some ⟨gT,0,none⟩) N cT] 44 (0,0))/\W1.ownsRow (w.heap.size+1) 3 1 (.slice (some ⟨w.heap.size+1,0,none⟩) N N) N (QK9 (QF5 (List.range N) ((ovE C).take 0)))/\Below w.heap.size w W1)
    have t0:W1.cell? ⟨w.heap.size,0,none⟩=some (.slice a C.length cap):=QQ0 hp.out.1 rfl
    have hdn:decide ((N:Int)<(N:Int))=false:=by simp
    have hdn2:decide (N<N)=false:=by simp
    clear hp
    go_wp2
    go_loopw [28] (fun v28 wr=>∃ k:Nat,k<=C.length/\v28=.int .i64 (k:Nat)/\Hid (wr.heap[w.heap.size]?=some (.cells #[.slice a C.length cap,.int .i64 loops,.slice (some ⟨gF,0,none⟩) N cF,.slice (some ⟨gT,0,none⟩) N cT] 44 (0,0))/\wr.ownsRow (w.heap.size+1) 3 1 (.slice (some ⟨w.heap.size+1,0,none⟩) N N) N (QK9 (QF5 (List.range N) ((ovE C).take k)))/\Below w.heap.size w wr)) (fun v28 _=>C.length-(intOf v28).toNat)
    case atStart=>exact⟨0,Nat.zero_le _,rfl,HP1.out⟩
    case round=>
     clear HP1 t0
     rename World=>W2
     obtain⟨k,hin2,rfl,hp⟩:=hrel
     by_cases hil2:k<C.length
     · obtain⟨b,off,ea,hbw,hC⟩:=HD.out.cross (by omega)
       have t0:W2.cell? ⟨w.heap.size,0,none⟩=some (.slice a C.length cap):=QQ0 hp.out.1 rfl
       have ff:=QV7 HM.out k 1 hil2 (by omega)
       have fg:=QV7 HM.out k 3 hil2 (by omega)
       have HX:Hid ((C.getD k Cr.none).arc 1=(C.getD k Cr.none).b/\(C.getD k Cr.none).arc 3=(C.getD k Cr.none).d):=⟨rfl,rfl⟩
       have f1:=ff.1
       have f2:=ff.2.1
       have f3:=fg.1
       have f4:=fg.2.1
       rw[HX.out.1]at f1 f2
       rw[HX.out.2]at f3 f4
       obtain⟨e0,e1,e2,e3,e4⟩:=(hC.on hp.out.2.2 hbw) k hil2
       obtain⟨x,hx⟩:∃ x:Nat,(C.getD k Cr.none).b=(x:Int):=⟨(C.getD k Cr.none).b.toNat,by omega⟩
       obtain⟨y,hy⟩:∃ y:Nat,(C.getD k Cr.none).d=(y:Int):=⟨(C.getD k Cr.none).d.toNat,by omega⟩
       have hxN:x<N:=by have:=HN.out;omega
       have hyN:y<N:=by have:=HN.out;omega
       obtain⟨ca,hca⟩:∃ z,(C.getD k Cr.none).a=z:=⟨_,rfl⟩
       obtain⟨cc,hcc⟩:∃ z,(C.getD k Cr.none).c=z:=⟨_,rfl⟩
       obtain⟨cp,hcp⟩:∃ z,(C.getD k Cr.none).plus=z:=⟨_,rfl⟩
       have HLV:Hid (QF5 (List.range N) ((ovE C).take (k+1))=mer (QF5 (List.range N) ((ovE C).take k)) x y):=(by rw[JQ5 _ C k hil2,hx,hy];rfl:QF5 (List.range N) ((ovE C).take (k+1))=mer (QF5 (List.range N) ((ovE C).take k)) x y)
       have HLL:Hid ((QF5 (List.range N) ((ovE C).take k)).length=N):=(by rw[KG6];simp:(QF5 (List.range N) ((ovE C).take k)).length=N)
       rw[hca]at e0
       rw[hx]at e1
       rw[hcc]at e2
       rw[hy]at e3
       rw[hcp]at e4
       obtain⟨L,hL⟩:∃ L,QF5 (List.range N) ((ovE C).take k)=L:=⟨_,rfl⟩
       rw[hL]at HLV HLL hp
       have hsW:=hp.out.2.2.size
       have hgl:=(hp.out.2.1.lt (w.heap.size+1) rfl).2
       have hbW:b<W2.heap.size:=by omega
       have hii:(k:Int)<(C.length:Int):=by omega
       have d0:W2.cell? ⟨w.heap.size+1,x,none⟩=some (.int .i64 (L.getD x 0:Nat)):=by
        rw[hp.out.2.1.cellAt x (by omega)];exact QV2 _ x (by rw[HLL.out];exact hxN)
       have d1:W2.cell? ⟨w.heap.size+1,y,none⟩=some (.int .i64 (L.getD y 0:Nat)):=by
        rw[hp.out.2.1.cellAt y (by omega)];exact QV2 _ y (by rw[HLL.out];exact hyN)
       obtain⟨p,hpx⟩:∃ p,L.getD x 0=p:=⟨_,rfl⟩
       obtain⟨q,hqx⟩:∃ q,L.getD y 0=q:=⟨_,rfl⟩
       rw[hpx]at d0
       rw[hqx]at d1
       have HPQ:Hid (L.getD x 0=p/\L.getD y 0=q):=⟨hpx,hqx⟩
       obtain⟨X,hX⟩:∃ X,X=(W2.alloc (.cells #[.int .i64 ca,.int .i64 (x:Nat),.int .i64 cc,.int .i64 (y:Nat),.bool cp] 72)):=⟨_,rfl⟩
       have HX0:Hid (X=(W2.alloc (.cells #[.int .i64 ca,.int .i64 (x:Nat),.int .i64 cc,.int .i64 (y:Nat),.bool cp] 72))):=hX
       have HGX:Hid (W2.grownBy X none):=(by rw[hX];exact World.grownBy_alloc _ _ none:W2.grownBy X none)
       have hXs:X.heap.size=W2.heap.size+1:=by rw[hX];simp
       have HXB:Hid (X.heap[W2.heap.size]?=some (.cells #[.int .i64 ca,.int .i64 (x:Nat),.int .i64 cc,.int .i64 (y:Nat),.bool cp] 72 (0,0))):=(by rw[hX];exact alloc_at rfl:X.heap[W2.heap.size]?=some (.cells #[.int .i64 ca,.int .i64 (x:Nat),.int .i64 cc,.int .i64 (y:Nat),.bool cp] 72 (0,0)))
       have HXR:Hid (X.heap[w.heap.size]?=some (.cells #[.slice a C.length cap,.int .i64 loops,.slice (some ⟨gF,0,none⟩) N cF,.slice (some ⟨gT,0,none⟩) N cT] 44 (0,0))/\X.ownsRow (w.heap.size+1) 3 1 (.slice (some ⟨w.heap.size+1,0,none⟩) N N) N (QK9 (L))/\Below w.heap.size w X):=⟨(HGX.out.block _ (by omega) (by simp)).trans hp.out.1,own_any hp.out.2.1 HGX.out,hp.out.2.2.grown HGX.out hsW (fun z hz=>by cases hz)⟩
       clear hC ff fg f1 f2 f3 f4 hx hy hca hcc hcp hL hpx hqx hX
       go_wp2
       rw[<-HX0.out]
       have x1:X.cell? ⟨W2.heap.size,1,none⟩=some (.int .i64 (x:Nat)):=QQ0 HXB.out rfl
       have x3:X.cell? ⟨W2.heap.size,3,none⟩=some (.int .i64 (y:Nat)):=QQ0 HXB.out rfl
       have y0:X.cell? ⟨w.heap.size+1,x,none⟩=some (.int .i64 (p:Nat)):=(by rw[HXR.out.2.1.cellAt x (by omega),QV2 _ x (by rw[HLL.out];exact hxN),HPQ.out.1])
       have y1:X.cell? ⟨w.heap.size+1,y,none⟩=some (.int .i64 (q:Nat)):=(by rw[HXR.out.2.1.cellAt y (by omega),QV2 _ y (by rw[HLL.out];exact hyN),HPQ.out.2])
       clear d0 d1 e0 e1 e2 e3 e4
       obtain⟨lo,hlo⟩:∃ lo,min p q=lo:=⟨_,rfl⟩
       obtain⟨hi,hhi⟩:∃ hi,max p q=hi:=⟨_,rfl⟩
       have E1:(if q<p then(q:Int) else(p:Int))=(lo:Int):=by rw[<-hlo];split<;>omega
       have E2:(if p<q then(q:Int) else(p:Int))=(hi:Int):=by rw[<-hhi];split<;>omega
       have HLH:Hid (min p q=lo/\max p q=hi):=⟨hlo,hhi⟩
       clear hlo hhi
       apply Zb9
       case h=>
        intro key
        go_region_held3 (fun w'=>w'.cell? ⟨W2.heap.size,1,none⟩=some (.int .i64 (x:Nat))/\w'.cell? ⟨W2.heap.size,3,none⟩=some (.int .i64 (y:Nat))/\w'.cell? ⟨w.heap.size+1,x,none⟩=some (.int .i64 (p:Nat))/\w'.cell? ⟨w.heap.size+1,y,none⟩=some (.int .i64 (q:Nat))) (exact⟨x1,x3,y0,y1⟩) (fail)
        all_goals
         exact key.out
       rw[<-ea]
       clear x1 x3 y0 y1 E1 E2 ea
       have HQ0:Hid (X.drew.heap[w.heap.size]?=some (.cells #[.slice a C.length cap,.int .i64 loops,.slice (some ⟨gF,0,none⟩) N cF,.slice (some ⟨gT,0,none⟩) N cT] 44 (0,0))/\X.drew.ownsRow (w.heap.size+1) 3 1 (.slice (some ⟨w.heap.size+1,0,none⟩) N N) N (QK9 (Qx5 L x y 0))/\Below w.heap.size w X.drew):=(by rw[ZH9];exact⟨HXR.out.1,own_any HXR.out.2.1 (grown_below ((Below.refl _ _).drew) none),HXR.out.2.2.drew⟩:X.drew.heap[w.heap.size]?=some (.cells #[.slice a C.length cap,.int .i64 loops,.slice (some ⟨gF,0,none⟩) N cF,.slice (some ⟨gT,0,none⟩) N cT] 44 (0,0))/\X.drew.ownsRow (w.heap.size+1) 3 1 (.slice (some ⟨w.heap.size+1,0,none⟩) N N) N (QK9 (Qx5 L x y 0))/\Below w.heap.size w X.drew)
       have HME:Hid (∀ v,v<N->(mer L x y).getD v 0=if L.getD v 0=hi then lo else L.getD v 0):=fun v hv=>by rw[QC0 L x y v (by rw[HLL.out];exact hv),HPQ.out.1,HPQ.out.2,HLH.out.1,HLH.out.2]
       have hdk:decide ((k:Int)<(C.length:Int))=true:=by simp;omega
       have hdk2:decide (k<C.length)=true:=by simp;omega
       clear HXR HXB HGX HX0 HPQ HLH
       go_wp2
       go_loopw [56] (fun v56 wr=>∃ j:Nat,j<=N/\v56=.int .i64 (j:Nat)/\Hid (wr.heap[w.heap.size]?=some (.cells #[.slice a C.length cap,.int .i64 loops,.slice (some ⟨gF,0,none⟩) N cF,.slice (some ⟨gT,0,none⟩) N cT] 44 (0,0))/\wr.ownsRow (w.heap.size+1) 3 1 (.slice (some ⟨w.heap.size+1,0,none⟩) N N) N (QK9 (Qx5 L x y j))/\Below w.heap.size w wr)) (fun v56 _=>N-(intOf v56).toNat)
       case atStart=>exact⟨0,Nat.zero_le _,rfl,HQ0.out⟩
       case round=>
        clear HQ0
        rename World=>W3
        obtain⟨j,hjn,rfl,hq⟩:=hrel
        have hg3:=(hq.out.2.1.lt (w.heap.size+1) rfl).2
        by_cases hjl:j<N
        · have f0 : W3.cell? ⟨w.heap.size + 1, j, none⟩ = some (.int .i64 (L.getD j 0 : Nat)) := by
            rw[hq.out.2.1.cellAt j (by omega),QV2 _ j (by rw[QW6,HLL.out];exact hjl),QA5 _ _ _ _ _ (by rw[HLL.out];exact hjl),if_neg (by omega)]
          obtain⟨z,hz⟩:∃ z,L.getD j 0=z:=⟨_,rfl⟩
          have HZ:Hid (L.getD j 0=z):=hz
          rw[hz]at f0
          clear hz
          by_cases hzh:z=hi
          · subst hzh
            have hst:=hq.out.2.1.stored j (.int .i64 (lo:Nat))
            rw[Qg3,ZA1 L x y j lo (by rw[HLL.out];exact hjl) (by rw[HME.out j hjl,HZ.out,if_pos rfl])]at hst
            have HST:Hid ((W3.setCell ⟨w.heap.size+1,j,none⟩ (.int .i64 (lo:Nat))).heap[w.heap.size]?=some (.cells #[.slice a C.length cap,.int .i64 loops,.slice (some ⟨gF,0,none⟩) N cF,.slice (some ⟨gT,0,none⟩) N cT] 44 (0,0))/\(W3.setCell ⟨w.heap.size+1,j,none⟩ (.int .i64 (lo:Nat))).ownsRow (w.heap.size+1) 3 1 (.slice (some ⟨w.heap.size+1,0,none⟩) N N) N (QK9 (Qx5 L x y (j+1)))/\Below w.heap.size w (W3.setCell ⟨w.heap.size+1,j,none⟩ (.int .i64 (lo:Nat)))):=⟨(hst.2.block _ (by omega) (fun e=>by have:w.heap.size=w.heap.size+1:=Option.some.inj e;omega)).trans hq.out.1,hst.1,hq.out.2.2.grown hst.2 hq.out.2.2.size (fun q hq=>by have:=Option.some.inj hq;omega)⟩
            have z0:W3.frozen? ⟨w.heap.size+1,j,none⟩=false:=hq.out.2.1.frozenAt j
            have hzz:((z:Int)==(z:Int))=true:=by simp
            clear hst
            go_wp2
            go_roundw
            case rel=>exact⟨j+1,by omega,by go_num,HST.out⟩
            case measure=>simp only[intOf];omega
          · have hzz:((z:Int)==(hi:Int))=false:=by simp;omega
            have hzz2:(z==hi)=false:=by simp;omega
            have HST:Hid (W3.heap[w.heap.size]?=some (.cells #[.slice a C.length cap,.int .i64 loops,.slice (some ⟨gF,0,none⟩) N cF,.slice (some ⟨gT,0,none⟩) N cT] 44 (0,0))/\W3.ownsRow (w.heap.size+1) 3 1 (.slice (some ⟨w.heap.size+1,0,none⟩) N N) N (QK9 (Qx5 L x y (j+1)))/\Below w.heap.size w W3):=(by rw[<-ZA0 L x y j (by rw[HLL.out];exact hjl) (by rw[HME.out j hjl,HZ.out,if_neg hzh])];exact hq.out:W3.heap[w.heap.size]?=some (.cells #[.slice a C.length cap,.int .i64 loops,.slice (some ⟨gF,0,none⟩) N cF,.slice (some ⟨gT,0,none⟩) N cT] 44 (0,0))/\W3.ownsRow (w.heap.size+1) 3 1 (.slice (some ⟨w.heap.size+1,0,none⟩) N N) N (QK9 (Qx5 L x y (j+1)))/\Below w.heap.size w W3)
            go_wp2
            go_roundw
            case rel=>exact⟨j+1,by omega,by go_num,HST.out⟩
            case measure=>simp only[intOf];omega
        · obtain rfl:N=j:=by omega
          go_wp2
          go_roundw
          case rel=>exact⟨k+1,by omega,by go_num,(by have h:=hq.out;rw[<-HLL.out,KK2,HLL.out]at h;rw[HLV.out];exact h:W3.heap[w.heap.size]?=some (.cells #[.slice a C.length cap,.int .i64 loops,.slice (some ⟨gF,0,none⟩) N cF,.slice (some ⟨gT,0,none⟩) N cT] 44 (0,0))/\W3.ownsRow (w.heap.size+1) 3 1 (.slice (some ⟨w.heap.size+1,0,none⟩) N N) N (QK9 (QF5 (List.range N) ((ovE C).take (k+1))))/\Below w.heap.size w W3)⟩
          case measure=>simp only[intOf];omega
     · obtain rfl:k=C.length:=by omega
       go_wp2
       go_ret
       exact⟨_,rfl,(by have h:=hp.out.2.1;rw[Kh5]at h;have e:QK4 C=QF5 (List.range N) (ovE C):=(by unfold QK4;rw[HN.out]);rw[e];exact QZ6 h (by omega)),hp.out.2.2⟩
end Go.Proofs.YtjcagkgpbcdghaaDoor
/- The walks of colour.overpasses and colour.Overs. -/
namespace Go.Proofs.YtjcagkgpbcdghaaDoor
open Go.RowKit
set_option maxHeartbeats 16000000
set_option maxRecDepth 100000
def XW4 (C:List Cr) (k:Nat):List Nat:=(List.range (2*C.length+1)).map fun v=>if v<k/\1<=v then ovM C v else 0
theorem QA4 (C:List Cr) (k:Nat):(XW4 C k).length=2*C.length+1:=by simp[XW4]
theorem Xd5 (C:List Cr) (k v:Nat) (hv:v<2*C.length+1):(XW4 C k).getD v 0=if v<k/\1<=v then ovM C v else 0:=by simp[XW4,List.getD_eq_getElem?_getD,hv]
theorem KX9 (C:List Cr):List.replicate (2*C.length+1) 0=XW4 C 1:=by
 refine List.ext_getElem (by simp[XW4]) fun j h1 h2=>?_
 simp only[XW4,List.getElem_map,List.getElem_range,List.getElem_replicate]
 rw[if_neg (by omega)]
theorem Xj9 (C:List Cr) (k z:Nat) (hk:k<2*C.length+1) (h1:1<=k) (hz:ovM C k=z):(XW4 C k).set k z=XW4 C (k+1):=Qv3 (by simp[QA4]) fun v hv=>by
 have hv':v<2*C.length+1:=by simpa[QA4] using hv
 rw[QD7 _ _ _ _ (by rw[QA4];exact hk),Xd5 _ _ _ hv',Xd5 _ _ _ hv']
 by_cases e:v=k
 · subst e;rw[if_pos rfl,if_pos ⟨by omega,h1⟩,hz]
 · rw[if_neg e]
   by_cases h2:v<k/\1<=v
   · rw[if_pos h2,if_pos ⟨by omega,h2.2⟩]
   · rw[if_neg h2,if_neg (fun q=>h2 ⟨by omega,q.2⟩)]
theorem KZ0 (C:List Cr):(XW4 C (2*C.length+1)).drop 1=ovL C (2*C.length):=by
 refine List.ext_getElem (by simp[XW4,ovL]) fun j h1 h2=>?_
 simp only[List.getElem_drop,XW4,ovL,List.getElem_map,List.getElem_range]
 rw [if_pos ⟨by have : j < 2 * C.length := by simpa [ovL] using h2
                omega,by omega⟩,Nat.add_comm]
theorem XU2 (a : Option Addr) (cap : Nat) (C : List Cr) (loops : Int) (gF cF gT cT : Nat) (w : World) (hm : QX3 C loops = true) (hD : Dr w a cap C gF gT) :
    Calls Tryd.prog 59 #[drV a cap C loops gF cF gT cT] w fun e w'=>∃ g,e=.returned (.tuple #[.slice (some ⟨g,0,none⟩) (2*C.length+1) (2*C.length+1),.int .i64 (ovC C:Nat)])/\w'.ownsRow w.heap.size 3 1 (.slice (some ⟨g,0,none⟩) (2*C.length+1) (2*C.length+1)) (2*C.length+1) (QK9 (XW4 C (2*C.length+1)))/\Below w.heap.size w w':=by
 obtain⟨s1,-,-,-⟩:=QJ7 (QU6 hm)
 obtain⟨i2,hk,hx0,hx1,hx2⟩:=info_parts QB7
 have HM:Hid (QX3 C loops=true):=hm
 have HD:Hid (Dr w a cap C gF gT):=hD
 have HLS:Hid (Least (ovE C) (2*C.length+1) (QK4 C)):=QU4 (Qz2 hm)
 have HCV:Hid (ovC C=QQ6 (QK4 C) (2*C.length+1)):=(rfl:ovC C=QQ6 (QK4 C) (2*C.length+1))
 have HLP:Hid (∀ v,1<=v->v<2*C.length+1->1<=(QK4 C).getD v 0):=fun v h1 h2=>HLS.out.pos (fun e he=>⟨(QC4 HM.out e he).1.1,(QC4 HM.out e he).2.1⟩) h2 h1
 have HZ0:Hid (List.replicate (2*C.length+1) 0=XW4 C 1):=KX9 C
 have HB0:Hid (Below w.heap.size w (w.alloc (.cells #[.slice a C.length cap,.int .i64 loops,.slice (some ⟨gF,0,none⟩) (2*C.length+1) cF,.slice (some ⟨gT,0,none⟩) (2*C.length+1) cT] 44))):=(Below.refl _ _).alloc (Nat.le_refl _) _
 unfold drV
 obtain⟨N,hN⟩:∃ N,N=2*C.length+1:=⟨_,rfl⟩
 have HN:Hid (N=2*C.length+1):=hN
 have hN1:1<=N:=by omega
 have hN2:N<=33:=by omega
 have HLA:Hid (∀ W,Dr W a cap C gF gT->Calls Tryd.prog 81 #[.agg #[.slice a C.length cap,.int .i64 loops,.slice (some ⟨gF,0,none⟩) N cF,.slice (some ⟨gT,0,none⟩) N cT]] W fun e w'=>∃ g,e=.returned (.slice (some ⟨g,0,none⟩) N N)/\w'.ownsRow W.heap.size 3 1 (.slice (some ⟨g,0,none⟩) N N) N (QK9 (QK4 C))/\Below W.heap.size W w'):=fun W hW=>by rw[hN];exact XU3 a cap C loops gF cF gT cT W HM.out hW
 rw[<-hN]at HLS HCV HLP HZ0 HB0 ⊢
 rw[HCV.out]
 clear hm hD hN
 go_enter Tryd.func59,Tryd.ntmps59
 go_wp2_with (go_at_call 81;refine(HLA.out _ (HD.out.on HB0.out)).mono ?_;rintro e9 w1 ⟨g,rfl,hr1,hb1⟩;refine Hid.out ?_)
 refine Lib.hid ?_
 have hs1:w.heap.size+1<=w1.heap.size:=by have:=hb1.size;simpa using this
 have hg1:w.heap.size+1<=g/\g<w1.heap.size:=by have:=hr1.lt g rfl;simpa using this
 have HR1:Hid (w1.ownsRow (w.heap.size+1) 3 1 (.slice (some ⟨g,0,none⟩) N N) N (QK9 (QK4 C))/\Below w.heap.size w w1):=⟨QZ6 hr1 (by simp),HB0.out.trans (hb1.mono (by simp))⟩
 clear hr1 hb1
 go_wp2_with (first|(at_make;refine wpList_make_full _ rfl _ _ 22 rfl w1.heap.size 3 i2 (.int .i64 0) 1 Tryd.underlying22 hk hx0 hx1 .i64 .i64 _ _ N rfl rfl rfl rfl (by rw[hx2];omega) (by unfold maxLen;omega) (by omega) ?_;intro w2 hrow hg2;refine Hid.out ?_))
 refine Lib.hid ?_
 rw[XD0,HZ0.out]at hrow
 have HP0:Hid (w2.ownsRow (w.heap.size+1) 3 1 (.slice (some ⟨g,0,none⟩) N N) N (QK9 (QK4 C))/\w2.ownsRow w1.heap.size 3 1 (.slice (some ⟨w1.heap.size,0,none⟩) N N) N (QK9 (XW4 C 1))/\Below w.heap.size w w2):=⟨own_any HR1.out.1 hg2,hrow,HR1.out.2.grown hg2 HR1.out.2.size (fun q hq=>by cases hq)⟩
 clear hrow hg2 HR1
 go_wp2
 go_loopw [3,5] (fun v3 v5 wr=>∃ j:Nat,1<=j/\j<=N/\v5=.int .i64 (j:Nat)/\v3=.int .i64 (QQ6 (QK4 C) j:Nat)/\Hid (wr.ownsRow (w.heap.size+1) 3 1 (.slice (some ⟨g,0,none⟩) N N) N (QK9 (QK4 C))/\wr.ownsRow w1.heap.size 3 1 (.slice (some ⟨w1.heap.size,0,none⟩) N N) N (QK9 (XW4 C j))/\Below w.heap.size w wr)) (fun _ v5 _=>N-(intOf v5).toNat)
 case atStart=>exact⟨1,Nat.le_refl _,hN1,rfl,(by simp[QQ6]),HP0.out⟩
 case round=>
  clear HP0
  rename World=>W1
  obtain⟨j,hj1,hjn,rfl,rfl,hp⟩:=hrel
  have hlt:=(hp.out.2.1.lt w1.heap.size rfl).2
  have hr1:=XZ0 (QK4 C) j
  by_cases hjl:j<N
  · obtain⟨q,hq⟩:∃ q,(QK4 C).getD j 0=q:=⟨_,rfl⟩
    have hqj:q<=j:=by rw[<-hq];exact HLS.out.le hjl
    have hq1:1<=q:=by rw[<-hq];exact HLP.out j hj1 hjl
    have hqN:q<N:=by omega
    have e0:W1.cell? ⟨g,j,none⟩=some (.int .i64 (q:Nat)):=by
     rw[hp.out.1.cellAt j (by omega),QV2 _ j (by rw[HLS.out.1];omega),hq]
    by_cases hql:q<j
    · have HQR:Hid ((QK4 C).getD q 0=q):=(by have h:=HLS.out.root hjl;rw[hq]at h;exact h:(QK4 C).getD q 0=q)
      have HOV:Hid (ovM C j=QQ6 (QK4 C) q):=(by unfold ovM;rw[hq]:ovM C j=QQ6 (QK4 C) q)
      have e1:W1.cell? ⟨w1.heap.size,q,none⟩=some (.int .i64 (QQ6 (QK4 C) q:Nat)):=by
       rw[hp.out.2.1.cellAt q (by omega),QV2 _ q (by rw[QA4];have:=HN.out;omega),Xd5 _ _ _ (by have:=HN.out;omega),if_pos ⟨hql,hq1⟩]
       unfold ovM
       rw[HQR.out]
      have HR1:Hid (QQ6 (QK4 C) (j+1)=QQ6 (QK4 C) j):=(by simp only[QQ6];rw[if_neg (fun z=>by have:=z.2;omega)];simp:QQ6 (QK4 C) (j+1)=QQ6 (QK4 C) j)
      have hdq:decide ((q:Int)<(j:Int))=true:=by simp;omega
      have hdq2:decide (q<j)=true:=by simp;omega
      clear hq
      have hst:=hp.out.2.1.stored j (.int .i64 (QQ6 (QK4 C) q:Nat))
      rw[Qg3,Xj9 C j (QQ6 (QK4 C) q) (by have:=HN.out;omega) hj1 HOV.out]at hst
      have HST:Hid ((W1.setCell ⟨w1.heap.size,j,none⟩ (.int .i64 (QQ6 (QK4 C) q:Nat))).ownsRow (w.heap.size+1) 3 1 (.slice (some ⟨g,0,none⟩) N N) N (QK9 (QK4 C))/\(W1.setCell ⟨w1.heap.size,j,none⟩ (.int .i64 (QQ6 (QK4 C) q:Nat))).ownsRow w1.heap.size 3 1 (.slice (some ⟨w1.heap.size,0,none⟩) N N) N (QK9 (XW4 C (j+1)))/\Below w.heap.size w (W1.setCell ⟨w1.heap.size,j,none⟩ (.int .i64 (QQ6 (QK4 C) q:Nat)))):=⟨hp.out.1.kept hst.2 (Or.inr (fun e=>by have:g=w1.heap.size:=Option.some.inj e;omega)),hst.1,hp.out.2.2.grown hst.2 hp.out.2.2.size (fun q hq=>by have:=Option.some.inj hq;omega)⟩
      have z0:W1.frozen? ⟨w1.heap.size,j,none⟩=false:=hp.out.2.1.frozenAt j
      have eo:W1.cell? ⟨w1.heap.size,j,none⟩=some (.int .i64 ((XW4 C j).getD j 0:Nat)):=by
       rw[hp.out.2.1.cellAt j (by omega)];exact QV2 _ j (by rw[QA4];have:=HN.out;omega)
      clear hst
      go_wp2
      go_roundw
      case rel=>exact⟨j+1,by omega,by omega,by go_num,(by rw[HR1.out]),HST.out⟩
      case measure=>simp only[intOf];omega
    · obtain rfl:q=j:=by omega
      have HOV:Hid (ovM C q=QQ6 (QK4 C) q):=(by unfold ovM;rw[hq]:ovM C q=QQ6 (QK4 C) q)
      have HR1:Hid (QQ6 (QK4 C) (q+1)=QQ6 (QK4 C) q+1):=(by simp only[QQ6];rw[if_pos ⟨hq1,hq⟩]:QQ6 (QK4 C) (q+1)=QQ6 (QK4 C) q+1)
      have hdq:decide ((q:Int)<(q:Int))=false:=by simp
      have hdq2:decide (q<q)=false:=by simp
      clear hq
      have hst:=hp.out.2.1.stored q (.int .i64 (QQ6 (QK4 C) q:Nat))
      rw[Qg3,Xj9 C q (QQ6 (QK4 C) q) (by have:=HN.out;omega) hj1 HOV.out]at hst
      have HST:Hid ((W1.setCell ⟨w1.heap.size,q,none⟩ (.int .i64 (QQ6 (QK4 C) q:Nat))).ownsRow (w.heap.size+1) 3 1 (.slice (some ⟨g,0,none⟩) N N) N (QK9 (QK4 C))/\(W1.setCell ⟨w1.heap.size,q,none⟩ (.int .i64 (QQ6 (QK4 C) q:Nat))).ownsRow w1.heap.size 3 1 (.slice (some ⟨w1.heap.size,0,none⟩) N N) N (QK9 (XW4 C (q+1)))/\Below w.heap.size w (W1.setCell ⟨w1.heap.size,q,none⟩ (.int .i64 (QQ6 (QK4 C) q:Nat)))):=⟨hp.out.1.kept hst.2 (Or.inr (fun e=>by have:g=w1.heap.size:=Option.some.inj e;omega)),hst.1,hp.out.2.2.grown hst.2 hp.out.2.2.size (fun q hq=>by have:=Option.some.inj hq;omega)⟩
      have z0:W1.frozen? ⟨w1.heap.size,q,none⟩=false:=hp.out.2.1.frozenAt q
      have eo:W1.cell? ⟨w1.heap.size,q,none⟩=some (.int .i64 ((XW4 C q).getD q 0:Nat)):=by
       rw[hp.out.2.1.cellAt q (by omega)];exact QV2 _ q (by rw[QA4];have:=HN.out;omega)
      clear hst
      go_wp2
      go_roundw
      case rel=>exact⟨q+1,by omega,by omega,by go_num,(by rw[HR1.out];go_num),HST.out⟩
      case measure=>simp only[intOf];omega
  · obtain rfl:N=j:=by omega
    go_wp2
    go_ret2
    exact⟨_,rfl,QZ6 hp.out.2.1 (by omega),hp.out.2.2⟩
end Go.Proofs.YtjcagkgpbcdghaaDoor
/- The walks of wind.sign, ref.signOf, wind.Writhe and ref.WritheOf. -/
namespace Go.Proofs.YtjcagkgpbcdghaaDoor
open Go.RowKit
set_option maxHeartbeats 4000000
set_option maxRecDepth 100000
def sgn (p:Bool):Int:=if p=true then 1 else -1
theorem Xk7 (p:Bool):sgn p=1∨sgn p = -1:=by cases p<;>simp[sgn]
def wrM (C:List Cr):Nat->Int
 |0=>0
 |k+1=>wrM C k+sgn (C.getD k Cr.none).plus
theorem Xz5 (C:List Cr) (k:Nat) : -(k:Int)<=wrM C k/\wrM C k<=(k:Int):=by
 induction k with
 |zero=>simp[wrM]
 |succ k ih=>
  have:=Xk7 (C.getD k Cr.none).plus
  simp only[wrM]
  omega
theorem Zh1 (x : Cr) (w : World) :
    Calls Tryd.prog 33 #[.agg #[.int .i64 x.a,.int .i64 x.b,.int .i64 x.c,.int .i64 x.d,.bool x.plus]] w fun e w'=>e=.returned (.int .i64 (sgn x.plus))/\Below w.heap.size w w':=by
 obtain⟨xa,xb,xc,xd,xp⟩:=x
 cases xp<;>
 · go_enter Tryd.func33,Tryd.ntmps33
   go_wp2
   go_ret
   exact⟨rfl,(Below.refl _ _).alloc (Nat.le_refl _) _⟩
theorem ZB7 (hFR : QX8) (v : Value) (C : List Cr) (loops : Int) (w : World) (hn : noN C loops = 0) (h : Crs w w.heap.size v C) :
    Calls Tryd.prog 15 #[.agg #[v,.int .i64 loops]] w fun e w'=>e=.returned (.tuple #[.int .i64 (wrM C C.length),.int .i64 0])/\Below w.heap.size w w':=by
 have HC:Hid (Crs w w.heap.size v C):=h
 obtain⟨hm,hp⟩:=QD6 hn
 have HM:Hid (QX3 C loops=true):=hm
 have HP:Hid (QZ1 C=true):=hp
 have HFA:Hid QX8:=hFR
 obtain⟨s1,s2,s3,s4⟩:=QJ7 (QU6 hm)
 obtain⟨a,cap,rfl,-,-⟩:=h
 have HB1:Hid (Below w.heap.size w (w.alloc (.cells #[.slice a C.length cap,.int .i64 loops] 27))):=(Below.refl _ _).alloc (Nat.le_refl _) _
 clear hm hp hn hFR
 go_enter Tryd.func15,Tryd.ntmps15
 go_wp2_with (go_at_call 32;refine(ZU5 HFA.out _ C loops _ HM.out HP.out (HC.out.up HB1.out)).mono ?_;rintro e9 w2 ⟨a',cap',gF,cF,gT,cT,rfl,hdr,hb2⟩;refine Hid.out ?_)
 refine Lib.hid ?_
 have HDR:Hid (Dr w2 a' cap' C gF gT):=hdr
 unfold drV
 have HB2:Hid (Below w.heap.size w w2):=HB1.out.trans (hb2.mono HB1.out.size)
 have hs2:=HB2.out.size
 have HBA:Hid (Below w2.heap.size w2 (w2.alloc (.cells #[.slice a' C.length cap',.int .i64 loops,.slice (some ⟨gF,0,none⟩) (2*C.length+1) cF,.slice (some ⟨gT,0,none⟩) (2*C.length+1) cT] 44))):=(Below.refl _ _).alloc (Nat.le_refl _) _
 clear hb2 hdr
 go_wp2
 go_loopw [6,21] (fun v6 v21 wr=>∃ i:Nat,i<=C.length/\v21=.int .i64 (i:Nat)/\v6=.int .i64 (wrM C i)/\Hid (Below w2.heap.size w2 wr)) (fun _ v21 _=>C.length-(intOf v21).toNat)
 case atStart=>exact⟨0,Nat.zero_le _,rfl,rfl,HBA.out⟩
 case round=>
  rename World=>W1
  obtain⟨i,hin,rfl,rfl,hb⟩:=hrel
  have hsW:=hb.out.size
  by_cases hil:i<C.length
  · obtain⟨b,off,ea,hbw,hC⟩:=HDR.out.cross (by omega)
    obtain rfl:=ea
    obtain⟨e0,e1,e2,e3,e4⟩:=(hC.on hb.out hbw) i hil
    have hbW:b<W1.heap.size:=by omega
    have hii:(i:Int)<(C.length:Int):=by omega
    have HWN:Hid (wrM C (i+1)=wrM C i+sgn (C.getD i Cr.none).plus):=(rfl:wrM C (i+1)=wrM C i+sgn (C.getD i Cr.none).plus)
    have hwb:=Xz5 C i
    obtain⟨x,hx⟩:∃ x,C.getD i Cr.none=x:=⟨_,rfl⟩
    rw[hx]at HWN e0 e1 e2 e3 e4
    obtain⟨z,hz⟩:∃ z,wrM C i=z:=⟨_,rfl⟩
    rw[hz]at HWN hwb ⊢
    obtain⟨sg',hsg⟩:∃ sg',sgn x.plus=sg':=⟨_,rfl⟩
    have HSG:Hid (sgn x.plus=sg'):=hsg
    have hsb:=Xk7 x.plus
    rw[hsg]at HWN hsb
    have hsb2 : -1<=sg'/\sg'<=1:=by omega
    have ew:IntKind.i64.wrap (z+sg')=z+sg':=IntWalk.i64_in _ (by omega)
    clear hx hz hsg hsb hC
    go_wp2_with (go_at_call 33;refine(Zh1 x _).mono ?_;rw[HSG.out];rintro e9 w5 ⟨rfl,hb5⟩;have HB5:Hid (Below W1.heap.size W1 w5):=((Below.refl _ _).alloc (Nat.le_refl _) _).trans (hb5.mono (by simp));clear hb5)
    go_roundw
    case rel=>exact⟨i+1,by omega,by go_num,by rw[HWN.out],hb.out.trans (HB5.out.mono hsW)⟩
    case measure=>simp only[intOf];omega
  · obtain rfl:i=C.length:=by omega
    go_wp2
    go_ret2
    exact⟨rfl,HB2.out.trans (hb.out.mono hs2)⟩
end Go.Proofs.YtjcagkgpbcdghaaDoor
