/- Several texts of the proof, one behind the other. -/
import Derived.Test.YtagaajlbkfkaiaaG7P
import Derived.Deep.RegionHeld3
import Derived.Lib.Hide
/- Lists of numbers that a call owns; the walk of Drawing.Walks. -/
namespace Go.Proofs.Ytagaajlbkfkaiaa
open Go.RowKit
set_option maxHeartbeats 8000000
set_option maxRecDepth 100000
def nats (l:List Nat):List Value:=l.map fun x=>.int .i64 (x:Nat)
def bools (l:List Bool):List Value:=l.map fun x=>.bool x
theorem nats_len (l:List Nat):(nats l).length=l.length:=by simp[nats]
theorem nats_get (l:List Nat) (i:Nat) (h:i<l.length):(nats l)[i]?=some (.int .i64 (l.getD i 0:Nat)):=by simp[nats,List.getD,h]
theorem bools_get (l:List Bool) (i:Nat) (h:i<l.length):(bools l)[i]?=some (.bool (l.getD i true)):=by simp[bools,List.getD,h]
theorem bools_set (l:List Bool) (i:Nat) (b:Bool):(bools l).set i (.bool b)=bools (l.set i b):=by simp[bools,List.map_set]
theorem nats_app (l:List Nat) (x:Nat):nats (l++[x])=nats l++[.int .i64 (x:Nat)]:=by simp[nats]
def NatsOwn (w:World) (B:Nat) (v:Value) (L:List (List Nat)):Prop:=
 ∃ ys:List Value,ys.length=L.length/\w.ownsRow B 46 1 v ys.length ys/\∀ j,j<L.length->w.ownsRow B 3 1 (ys.getD j (.bool false)) (L.getD j []).length (nats (L.getD j []))
theorem NatsOwn.any {w w':World} {B:Nat} {v:Value} {L:List (List Nat)} (h:NatsOwn w B v L) (hg:w.grownBy w' none):NatsOwn w' B v L:=by
 obtain⟨ys,h1,h2,h3⟩:=h
 exact⟨ys,h1,own_any h2 hg,fun j hj=>own_any (h3 j hj) hg⟩
theorem NatsOwn.low {w:World} {B B':Nat} {v:Value} {L:List (List Nat)} (h:NatsOwn w B v L) (hB:B'<=B):NatsOwn w B' v L:=by
 obtain⟨ys,h1,h2,h3⟩:=h
 exact⟨ys,h1,own_low h2 hB,fun j hj=>own_low (h3 j hj) hB⟩
theorem grown_none {w w':World} {row:Option Nat} (h:w.grownBy w' none):w.grownBy w' row:=⟨h.os,h.tape,h.output,h.size,fun k hk _=>h.block k hk (by simp)⟩
theorem grown_new {W X Y:World} {row r2:Option Nat} (h:W.grownBy X row) (g:X.grownBy Y r2) (hr:∀ k,r2=some k->W.heap.size<=k):W.grownBy Y row:=
 ⟨g.os.trans h.os,g.tape.trans h.tape,g.output.trans h.output,Nat.le_trans h.size g.size,fun k hk hn=>(g.block k (Nat.lt_of_lt_of_le hk h.size) (fun e=>by have:=hr k e.symm;omega)).trans (h.block k hk hn)⟩
def lenOf:Value->Nat
 |.slice _ n _=>n
 |_=>0
theorem infoInt:(Try.prog.info? 3).map (fun i=>(i.zero,i.size,i.bytes))=some (some (.int .i64 0),1,8):=by kernel_rfl
theorem infoBool:(Try.prog.info? 4).map (fun i=>(i.zero,i.size,i.bytes))=some (some (.bool false),1,1):=by kernel_rfl
theorem infoInts:(Try.prog.info? 46).map (fun i=>(i.zero,i.size,i.bytes))=some (some (.slice none 0 0),1,24):=by kernel_rfl
theorem int_one (x:Int):∀ u∈[Value.int .i64 x],u.oneCell'=true:=by
 intro u hu
 simp only[List.mem_singleton]at hu
 subst hu
 rfl
theorem made_false (n:Nat):(madeCells (Value.bool false).cells (n*1)).toList=bools (List.replicate n false):=by
 have e:(Value.bool false).cells=#[Value.bool false]:=rfl
 rw[e,toList_madeCells_one,Nat.mul_one]
 simp[bools]
structure WkAt (w:World) (gS cS:Nat) (box:Array Value) (tb:TypeId) (n:Nat) (R:List (List Nat)×List Bool) (v3:Value) (zs:List Value) (wr:World):Prop where
 box:wr.heap[w.heap.size]?=some (.cells box tb (0,0))
 seen:wr.ownsRow (w.heap.size+1) 4 1 (.slice (some ⟨gS,0,none⟩) (n+1) cS) (n+1) (bools R.2)
 len:zs.length=R.1.length
 rows:wr.ownsRow (w.heap.size+1) 46 1 v3 zs.length zs
 each:∀ j,j<zs.length->wr.ownsRow (w.heap.size+1) 3 1 (zs.getD j (.bool false)) (R.1.getD j []).length (nats (R.1.getD j []))
 bel:Below w.heap.size w wr
theorem walksTo_next {f:Nat->Nat} {n i:Nat} {acc:List Nat} {seen:List Bool} (h:walkF f (n+1) (walksTo f n i).2 (i+1) []=(acc,seen)):walksTo f n (i+1)=(if acc=[] then(walksTo f n i).1 else(walksTo f n i).1++[acc],seen):=by
 simp only[walksTo]
 rw[h]
theorem arcRings_ahead (a:Option Addr) (cap:Nat) (C:List Cr) (loops:Int) (gF cF gT cT:Nat) (w:World) (hm:mayD C loops=true) (hD:Dr w a cap C gF gT):
    Calls Try.prog 96 #[drV a cap C loops gF cF gT cT,.func (.func 97) #[drV a cap C loops gF cF gT cT] #[]] w fun e w'=>∃ v,e=.returned v/\NatsOwn w' w.heap.size v (walksM C)/\Below w.heap.size w w':=by
 obtain⟨s1,-,-,-⟩:=sizeB_iff (may_size hm)
 obtain⟨i0,hi,hz0,hz1,hz2⟩:=info_parts infoInt
 obtain⟨i1,hj,hy0,hy1,hy2⟩:=info_parts infoInts
 obtain⟨i2,hk,hx0,hx1,hx2⟩:=info_parts infoBool
 unfold drV
 have HM:=hidB hm
 have HD:=hidB hD
 have HNX:=hidB (nx_closed hm)
 have HWM:=hidB ((rfl:walksM C=(walksTo (nx C) (2*C.length) (2*C.length)).1))
 clear hm hD
 obtain⟨w0,hw0⟩:∃ w0,w0=w.alloc (.cells #[.slice a C.length cap,.int .i64 loops,.slice (some ⟨gF,0,none⟩) (2*C.length+1) cF,.slice (some ⟨gT,0,none⟩) (2*C.length+1) cT] 61):=⟨_,rfl⟩
 have HW0:=hidB hw0
 have hs0:w0.heap.size=w.heap.size+1:=by rw[hw0];simp
 have HB0:=hidB (show Below w.heap.size w w0 by rw[hw0];exact(Below.refl _ _).alloc (Nat.le_refl _) _)
 have HT0:=hidB (show w0.heap[w.heap.size]?=some (.cells #[.slice a C.length cap,.int .i64 loops,.slice (some ⟨gF,0,none⟩) (2*C.length+1) cF,.slice (some ⟨gT,0,none⟩) (2*C.length+1) cT] 61 (0,0)) by rw[hw0];exact alloc_at rfl)
 clear hw0
 go_enter Try.func96,Try.ntmps96
 go_wp2_with (first|(at_make;refine wpList_make_full _ rfl _ _ 104 rfl (w.heap.size+1) 4 i2 (.bool false) 1 Try.underlying104 hk hx0 hx1 .i64 .i64 _ _ (2*C.length+1) rfl rfl rfl rfl (by rw[hx2];omega) (by unfold maxLen;omega) (by simp) ?_;intro w1 hrow hg1;refine Hid.out ?_))
 refine Lib.hid ?_
 rw[<-HW0.out]at hrow hg1
 rw[made_false,hs0]at hrow
 have HK0:Hid (WkAt w (w.heap.size+1) (2*C.length+1) #[.slice a C.length cap,.int .i64 loops,.slice (some ⟨gF,0,none⟩) (2*C.length+1) cF,.slice (some ⟨gT,0,none⟩) (2*C.length+1) cT] 61 (2*C.length) (walksTo (nx C) (2*C.length) 0) (.slice none 0 0) [] w1):=
  ⟨(hg1.block _ (by omega) (by simp)).trans HT0.out,hrow,rfl,World.ownsRow_nil _ _ _ _,fun j hj=>absurd hj (Nat.not_lt_zero _),HB0.out.grown hg1 (by omega) (fun k hk=>by cases hk)⟩
 clear hrow hg1 HT0 HB0 hs0 HW0
 go_wp2
 go_loopw [5,7] (fun v3 v5 wr=>∃ (i j:Nat) (zs:List Value),i<=2*C.length/\Hid (j=i+1)/\v5=.int .i64 (j:Nat)/\WkAt w (w.heap.size+1) (2*C.length+1) #[.slice a C.length cap,.int .i64 loops,.slice (some ⟨gF,0,none⟩) (2*C.length+1) cF,.slice (some ⟨gT,0,none⟩) (2*C.length+1) cT] 61 (2*C.length) (walksTo (nx C) (2*C.length) i) v3 zs wr) (fun _ v5 _=>2*C.length+1-(intOf v5).toNat)
 case atStart=>exact⟨0,1,[],Nat.zero_le _,(rfl:1=0+1),rfl,HK0.out⟩
 case round=>
  clear HK0
  rename World=>W1
  obtain⟨i,j0,zs,hin,hji,rfl,hk⟩:=hrel
  have b3:=block_cell (i:=3) hk.box rfl
  have HK:=hidB hk
  have hgS:=hk.seen.lt (w.heap.size+1) rfl
  have HSL:=hidB (walksTo_len _ _ _)
  have HCT:=hidB (walksTo_count _ _ _)
  by_cases hil:i<2*C.length
  · have hsd:=hk.seen
    have hbl:=hk.bel
    have hj1:1<=j0:=by have:=hji.out;omega
    have hj2:j0<=2*C.length:=by have:=hji.out;omega
    have hdj:decide ((j0:Int)<2*(C.length:Int)+1)=true:=by simp;omega
    have hdj2:decide (j0<2*C.length+1)=true:=by simp;omega
    clear hk
    go_wp2
    go_loopw [8,9] (fun v6 v7 ws=>∃ (f:Nat) (seen:List Bool) (x:Nat) (acc:List Nat),v7=.int .i64 (x:Nat)/\1<=x/\x<=2*C.length/\Hid (walkF (nx C) (2*C.length+1) (walksTo (nx C) (2*C.length) i).2 j0 []=walkF (nx C) f seen x acc)/\Hid (unseen seen<=f)/\seen.length=2*C.length+1/\Hid (acc.length+unseen seen<=2*C.length+1)/\
        ws.ownsRow W1.heap.size 3 1 v6 acc.length (nats acc)/\ws.ownsRow (w.heap.size+1) 4 1 (.slice (some ⟨w.heap.size+1,0,none⟩) (2*C.length+1) (2*C.length+1)) (2*C.length+1) (bools seen)/\W1.grownBy ws (some (w.heap.size+1))/\Below w.heap.size w ws) (fun v6 _ _=>2*C.length+2-lenOf v6)
    case atStart=>exact⟨2*C.length+1,(walksTo (nx C) (2*C.length) i).2,j0,[],rfl,by omega,by omega,(rfl:walkF (nx C) (2*C.length+1) (walksTo (nx C) (2*C.length) i).2 j0 []=_),(by have:=unseen_le (walksTo (nx C) (2*C.length) i).2;rw[HSL.out]at this;exact this:unseen (walksTo (nx C) (2*C.length) i).2<=2*C.length+1),HSL.out,(by have:=unseen_le (walksTo (nx C) (2*C.length) i).2;rw[HSL.out]at this;simpa using this:([]:List Nat).length+unseen (walksTo (nx C) (2*C.length) i).2<=2*C.length+1),World.ownsRow_nil _ _ _ _,hsd,World.grownBy.refl _ _,hbl⟩
    case round=>
     clear hsd hbl b3
     rename World=>W3
     obtain⟨f,seen,x,acc,rfl,hx1,hx2,hwk,hun,hsl,hac,hown,hsd,hgr,hbl⟩:=hrel
     obtain⟨a6,c6,rfl⟩:=own_capS hown
     have e0:W3.cell? ⟨w.heap.size+1,x,none⟩=some (.bool (seen.getD x true)):=by
      rw[hsd.cellAt x (by omega)];exact bools_get seen x (by omega)
     have z0:W3.frozen? ⟨w.heap.size+1,x,none⟩=false:=hsd.frozenAt x
     have hszW:=hgr.size
     cases hbit:seen.getD x true with
     |false=>
      rw[hbit]at e0
      have hst:=hsd.stored x (.bool true)
      rw[bools_set]at hst
      have HSD:=hidB hst.1
      have HGS:=hidB hst.2
      have HOW:=hidB (hown.kept hst.2 (own_ne hown hsd (by decide)))
      have HWK:=hidB (walkF_more hbit hun.out)
      have HUS:=hidB (unseen_set hbit)
      have hacl:acc.length<2*C.length+1:=by have:=hac.out;have:=HUS.out;omega
      have hs3:(W3.setCell ⟨w.heap.size+1,x,none⟩ (.bool true)).heap.size=W3.heap.size:=by simp
      have hlt3:w.heap.size+1<W3.heap.size:=by omega
      have HB3:Hid (Below w.heap.size w (W3.setCell ⟨w.heap.size+1,x,none⟩ (.bool true))):=hbl.grown hst.2 hbl.size (fun q hq=>by have:=Option.some.inj hq;omega)
      have HG3:=hidB (grown_trans hgr hst.2)
      have HX:=hidB (HNX.out x hx1 hx2)
      clear hst hsd hown hgr hbl
      go_wp2_with (first
       |(at_builtin;refine wpList_append_own _ rfl _ _ 46 rfl W1.heap.size 3 i0 (.int .i64 0) 1 8 Try.underlying46 hi hz0 hz1 hz2 rfl (by decide) _ _ _ rfl (HOW.out.alloc _) ⟨W3.heap.size,0,none⟩ 1 1 [.int .i64 (x:Nat)] rfl rfl (by rw[<-hs3];exact new_cell1 _ _ _) (int_one _) (by unfold maxLen;omega) (by omega) (by simp;omega) ?_;intro v8 w8 hown8 hg8 _;refine Hid.out ?_))
      refine Lib.hid ?_
      have HG8:=hidB hg8
      have HO8:=hidB (show w8.ownsRow W1.heap.size 3 1 v8 (acc++[x]).length (nats (acc++[x])) by rw[List.length_append,nats_app];exact hown8)
      have hA:=HOW.out.alloc (.cells #[.int .i64 (x:Nat)] 3)
      have hS:=HSD.out.alloc (.cells #[.int .i64 (x:Nat)] 3)
      have HS8:=hidB (hS.kept HG8.out (own_ne hS hA (by decide)))
      have HG18:=hidB (grown_new (grown_trans HG3.out (grown_none (World.grownBy_alloc _ _ none))) HG8.out (fun q hq=>(hA.lt q hq).1))
      have HB8:Hid (Below w.heap.size w w8):=(HB3.out.alloc (by rw[hs3];omega) _).grown HG8.out (by simp;omega) (fun q hq=>by have:=(hA.lt q hq).1;omega)
      have HX8:Hid (w8.heap[w.heap.size]?=some (.cells #[.slice a C.length cap,.int .i64 loops,.slice (some ⟨gF,0,none⟩) (2*C.length+1) cF,.slice (some ⟨gT,0,none⟩) (2*C.length+1) cT] 61 (0,0))):=(HG18.out.block _ (by omega) (fun e=>by have:=Option.some.inj e;omega)).trans HK.out.box
      have HD8:=hidB (HD.out.on HB8.out)
      clear hA hS hg8 hown8 e0 z0
      go_wp2_with (go_at_call 97;refine(ahead_any a cap C loops gF cF gT cT x _ HM.out hx1 hx2 HD8.out).mono ?_;rintro e9 w9 ⟨rfl,hb9⟩;refine Hid.out ?_)
      refine Lib.hid ?_
      have HB9:=hidB hb9
      clear hb9
      obtain⟨hn1,hn2⟩:=HX.out
      obtain⟨y,hy⟩:∃ y,nx C x=y:=⟨_,rfl⟩
      rw[hy]at hn1 hn2 HWK ⊢
      have hg9:w8.grownBy w9 none:=grown_below HB9.out none
      go_wp2
      go_roundw
      case rel=>exact⟨f - 1,seen.set x true,y,acc++[x],rfl,hn1,hn2,(hwk.out.trans HWK.out.1:walkF (nx C) (2*C.length+1) (walksTo (nx C) (2*C.length) i).2 j0 []=_),HWK.out.2,by simpa using hsl,(by have:=hac.out;have:=HUS.out;rw[List.length_append];simp only[List.length_cons,List.length_nil];omega:(acc++[x]).length+unseen (seen.set x true)<=2*C.length+1),own_any HO8.out hg9,own_any HS8.out hg9,grown_new HG18.out hg9 (fun q hq=>by cases hq),HB8.out.trans (HB9.out.mono HB8.out.size)⟩
      case measure=>
       obtain⟨a8,c8,e8⟩:=own_capS HO8.out
       rw[e8]
       simp only[lenOf,List.length_append,List.length_cons,List.length_nil]
       omega
     |true=>
      rw[hbit]at e0
      have HWT:Hid (walksTo (nx C) (2*C.length) (i+1)=(if acc=[] then(walksTo (nx C) (2*C.length) i).1 else(walksTo (nx C) (2*C.length) i).1++[acc],seen)):=walksTo_next (by rw[<-hji.out];exact hwk.out.trans (walkF_seen hbit))
      have hlz:zs.length<=i:=by rw[HK.out.len];exact HCT.out
      have HX3:Hid (W3.heap[w.heap.size]?=some (.cells #[.slice a C.length cap,.int .i64 loops,.slice (some ⟨gF,0,none⟩) (2*C.length+1) cF,.slice (some ⟨gT,0,none⟩) (2*C.length+1) cT] 61 (0,0))):=(hgr.block _ (by omega) (fun e=>by have:=Option.some.inj e;omega)).trans HK.out.box
      have hrows:=HK.out.rows.kept hgr (own_ne HK.out.rows HK.out.seen (by decide))
      have HEA:Hid (∀ j,j<zs.length->W3.ownsRow (w.heap.size+1) 3 1 (zs.getD j (.bool false)) ((walksTo (nx C) (2*C.length) i).1.getD j []).length (nats ((walksTo (nx C) (2*C.length) i).1.getD j []))):=fun j hj=>(HK.out.each j hj).kept hgr (own_ne (HK.out.each j hj) HK.out.seen (by decide))
      have hlen:=HK.out.len
      by_cases hz:acc=[]
      · subst hz
        rw[if_pos rfl]at HWT
        go_wp2
        go_roundw
        case rel=>
         refine⟨i+1,j0+1,zs,by omega,(by have:=hji.out;omega:j0+1=i+1+1),by go_num,?_⟩
         rw[HWT.out]
         exact⟨HX3.out,hsd,hlen,hrows,HEA.out,hbl⟩
        case measure=>simp only[intOf];omega
      · rw[if_neg hz]at HWT
        have hpos:0<acc.length:=List.length_pos_iff.2 hz
        have HON:=hidB (own_oneS hown)
        have HRW:=hidB hrows
        have HOW:=hidB (own_low hown (by omega))
        have HSD:=hidB hsd
        have HBL:=hidB hbl
        clear hrows hown hsd hbl
        have hdp:decide (0<(acc.length:Int))=true:=by simp;omega
        have hdp2:decide (0<acc.length)=true:=by simp;omega
        go_wp2_with (first
         |(at_builtin;refine wpList_append_own _ rfl _ _ 49 rfl (w.heap.size+1) 46 i1 (.slice none 0 0) 1 24 Try.underlying49 hj hy0 hy1 hy2 rfl (by decide) _ _ _ rfl (HRW.out.alloc _) ⟨W3.heap.size,0,none⟩ 1 1 [Value.slice a6 acc.length c6] rfl rfl (new_cell1 _ _ _) HON.out (by unfold maxLen;omega) (by omega) (by simp;omega) ?_;intro v8 w8 hown8 hg8 _;go_frame))
        go_roundw
        case rel=>
         have hR:=HRW.out.alloc (.cells #[Value.slice a6 acc.length c6] 46)
         have hO:=HOW.out.alloc (.cells #[Value.slice a6 acc.length c6] 46)
         have hS:=HSD.out.alloc (.cells #[Value.slice a6 acc.length c6] 46)
         refine⟨i+1,j0+1,zs++[Value.slice a6 acc.length c6],by omega,(by have:=hji.out;omega:j0+1=i+1+1),by go_num,?_⟩
         rw[HWT.out]
         refine⟨?_,hS.kept hg8 (own_ne hS hR (by decide)),by simp[hlen],by rw[List.length_append];exact hown8,fun j hjl=>?_,(HBL.out.alloc (by omega) _).grown hg8 (by simp;omega) (fun q hq=>by have:=(hR.lt q hq).1;omega)⟩
         · refine(hg8.block _ (by simp;omega) (fun e=>by have:=(hR.lt _ e.symm).1;omega)).trans (alloc_old HX3.out)
         · by_cases hjk:j<zs.length
           · have e1:((walksTo (nx C) (2*C.length) i).1++[acc]).getD j []=(walksTo (nx C) (2*C.length) i).1.getD j []:=by rw[List.getD_eq_getElem?_getD,List.getD_eq_getElem?_getD,List.getElem?_append_left (by omega)]
             rw[getD_left zs _ j hjk,e1]
             have h1:=(HEA.out j hjk).alloc (.cells #[Value.slice a6 acc.length c6] 46)
             exact h1.kept hg8 (own_ne h1 hR (by decide))
           · have ej:j=zs.length:=by simp at hjl;omega
             have e1:((walksTo (nx C) (2*C.length) i).1++[acc]).getD j []=acc:=by rw[ej,hlen];simp[List.getD]
             have e2:(zs++[Value.slice a6 acc.length c6]).getD j (.bool false)=Value.slice a6 acc.length c6:=by rw[ej];exact getD_last zs _
             rw[e1,e2]
             exact hO.kept hg8 (own_ne hO hR (by decide))
        case measure=>simp only[intOf];omega
  · obtain rfl:i=2*C.length:=by omega
    obtain rfl:j0=2*C.length+1:=hji.out
    go_wp2
    go_ret
    exact⟨_,rfl,⟨zs,by rw[HWM.out];exact HK.out.len,own_low HK.out.rows (by omega),fun j hj=>by rw[HWM.out]at hj ⊢;exact own_low (HK.out.each j (by rw[HK.out.len];exact hj)) (by omega)⟩,HK.out.bel⟩
theorem walks_any (a:Option Addr) (cap:Nat) (C:List Cr) (loops:Int) (gF cF gT cT:Nat) (w:World) (hm:mayD C loops=true) (hD:Dr w a cap C gF gT):
    Calls Try.prog 72 #[drV a cap C loops gF cF gT cT] w fun e w'=>∃ v,e=.returned v/\NatsOwn w' w.heap.size v (walksM C)/\Below w.heap.size w w':=by
 have hmf:∀ (fn:Fn) (first cap:Array Value) (w:World),(Instr.makeFunc fn first cap).run Try.prog w=.ok (.func fn first cap) w:=fun _ _ _ _=>rfl
 have HM:=hidB hm
 have HB0:=hidB ((Below.refl _ _).alloc (Nat.le_refl _) _)
 have HD:=hidB (hD.on HB0.out)
 clear hm hD
 unfold drV
 go_enter Try.func72,Try.ntmps72
 go_wp2_with (go_at_call 96;refine(arcRings_ahead a cap C loops gF cF gT cT _ HM.out HD.out).mono ?_;rintro e9 w4 ⟨v,rfl,hn4,hb4⟩)
 go_ret
 exact⟨v,rfl,hn4.low (by simp),HB0.out.trans (hb4.mono (by simp))⟩
end Go.Proofs.Ytagaajlbkfkaiaa
/- The walk of drawing.Of. -/
namespace Go.Proofs.Ytagaajlbkfkaiaa
open Go.RowKit
set_option maxHeartbeats 8000000
set_option maxRecDepth 100000
theorem crs_some {w:World} {B:Nat} {ad:Option Addr} {cap:Nat} {C:List Cr} (h:Crs w B (.slice ad C.length cap) C) (hp:0<C.length):∃ b off,ad=some ⟨b,off,none⟩/\b<B/\CrossAt w b off C:=by
 obtain⟨a',cap',e,_,g⟩:=h
 injection e with e1 e2 e3
 obtain⟨b,off,h1,h2,h3⟩:=g hp
 exact⟨b,off,by rw[e1,h1],h2,h3⟩
theorem of_some (ad:Option Addr) (cap:Nat) (C:List Cr) (loops:Int) (w:World) (hs:sizeB C loops=true) (hC:Crs w w.heap.size (.slice ad C.length cap) C):
    Calls Try.prog 50 #[.agg #[.slice ad C.length cap,.int .i64 loops]] w fun e w'=>∃ d,e=.returned (.tuple #[d,.bool (mayD C loops)])/\Below w.heap.size w w'/\Drawn w w' w.heap.size (.slice ad C.length cap) loops C d:=by
 obtain⟨s1,s2,s3,s4⟩:=sizeB_iff hs
 have HC:Hid (Crs w w.heap.size (.slice ad C.length cap) C):=hC
 have HS:Hid (sizeB C loops=true):=hs
 clear hC hs
 have dA:decide (16<(C.length:Int))=false:=by simp;omega
 have dA2:decide (16<C.length)=false:=by simp;omega
 have dB:decide (loops<0)=false:=by simp;omega
 have dC:decide (16<loops)=false:=by simp;omega
 have dD:((C.length:Int)+loops==0)=false:=by rw[beq_eq_false_iff_ne];omega
 clear s4
 obtain⟨m,hm⟩:∃ m:Nat,m=2*C.length+1:=⟨_,rfl⟩
 have hmi:2*(C.length:Int)+1=(m:Int):=by omega
 have HMM:Hid (m=2*C.length+1):=hm
 have hm40:m<=40:=by omega
 clear hm
 have HM:Hid (0=0):=(rfl:0=0)
 go_enter Try.func50,Try.ntmps50
 go_wp2
 obtain⟨W0,hW0⟩:∃ W0,W0=((w.alloc (.cells #[.slice ad C.length cap,.int .i64 loops] 24)).alloc (.cells #[.slice none 0 0,.int .i64 0,.slice none 0 0,.slice none 0 0] 61)):=⟨_,rfl⟩
 rw[<-hW0]
 have hs0:W0.heap.size=w.heap.size+2:=by rw[hW0];simp
 have hT0:W0.heap[w.heap.size]?=some (.cells #[.slice ad C.length cap,.int .i64 loops] 24 (0,0)):=by
  rw[hW0]
  exact((World.grownBy_alloc _ _ none).block w.heap.size (by simp) (by simp)).trans Array.getElem?_push_size
 have hT1:W0.heap[w.heap.size+1]?=some (.cells #[.slice none 0 0,.int .i64 0,.slice none 0 0,.slice none 0 0] 61 (0,0)):=by
  rw[hW0]
  have e:w.heap.size+1=(w.alloc (.cells #[.slice ad C.length cap,.int .i64 loops] 24)).heap.size:=by simp
  rw[e]
  exact Array.getElem?_push_size
 have HB0:Hid (Below w.heap.size w W0):=(by rw[hW0];exact below2 _ _ _:Below w.heap.size w W0)
 have HT0:Hid (W0.heap[w.heap.size]?=some (.cells #[.slice ad C.length cap,.int .i64 loops] 24 (0,0))):=hT0
 have HT1:Hid (W0.heap[w.heap.size+1]?=some (.cells #[.slice none 0 0,.int .i64 0,.slice none 0 0,.slice none 0 0] 61 (0,0))):=hT1
 have k0:W0.cell? ⟨w.heap.size,0,none⟩=some (.slice ad C.length cap):=by unfold World.cell?;rw[hT0];rfl
 have k1:W0.cell? ⟨w.heap.size,1,none⟩=some (.int .i64 loops):=by unfold World.cell?;rw[hT0];rfl
 clear hW0 hT0 hT1
 have hwA:IntKind.i64.wrap (2*(C.length:Int))=2*(C.length:Int):=IntWalk.i64_in _ (by omega)
 have hwC:IntKind.i64.wrap (m:Int)=(m:Int):=IntWalk.i64_in _ (by omega)
 have hwB:IntKind.i64.wrap (2*(C.length:Int)+1)=(m:Int):=by rw[<-hmi];exact IntWalk.i64_in _ (by omega)
 go_region_held3 (fun w'=>w'.cell? ⟨w.heap.size,0,none⟩=some (.slice ad C.length cap)/\w'.cell? ⟨w.heap.size,1,none⟩=some (.int .i64 loops)) (first|exact⟨k30,k31⟩|exact⟨k20,k21⟩|exact⟨k0,k1⟩|exact⟨st4_cell (by omega) k30,st4_cell (by omega) k31⟩) (first
  |(go_at_call 74;clear HM;refine(unknown_any m _ hm40).mono ?_;rintro e9 w2 ⟨v2,rfl,hF,hb2⟩
     obtain⟨a2,c2,rfl⟩:=own_capS hF
     have HB2:Hid (Below W0.heap.size W0 w2):=(Below.refl _ _).drew.trans hb2
     have k20:=bcell HB2.out (by omega) k0
     have k21:=bcell HB2.out (by omega) k1
     clear hb2)
  |(go_at_call 74;refine(unknown_any m _ hm40).mono ?_;rintro e9 w3 ⟨v3,rfl,hT,hb3⟩
     obtain⟨a3,c3,rfl⟩:=own_capS hT
     have HB3:Hid (Below W0.heap.size W0 w3):=HB2.out.trans (hb3.mono HB2.out.size)
     have k30:=bcell HB3.out (by omega) k0
     have k31:=bcell HB3.out (by omega) k1
     have hT3:w3.heap[w.heap.size+1]?=some (.cells #[.slice none 0 0,.int .i64 0,.slice none 0 0,.slice none 0 0] 61 (0,0)):=(HB3.out.block _ (by omega)).trans HT1.out
     have g0:w3.cell? ⟨w.heap.size+1,0,none⟩=some (.slice none 0 0):=by unfold World.cell?;rw[hT3];rfl
     have g1:w3.cell? ⟨w.heap.size+1,1,none⟩=some (.int .i64 0):=by unfold World.cell?;rw[hT3];rfl
     have g2:w3.cell? ⟨w.heap.size+1,2,none⟩=some (.slice none 0 0):=by unfold World.cell?;rw[hT3];rfl
     have g3:w3.cell? ⟨w.heap.size+1,3,none⟩=some (.slice none 0 0):=by unfold World.cell?;rw[hT3];rfl
     have f0:w3.frozen? ⟨w.heap.size+1,0,none⟩=false:=by simp[World.frozen?,hT3]
     have f1:w3.frozen? ⟨w.heap.size+1,1,none⟩=false:=by simp[World.frozen?,hT3]
     have f2:w3.frozen? ⟨w.heap.size+1,2,none⟩=false:=by simp[World.frozen?,hT3]
     have f3:w3.frozen? ⟨w.heap.size+1,3,none⟩=false:=by simp[World.frozen?,hT3]
     have HB23:Hid (Below w2.heap.size w2 w3):=hb3
     have HT3:Hid (w3.heap[w.heap.size+1]?=some (.cells #[.slice none 0 0,.int .i64 0,.slice none 0 0,.slice none 0 0] 61 (0,0))):=hT3
     clear hb3 hT3))
 have HST:Hid (∃ gF cF gT cT,.slice a2 m c2=Value.slice (some ⟨gF,0,none⟩) (2*C.length+1) cF/\.slice a3 m c3=Value.slice (some ⟨gT,0,none⟩) (2*C.length+1) cT/\
     OfAt w.heap.size gF cF gT cT (.slice ad C.length cap) loops C 0 0 (st4 w3 (w.heap.size+1) (.slice ad C.length cap) (.int .i64 loops) (.slice a2 m c2) (.slice a3 m c3))):=by
  show ∃ gF cF gT cT,.slice a2 m c2=Value.slice (some ⟨gF,0,none⟩) (2*C.length+1) cF/\.slice a3 m c3=Value.slice (some ⟨gT,0,none⟩) (2*C.length+1) cT/\
   OfAt w.heap.size gF cF gT cT (.slice ad C.length cap) loops C 0 0 (st4 w3 (w.heap.size+1) (.slice ad C.length cap) (.int .i64 loops) (.slice a2 m c2) (.slice a3 m c3))
  have hm:=HMM.out
  obtain⟨gF,cF,hvF,hF1,hF2⟩:=own_block hF (by omega)
  obtain⟨gT,cT,hvT,hT1,hT2⟩:=own_block hT (by omega)
  have e0:W0.drew.heap.size=w.heap.size+2:=hs0
  have hg:=st4_grown w3 (w.heap.size+1) (.slice ad C.length cap) (.int .i64 loops) (.slice a2 m c2) (.slice a3 m c3)
  have hF3:=own_any hF (grown_below HB23.out none)
  rw[hvF]at hF3 hg ⊢
  rw[hvT]at hT hg ⊢
  rw[e0]at hF3 hF1
  have hsz2:=HB2.out.size
  refine⟨gF,cF,gT,cT,by rw[hm],by rw[hm],⟨?_,?_,?_,?_,by omega⟩⟩
  · exact(hg.block _ (by have:=HB3.out.size;omega) (fun e=>by have:=Option.some.inj e;omega)).trans ((HB3.out.block _ (by omega)).trans HT0.out)
  · have:=st4_block (a:=.slice ad C.length cap) (b:=.int .i64 loops) (c:=.slice (some ⟨gF,0,none⟩) m cF) (d:=.slice (some ⟨gT,0,none⟩) m cT) HT3.out
    rw[<-hm]
    exact this
  · rw[ends_start,<-hm]
    exact hF3.kept hg (Or.inr (fun e=>by have:gF=w.heap.size+1:=Option.some.inj e;omega))
  · rw[ends_start,<-hm]
    exact(own_low hT (by omega)).kept hg (Or.inr (fun e=>by have:gT=w.heap.size+1:=Option.some.inj e;omega))
 have HBX:Hid (Below w.heap.size w (st4 w3 (w.heap.size+1) (.slice ad C.length cap) (.int .i64 loops) (.slice a2 m c2) (.slice a3 m c3))):=
  (HB0.out.trans (HB3.out.mono (by omega))).grown (st4_grown _ _ _ _ _ _) (by have:=HB3.out.size;omega) (fun k hk=>by have:=Option.some.inj hk;omega)
 clear hF hT HB2 HB3 HB23 HT3 HT0 HT1 HB0 k0 k1 k20 k21 k30 k31 g0 g1 g2 g3 f0 f1 f2 f3 hwA hwB hwC hmi hm40
 obtain⟨X,hX⟩:∃ X,X=st4 w3 (w.heap.size+1) (.slice ad C.length cap) (.int .i64 loops) (.slice a2 m c2) (.slice a3 m c3):=⟨_,rfl⟩
 rw[<-hX]at HST HBX
 unfold st4 at hX
 rw[<-hX]
 obtain⟨gF,cF,gT,cT,hvF,hvT,HOF⟩:=HST.out
 have HO0:Hid (OfAt w.heap.size gF cF gT cT (.slice ad C.length cap) loops C 0 0 X):=HOF
 have x0:X.cell? ⟨w.heap.size,0,none⟩=some (.slice ad C.length cap):=block_cell HO0.out.dia rfl
 have hszX:w.heap.size+2<=X.heap.size:=by have:=(HO0.out.to.lt gT rfl);omega
 clear hX HOF HST
 rw[hvF,hvT]
 clear hvF hvT
 go_wp2
 go_loopw [46] (fun v46 wr=>∃ i:Nat,i<=C.length/\v46=.int .i64 i/\OfAt w.heap.size gF cF gT cT (.slice ad C.length cap) loops C i 0 wr/\Hid (∀ i' k':Nat,i'<i->k'<4->fit C i' k')/\Below w.heap.size w wr) (fun v46 _=>C.length-(intOf v46).toNat)
 case atStart=>exact⟨0,Nat.zero_le _,rfl,HO0.out,fun i' k' hi=>absurd hi (Nat.not_lt_zero _),HBX.out⟩
 case round=>
  clear x0 HO0 HBX
  rename World=>W1
  obtain⟨i,hi,rfl,hof,hfit,hb⟩:=hrel
  have hszW:=hb.size
  have hgT:=hof.to.lt gT rfl
  have hgF:=hof.from_.lt gF rfl
  by_cases hil:i<C.length
  · obtain⟨b,off,e3,hbw,hC⟩:=crs_some HC.out (by omega)
    subst e3
    obtain⟨c0,c1,c2,c3,c4⟩:=(hC.on hb hbw) i hil
    clear hC
    have HXX:Hid (∀ k,(C.getD i Cr.none).arc k=(C.getD i Cr.none).arc k):=fun _=>rfl
    obtain⟨x,hx⟩:∃ x,C.getD i Cr.none=x:=⟨_,rfl⟩
    rw[hx]at c0 c1 c2 c3 c4
    have HX:Hid (C.getD i Cr.none=x):=hx
    clear hx HXX
    have hbr:b<W1.heap.size:=by omega
    have hdi:decide ((i:Int)<(C.length:Int))=true:=by simp;omega
    have hdi2:decide (i<C.length)=true:=by simp;omega
    go_wp2_with (go_at_call 75;refine(arcs_any x _).mono ?_;rintro e9 w4 ⟨rfl,hb4⟩;refine Hid.out ?_)
    refine Lib.hid ?_
    have HB4:Hid (Below w.heap.size w w4):=(hb.alloc hszW _).trans (hb4.mono (by simp;omega))
    have HO4:Hid (OfAt w.heap.size gF cF gT cT (.slice (some ⟨b,off,none⟩) C.length cap) loops C i 0 w4):=hof.on (((Below.refl _ _).alloc (Nat.le_refl _) _).trans (hb4.mono (by simp))) (by omega)
    have HCB:Hid (w4.heap[W1.heap.size]?=some (.cells #[.int .i64 x.a,.int .i64 x.b,.int .i64 x.c,.int .i64 x.d,.bool x.plus] 71 (0,0))):=(hb4.block _ (by simp)).trans Array.getElem?_push_size
    clear hb4 c0 c1 c2 c3 c4
    go_wp2
    go_loopw [53] (fun v53 ws=>∃ k:Nat,k<=4/\v53=.int .i64 k/\OfAt w.heap.size gF cF gT cT (.slice (some ⟨b,off,none⟩) C.length cap) loops C i k ws/\Hid (∀ k':Nat,k'<k->fit C i k')/\Below w.heap.size w ws/\ws.heap[W1.heap.size]?=some (.cells #[.int .i64 x.a,.int .i64 x.b,.int .i64 x.c,.int .i64 x.d,.bool x.plus] 71 (0,0))) (fun v53 _=>4-(intOf v53).toNat)
    case atStart=>exact⟨0,Nat.zero_le _,rfl,HO4.out,fun k' hk=>absurd hk (Nat.not_lt_zero _),HB4.out,HCB.out⟩
    case round=>
     clear HB4 HO4 HCB hof hb
     rename World=>W3
     obtain⟨k,hk,rfl,hof,hfk,hb,hcb⟩:=hrel
     by_cases hkl:k<4
     · have HOF:Hid (OfAt w.heap.size gF cF gT cT (.slice (some ⟨b,off,none⟩) C.length cap) loops C i k W3):=hof
       have HCB:Hid (W3.heap[W1.heap.size]?=some (.cells #[.int .i64 x.a,.int .i64 x.b,.int .i64 x.c,.int .i64 x.d,.bool x.plus] 71 (0,0))):=hcb
       have HBB:Hid (Below w.heap.size w W3):=hb
       have q0:W3.cell? ⟨W1.heap.size,0,none⟩=some (.int .i64 x.a):=block_cell hcb rfl
       have q1:W3.cell? ⟨W1.heap.size,1,none⟩=some (.int .i64 x.b):=block_cell hcb rfl
       have q2:W3.cell? ⟨W1.heap.size,2,none⟩=some (.int .i64 x.c):=block_cell hcb rfl
       have q3:W3.cell? ⟨W1.heap.size,3,none⟩=some (.int .i64 x.d):=block_cell hcb rfl
       have q4:W3.cell? ⟨W1.heap.size,4,none⟩=some (.bool x.plus):=block_cell hcb rfl
       have d2:W3.cell? ⟨w.heap.size+1,2,none⟩=some (.slice (some ⟨gF,0,none⟩) (2*C.length+1) cF):=block_cell hof.dra rfl
       have d3:W3.cell? ⟨w.heap.size+1,3,none⟩=some (.slice (some ⟨gT,0,none⟩) (2*C.length+1) cT):=block_cell hof.dra rfl
       clear hof hcb hb
       have hdk:decide ((k:Int)<4)=true:=by simp;omega
       have hdk2:decide (k<4)=true:=by simp;omega
       have hcl:W1.heap.size<W3.heap.size:=by
        rcases Nat.lt_or_ge W1.heap.size W3.heap.size with h|h
        · exact h
        · rw[Array.getElem?_eq_none h]at HCB;cases HCB.out
       have hix:=index_arr x k hkl
       obtain⟨av,hav⟩:∃ av,x.arc k=av:=⟨_,rfl⟩
       obtain⟨cv,hcv⟩:∃ cv,x.comes k=cv:=⟨_,rfl⟩
       have HAV:Hid (x.arc k=av):=hav
       have HCV:Hid (x.comes k=cv):=hcv
       rw[hav]at hix
       clear hav hcv
       cases cv with
       |true=>
        go_wp2_with (go_at_call 76;refine(comesIn_any x k _ hkl).mono ?_;rw[HCV.out];rintro e9 w5 ⟨rfl,hb5⟩;refine Hid.out ?_)
        refine Lib.hid ?_
        have HO5:Hid (OfAt w.heap.size gF cF gT cT (.slice (some ⟨b,off,none⟩) C.length cap) loops C i k w5):=HOF.out.on hb5 (by omega)
        have HB5:Hid (Below w.heap.size w w5):=HBB.out.trans (hb5.mono HBB.out.size)
        have HC5:Hid (w5.heap[W1.heap.size]?=some (.cells #[.int .i64 x.a,.int .i64 x.b,.int .i64 x.c,.int .i64 x.d,.bool x.plus] 71 (0,0))):=(hb5.block _ hcl).trans HCB.out
        have hs5:W3.heap.size<=w5.heap.size:=hb5.size
        clear hb5 q0 q1 q2 q3 q4 d2 d3
        have d0:w5.cell? ⟨w.heap.size+1,0,none⟩=some (.slice (some ⟨b,off,none⟩) C.length cap):=block_cell HO5.out.dra rfl
        have d1:w5.cell? ⟨w.heap.size+1,1,none⟩=some (.int .i64 loops):=block_cell HO5.out.dra rfl
        have d2:w5.cell? ⟨w.heap.size+1,2,none⟩=some (.slice (some ⟨gF,0,none⟩) (2*C.length+1) cF):=block_cell HO5.out.dra rfl
        have d3:w5.cell? ⟨w.heap.size+1,3,none⟩=some (.slice (some ⟨gT,0,none⟩) (2*C.length+1) cT):=block_cell HO5.out.dra rfl
        have f0:w5.frozen? ⟨w.heap.size+1,0,none⟩=false:=block_frozen HO5.out.dra
        have f1:w5.frozen? ⟨w.heap.size+1,1,none⟩=false:=block_frozen HO5.out.dra
        have f2:w5.frozen? ⟨w.heap.size+1,2,none⟩=false:=block_frozen HO5.out.dra
        have f3:w5.frozen? ⟨w.heap.size+1,3,none⟩=false:=block_frozen HO5.out.dra
        have hw2:IntKind.i64.wrap (2*(C.length:Int))=2*(C.length:Int):=IntWalk.i64_in _ (by omega)
        by_cases hlo:av<1
        · have HN:Hid (mayD C loops=false):=unfit_no hil hkl (fun h=>by have:=h.1;rw[HX.out,HAV.out]at this;omega)
          have hd:decide (av<1)=true:=by simp;omega
          go_wp2
          have hX:=st4_block (a:=.slice none 0 0) (b:=.int .i64 0) (c:=.slice none 0 0) (d:=.slice none 0 0) HO5.out.dra
          unfold st4 at hX
          have x0:=block_cell (i:=0) (v:=.slice none 0 0) hX rfl
          have x1:=block_cell (i:=1) (v:=.int .i64 0) hX rfl
          have x2:=block_cell (i:=2) (v:=.slice none 0 0) hX rfl
          have x3:=block_cell (i:=3) (v:=.slice none 0 0) hX rfl
          exact bodyPost_ret (v:=.tuple #[noDrawing,.bool false]) (by simp[results,Try.results50,go_sem,noDrawing,x0,x1,x2,x3]) rfl ⟨noDrawing,by rw[HN.out],HB5.out.grown (st4_grown w5 (w.heap.size+1) (.slice none 0 0) (.int .i64 0) (.slice none 0 0) (.slice none 0 0)) HB5.out.size (fun q hq=>by have:=Option.some.inj hq;omega),⟨fun _=>rfl,fun h=>by rw[HN.out]at h;cases h⟩⟩
        · by_cases hhi:2*(C.length:Int)<av
          · have HN:Hid (mayD C loops=false):=unfit_no hil hkl (fun h=>by have:=h.2.1;rw[HX.out,HAV.out]at this;omega)
            have hd1:decide (av<1)=false:=by simp;omega
            have hd:decide (2*(C.length:Int)<av)=true:=by simp;omega
            go_wp2
            have hX:=st4_block (a:=.slice none 0 0) (b:=.int .i64 0) (c:=.slice none 0 0) (d:=.slice none 0 0) HO5.out.dra
            unfold st4 at hX
            have x0:=block_cell (i:=0) (v:=.slice none 0 0) hX rfl
            have x1:=block_cell (i:=1) (v:=.int .i64 0) hX rfl
            have x2:=block_cell (i:=2) (v:=.slice none 0 0) hX rfl
            have x3:=block_cell (i:=3) (v:=.slice none 0 0) hX rfl
            exact bodyPost_ret (v:=.tuple #[noDrawing,.bool false]) (by simp[results,Try.results50,go_sem,noDrawing,x0,x1,x2,x3]) rfl ⟨noDrawing,by rw[HN.out],HB5.out.grown (st4_grown w5 (w.heap.size+1) (.slice none 0 0) (.int .i64 0) (.slice none 0 0) (.slice none 0 0)) HB5.out.size (fun q hq=>by have:=Option.some.inj hq;omega),⟨fun _=>rfl,fun h=>by rw[HN.out]at h;cases h⟩⟩
          · obtain⟨a,rfl⟩:∃ a:Nat,av=(a:Int):=⟨av.toNat,by omega⟩
            have hd1:decide ((a:Int)<1)=false:=by simp;omega
            have hd2:decide (2*(C.length:Int)<(a:Int))=false:=by simp;omega
            have hal:a<2*C.length+1:=by omega
            have e0:w5.cell? ⟨gT,a*2,none⟩=some (.int .i64 (endAh C a true i k).1):=by
             rw[HO5.out.to.cellAt (a*2) (by omega),flat_cellE _ a (by rw[ends_length];omega),ends_at C true i k a (by omega) (by omega)]
            have e1:w5.cell? ⟨gT,a*2+1,none⟩=some (.int .i64 (endAh C a true i k).2):=by
             rw[HO5.out.to.cellAt (a*2+1) (by omega),flat_cellC _ a (by rw[ends_length];omega),ends_at C true i k a (by omega) (by omega)]
            have z0:w5.frozen? ⟨gT,a*2,none⟩=false:=HO5.out.to.frozenAt (a*2)
            have z1:w5.frozen? ⟨gT,a*2+1,none⟩=false:=HO5.out.to.frozenAt (a*2+1)
            have hgl:gT<w5.heap.size:=(HO5.out.to.lt gT rfl).2
            have HFR:Hid ((endAh C a true i k).1 = -1↔ahd C a true i k=0):=endAh_free C a true i k (by omega)
            generalize (endAh C a true i k).1=u at e0 HFR
            generalize (endAh C a true i k).2=u2 at e1
            by_cases hu:u = -1
            · subst hu
              have HFT:Hid (fit C i k):=⟨by rw[HX.out,HAV.out];omega,by rw[HX.out,HAV.out];omega,by rw[HX.out,HAV.out,HCV.out];exact HFR.out.1 rfl⟩
              have HNX:Hid (OfAt w.heap.size gF cF gT cT (.slice (some ⟨b,off,none⟩) C.length cap) loops C i (k+1) (st2 w5 gT (a*2) (.int .i64 (i:Nat)) (.int .i64 (k:Nat)))):=HO5.out.storeT (by omega) (by omega) (by rw[HX.out];exact HCV.out) (by rw[HX.out];exact HAV.out)
              clear d0 d1 d2 f0 f1 f2 f3
              go_wp2
              go_roundw
              case rel=>
               refine⟨k+1,by omega,by go_num,HNX.out,fun k' hk'=>?_,HB5.out.grown (st2_grown w5 gT (a*2) (.int .i64 (i:Nat)) (.int .i64 (k:Nat))) HB5.out.size (fun q hq=>by have:=Option.some.inj hq;omega),((st2_grown w5 gT (a*2) (.int .i64 (i:Nat)) (.int .i64 (k:Nat))).block _ (by omega) (fun e=>by have:=Option.some.inj e;omega)).trans HC5.out⟩
               by_cases e:k'=k
               · rw[e];exact HFT.out
               · exact hfk.out k' (by omega)
              case measure=>simp only[intOf];omega
            · have HN:Hid (mayD C loops=false):=unfit_no hil hkl (fun h=>by have:=h.2.2;rw[HX.out,HAV.out,HCV.out]at this;exact hu (HFR.out.2 this))
              have hd:(u != -1)=true:=by rw[bne_iff_ne];exact hu
              go_wp2
              have hX:=st4_block (a:=.slice none 0 0) (b:=.int .i64 0) (c:=.slice none 0 0) (d:=.slice none 0 0) HO5.out.dra
              unfold st4 at hX
              have x0:=block_cell (i:=0) (v:=.slice none 0 0) hX rfl
              have x1:=block_cell (i:=1) (v:=.int .i64 0) hX rfl
              have x2:=block_cell (i:=2) (v:=.slice none 0 0) hX rfl
              have x3:=block_cell (i:=3) (v:=.slice none 0 0) hX rfl
              exact bodyPost_ret (v:=.tuple #[noDrawing,.bool false]) (by simp[results,Try.results50,go_sem,noDrawing,x0,x1,x2,x3]) rfl ⟨noDrawing,by rw[HN.out],HB5.out.grown (st4_grown w5 (w.heap.size+1) (.slice none 0 0) (.int .i64 0) (.slice none 0 0) (.slice none 0 0)) HB5.out.size (fun q hq=>by have:=Option.some.inj hq;omega),⟨fun _=>rfl,fun h=>by rw[HN.out]at h;cases h⟩⟩
       |false=>
        go_wp2_with (go_at_call 76;refine(comesIn_any x k _ hkl).mono ?_;rw[HCV.out];rintro e9 w5 ⟨rfl,hb5⟩;refine Hid.out ?_)
        refine Lib.hid ?_
        have HO5:Hid (OfAt w.heap.size gF cF gT cT (.slice (some ⟨b,off,none⟩) C.length cap) loops C i k w5):=HOF.out.on hb5 (by omega)
        have HB5:Hid (Below w.heap.size w w5):=HBB.out.trans (hb5.mono HBB.out.size)
        have HC5:Hid (w5.heap[W1.heap.size]?=some (.cells #[.int .i64 x.a,.int .i64 x.b,.int .i64 x.c,.int .i64 x.d,.bool x.plus] 71 (0,0))):=(hb5.block _ hcl).trans HCB.out
        have hs5:W3.heap.size<=w5.heap.size:=hb5.size
        clear hb5 q0 q1 q2 q3 q4 d2 d3
        have d0:w5.cell? ⟨w.heap.size+1,0,none⟩=some (.slice (some ⟨b,off,none⟩) C.length cap):=block_cell HO5.out.dra rfl
        have d1:w5.cell? ⟨w.heap.size+1,1,none⟩=some (.int .i64 loops):=block_cell HO5.out.dra rfl
        have d2:w5.cell? ⟨w.heap.size+1,2,none⟩=some (.slice (some ⟨gF,0,none⟩) (2*C.length+1) cF):=block_cell HO5.out.dra rfl
        have d3:w5.cell? ⟨w.heap.size+1,3,none⟩=some (.slice (some ⟨gT,0,none⟩) (2*C.length+1) cT):=block_cell HO5.out.dra rfl
        have f0:w5.frozen? ⟨w.heap.size+1,0,none⟩=false:=block_frozen HO5.out.dra
        have f1:w5.frozen? ⟨w.heap.size+1,1,none⟩=false:=block_frozen HO5.out.dra
        have f2:w5.frozen? ⟨w.heap.size+1,2,none⟩=false:=block_frozen HO5.out.dra
        have f3:w5.frozen? ⟨w.heap.size+1,3,none⟩=false:=block_frozen HO5.out.dra
        have hw2:IntKind.i64.wrap (2*(C.length:Int))=2*(C.length:Int):=IntWalk.i64_in _ (by omega)
        by_cases hlo:av<1
        · have HN:Hid (mayD C loops=false):=unfit_no hil hkl (fun h=>by have:=h.1;rw[HX.out,HAV.out]at this;omega)
          have hd:decide (av<1)=true:=by simp;omega
          go_wp2
          have hX:=st4_block (a:=.slice none 0 0) (b:=.int .i64 0) (c:=.slice none 0 0) (d:=.slice none 0 0) HO5.out.dra
          unfold st4 at hX
          have x0:=block_cell (i:=0) (v:=.slice none 0 0) hX rfl
          have x1:=block_cell (i:=1) (v:=.int .i64 0) hX rfl
          have x2:=block_cell (i:=2) (v:=.slice none 0 0) hX rfl
          have x3:=block_cell (i:=3) (v:=.slice none 0 0) hX rfl
          exact bodyPost_ret (v:=.tuple #[noDrawing,.bool false]) (by simp[results,Try.results50,go_sem,noDrawing,x0,x1,x2,x3]) rfl ⟨noDrawing,by rw[HN.out],HB5.out.grown (st4_grown w5 (w.heap.size+1) (.slice none 0 0) (.int .i64 0) (.slice none 0 0) (.slice none 0 0)) HB5.out.size (fun q hq=>by have:=Option.some.inj hq;omega),⟨fun _=>rfl,fun h=>by rw[HN.out]at h;cases h⟩⟩
        · by_cases hhi:2*(C.length:Int)<av
          · have HN:Hid (mayD C loops=false):=unfit_no hil hkl (fun h=>by have:=h.2.1;rw[HX.out,HAV.out]at this;omega)
            have hd1:decide (av<1)=false:=by simp;omega
            have hd:decide (2*(C.length:Int)<av)=true:=by simp;omega
            go_wp2
            have hX:=st4_block (a:=.slice none 0 0) (b:=.int .i64 0) (c:=.slice none 0 0) (d:=.slice none 0 0) HO5.out.dra
            unfold st4 at hX
            have x0:=block_cell (i:=0) (v:=.slice none 0 0) hX rfl
            have x1:=block_cell (i:=1) (v:=.int .i64 0) hX rfl
            have x2:=block_cell (i:=2) (v:=.slice none 0 0) hX rfl
            have x3:=block_cell (i:=3) (v:=.slice none 0 0) hX rfl
            exact bodyPost_ret (v:=.tuple #[noDrawing,.bool false]) (by simp[results,Try.results50,go_sem,noDrawing,x0,x1,x2,x3]) rfl ⟨noDrawing,by rw[HN.out],HB5.out.grown (st4_grown w5 (w.heap.size+1) (.slice none 0 0) (.int .i64 0) (.slice none 0 0) (.slice none 0 0)) HB5.out.size (fun q hq=>by have:=Option.some.inj hq;omega),⟨fun _=>rfl,fun h=>by rw[HN.out]at h;cases h⟩⟩
          · obtain⟨a,rfl⟩:∃ a:Nat,av=(a:Int):=⟨av.toNat,by omega⟩
            have hd1:decide ((a:Int)<1)=false:=by simp;omega
            have hd2:decide (2*(C.length:Int)<(a:Int))=false:=by simp;omega
            have hal:a<2*C.length+1:=by omega
            have e0:w5.cell? ⟨gF,a*2,none⟩=some (.int .i64 (endAh C a false i k).1):=by
             rw[HO5.out.from_.cellAt (a*2) (by omega),flat_cellE _ a (by rw[ends_length];omega),ends_at C false i k a (by omega) (by omega)]
            have e1:w5.cell? ⟨gF,a*2+1,none⟩=some (.int .i64 (endAh C a false i k).2):=by
             rw[HO5.out.from_.cellAt (a*2+1) (by omega),flat_cellC _ a (by rw[ends_length];omega),ends_at C false i k a (by omega) (by omega)]
            have z0:w5.frozen? ⟨gF,a*2,none⟩=false:=HO5.out.from_.frozenAt (a*2)
            have z1:w5.frozen? ⟨gF,a*2+1,none⟩=false:=HO5.out.from_.frozenAt (a*2+1)
            have hgl:gF<w5.heap.size:=(HO5.out.from_.lt gF rfl).2
            have HFR:Hid ((endAh C a false i k).1 = -1↔ahd C a false i k=0):=endAh_free C a false i k (by omega)
            generalize (endAh C a false i k).1=u at e0 HFR
            generalize (endAh C a false i k).2=u2 at e1
            by_cases hu:u = -1
            · subst hu
              have HFT:Hid (fit C i k):=⟨by rw[HX.out,HAV.out];omega,by rw[HX.out,HAV.out];omega,by rw[HX.out,HAV.out,HCV.out];exact HFR.out.1 rfl⟩
              have HNX:Hid (OfAt w.heap.size gF cF gT cT (.slice (some ⟨b,off,none⟩) C.length cap) loops C i (k+1) (st2 w5 gF (a*2) (.int .i64 (i:Nat)) (.int .i64 (k:Nat)))):=HO5.out.storeF (by omega) (by omega) (by rw[HX.out];exact HCV.out) (by rw[HX.out];exact HAV.out)
              clear d0 d1 d2 f0 f1 f2 f3
              go_wp2
              go_roundw
              case rel=>
               refine⟨k+1,by omega,by go_num,HNX.out,fun k' hk'=>?_,HB5.out.grown (st2_grown w5 gF (a*2) (.int .i64 (i:Nat)) (.int .i64 (k:Nat))) HB5.out.size (fun q hq=>by have:=Option.some.inj hq;omega),((st2_grown w5 gF (a*2) (.int .i64 (i:Nat)) (.int .i64 (k:Nat))).block _ (by omega) (fun e=>by have:=Option.some.inj e;omega)).trans HC5.out⟩
               by_cases e:k'=k
               · rw[e];exact HFT.out
               · exact hfk.out k' (by omega)
              case measure=>simp only[intOf];omega
            · have HN:Hid (mayD C loops=false):=unfit_no hil hkl (fun h=>by have:=h.2.2;rw[HX.out,HAV.out,HCV.out]at this;exact hu (HFR.out.2 this))
              have hd:(u != -1)=true:=by rw[bne_iff_ne];exact hu
              go_wp2
              have hX:=st4_block (a:=.slice none 0 0) (b:=.int .i64 0) (c:=.slice none 0 0) (d:=.slice none 0 0) HO5.out.dra
              unfold st4 at hX
              have x0:=block_cell (i:=0) (v:=.slice none 0 0) hX rfl
              have x1:=block_cell (i:=1) (v:=.int .i64 0) hX rfl
              have x2:=block_cell (i:=2) (v:=.slice none 0 0) hX rfl
              have x3:=block_cell (i:=3) (v:=.slice none 0 0) hX rfl
              exact bodyPost_ret (v:=.tuple #[noDrawing,.bool false]) (by simp[results,Try.results50,go_sem,noDrawing,x0,x1,x2,x3]) rfl ⟨noDrawing,by rw[HN.out],HB5.out.grown (st4_grown w5 (w.heap.size+1) (.slice none 0 0) (.int .i64 0) (.slice none 0 0) (.slice none 0 0)) HB5.out.size (fun q hq=>by have:=Option.some.inj hq;omega),⟨fun _=>rfl,fun h=>by rw[HN.out]at h;cases h⟩⟩
     · obtain rfl:k=4:=by omega
       go_wp2
       go_roundw
       case rel=>
        refine⟨i+1,by omega,by go_num,hof.row,fun i' k' hi' hk'=>?_,hb⟩
        by_cases e:i'=i
        · rw[e];exact hfk.out k' hk'
        · exact hfit.out i' k' (by omega) hk'
       case measure=>simp only[intOf];omega
  · obtain rfl:i=C.length:=by omega
    have HY:Hid (mayD C loops=true):=fit_yes HS.out (fun i' k' hi' hk'=>hfit.out i' k' hi' hk')
    have HOF:Hid (OfAt w.heap.size gF cF gT cT (.slice ad C.length cap) loops C C.length 0 W1):=hof
    have d0:W1.cell? ⟨w.heap.size+1,0,none⟩=some (.slice ad C.length cap):=block_cell hof.dra rfl
    have d1:W1.cell? ⟨w.heap.size+1,1,none⟩=some (.int .i64 loops):=block_cell hof.dra rfl
    have d2:W1.cell? ⟨w.heap.size+1,2,none⟩=some (.slice (some ⟨gF,0,none⟩) (2*C.length+1) cF):=block_cell hof.dra rfl
    have d3:W1.cell? ⟨w.heap.size+1,3,none⟩=some (.slice (some ⟨gT,0,none⟩) (2*C.length+1) cT):=block_cell hof.dra rfl
    have f0:W1.frozen? ⟨w.heap.size+1,0,none⟩=false:=block_frozen hof.dra
    have f1:W1.frozen? ⟨w.heap.size+1,1,none⟩=false:=block_frozen hof.dra
    have f2:W1.frozen? ⟨w.heap.size+1,2,none⟩=false:=block_frozen hof.dra
    have f3:W1.frozen? ⟨w.heap.size+1,3,none⟩=false:=block_frozen hof.dra
    clear hof
    have hdn:decide ((C.length:Int)<(C.length:Int))=false:=by simp
    go_wp2
    have hX:=st4_block (a:=.slice ad C.length cap) (b:=.int .i64 loops) (c:=.slice (some ⟨gF,0,none⟩) (2*C.length+1) cF) (d:=.slice (some ⟨gT,0,none⟩) (2*C.length+1) cT) HOF.out.dra
    have hG:=st4_grown W1 (w.heap.size+1) (.slice ad C.length cap) (.int .i64 loops) (.slice (some ⟨gF,0,none⟩) (2*C.length+1) cF) (.slice (some ⟨gT,0,none⟩) (2*C.length+1) cT)
    have HGR:Hid (W1.grownBy (st4 W1 (w.heap.size+1) (.slice ad C.length cap) (.int .i64 loops) (.slice (some ⟨gF,0,none⟩) (2*C.length+1) cF) (.slice (some ⟨gT,0,none⟩) (2*C.length+1) cT)) (some (w.heap.size+1))):=hG
    clear hG
    unfold st4 at hX
    have x0:=block_cell (i:=0) (v:=.slice ad C.length cap) hX rfl
    have x1:=block_cell (i:=1) (v:=.int .i64 loops) hX rfl
    have x2:=block_cell (i:=2) (v:=.slice (some ⟨gF,0,none⟩) (2*C.length+1) cF) hX rfl
    have x3:=block_cell (i:=3) (v:=.slice (some ⟨gT,0,none⟩) (2*C.length+1) cT) hX rfl
    refine bodyPost_ret (v:=.tuple #[.agg #[.slice ad C.length cap,.int .i64 loops,.slice (some ⟨gF,0,none⟩) (2*C.length+1) cF,.slice (some ⟨gT,0,none⟩) (2*C.length+1) cT],.bool true]) (by simp[results,Try.results50,go_sem,x0,x1,x2,x3]) rfl ⟨_,by rw[HY.out],hb.grown HGR.out hb.size (fun q hq=>by have:=Option.some.inj hq;omega),⟨fun h=>(by rw[HY.out]at h;cases h),fun _=>⟨gF,cF,gT,cT,rfl,?_,?_⟩⟩⟩
    · exact own_low (HOF.out.from_.kept HGR.out (Or.inr (fun e=>by have:gF=w.heap.size+1:=Option.some.inj e;omega))) (by omega)
    · exact own_low (HOF.out.to.kept HGR.out (Or.inr (fun e=>by have:gT=w.heap.size+1:=Option.some.inj e;omega))) (by omega)
theorem of_any (v:Value) (C:List Cr) (loops:Int) (w:World) (h:Crs w w.heap.size v C):
    Calls Try.prog 50 #[.agg #[v,.int .i64 loops]] w fun e w'=>∃ d,e=.returned (.tuple #[d,.bool (mayD C loops)])/\Below w.heap.size w w'/\Drawn w w' w.heap.size v loops C d:=by
 cases hs:sizeB C loops with
 |false=>
  refine(of_size v C loops w h hs).mono ?_
  rintro e w' ⟨rfl,hb⟩
  have hN:=mayD_size hs
  exact⟨noDrawing,by rw[hN],hb,⟨fun _=>rfl,fun h=>(by rw[hN]at h;cases h)⟩⟩
 |true=>
  have h':=h
  obtain⟨a,cap,rfl,hn,g⟩:=h
  exact of_some a cap C loops w hs h'
end Go.Proofs.Ytagaajlbkfkaiaa
/- The walks of ref.DiagramOf and gauss.Strands; rows that are the same. -/
namespace Go.Proofs.Ytagaajlbkfkaiaa
open Go.RowKit
set_option maxHeartbeats 2000000
set_option maxRecDepth 100000
def crossCells (C:List Cr):List Value:=C.flatMap fun x=>[.int .i64 x.a,.int .i64 x.b,.int .i64 x.c,.int .i64 x.d,.bool x.plus]
theorem cells_get (C:List Cr) (i:Nat) (hi:i<C.length):(crossCells C)[i*5]?=some (.int .i64 (C.getD i Cr.none).a)/\(crossCells C)[i*5+1]?=some (.int .i64 (C.getD i Cr.none).b)/\(crossCells C)[i*5+2]?=some (.int .i64 (C.getD i Cr.none).c)/\(crossCells C)[i*5+3]?=some (.int .i64 (C.getD i Cr.none).d)/\(crossCells C)[i*5+4]?=some (.bool (C.getD i Cr.none).plus):=by
 induction C generalizing i with
 |nil=>simp at hi
 |cons t l ih=>
  have e:crossCells (t::l)=.int .i64 t.a::.int .i64 t.b::.int .i64 t.c::.int .i64 t.d::.bool t.plus::crossCells l:=rfl
  cases i with
  |zero=>rw[e];exact⟨rfl,rfl,rfl,rfl,rfl⟩
  |succ i=>
   have:=ih i (by simpa using hi)
   have e1:(i+1)*5=i*5+1+1+1+1+1:=by omega
   rw[e,e1]
   exact this
theorem cells_one (C:List Cr):∀ u∈crossCells C,u.oneCell'=true:=by
 intro u hu
 simp only[crossCells,List.mem_flatMap]at hu
 obtain⟨t,_,ht⟩:=hu
 simp at ht
 rcases ht with rfl|rfl|rfl|rfl|rfl<;>rfl
theorem crs_own {w:World} {B e:Nat} {v:Value} {C:List Cr} (h:w.ownsRow B e 5 v C.length (crossCells C)) (hn:C.length<=maxLen):Crs w w.heap.size v C:=by
 have h0:=h
 rcases h.2 with⟨rfl,h1⟩|⟨g,cap,cur,rfl,_,_,_⟩
 · exact⟨none,0,by rw[h1],hn,fun hp=>by omega⟩
 · refine⟨some ⟨g,0,none⟩,cap,rfl,hn,fun _=>⟨g,0,rfl,(h0.lt g rfl).2,fun i hi=>?_⟩⟩
   have g0:=cells_get C i hi
   rw[Nat.zero_add]
   exact⟨(h0.cellAt (i*5) (by omega)).trans g0.1,(h0.cellAt (i*5+1) (by omega)).trans g0.2.1,(h0.cellAt (i*5+2) (by omega)).trans g0.2.2.1,(h0.cellAt (i*5+3) (by omega)).trans g0.2.2.2.1,(h0.cellAt (i*5+4) (by omega)).trans g0.2.2.2.2⟩
def CrsW (w:World) (B:Nat) (v:Value) (C:List Cr):Prop:=
 (v=.slice none 0 0/\C=[])∨(∃ ad cap,v=.slice (some ad) 0 cap/\C=[])∨∃ b off cap,v=.slice (some ⟨b,off,none⟩) C.length cap/\b<B/\CrossAt w b off C
theorem CrsW.crs {w:World} {B:Nat} {v:Value} {C:List Cr} (h:CrsW w B v C) (hn:C.length<=maxLen):Crs w B v C:=by
 rcases h with⟨rfl,rfl⟩|⟨ad,cap,rfl,rfl⟩|⟨b,off,cap,rfl,hlt,hC⟩
 · exact⟨none,0,rfl,hn,fun hp=>by simp at hp⟩
 · exact⟨some ad,cap,rfl,hn,fun hp=>by simp at hp⟩
 · exact⟨some ⟨b,off,none⟩,cap,rfl,hn,fun _=>⟨b,off,rfl,hlt,hC⟩⟩
theorem CrsW.up {w w':World} {v:Value} {C:List Cr} (h:CrsW w w.heap.size v C) (hb:Below w.heap.size w w'):CrsW w' w'.heap.size v C:=by
 rcases h with h|h|⟨b,off,cap,hv,hlt,hC⟩
 · exact Or.inl h
 · exact Or.inr (Or.inl h)
 · exact Or.inr (Or.inr ⟨b,off,cap,hv,Nat.lt_of_lt_of_le hlt hb.size,hC.on hb hlt⟩)
theorem infoCross:(Try.prog.info? 71).map (fun i=>(i.zero,i.size,i.bytes))=some (some (.agg #[.int .i64 0,.int .i64 0,.int .i64 0,.int .i64 0,.bool false]),5,40):=by kernel_rfl
theorem own_terms {w:World} {B e n g c:Nat} {l:List (Int×Int)} (h:w.ownsRow B e 2 (.slice (some ⟨g,0,none⟩) n c) n (flat l)) (hl:l.length=n):TermsAt w g 0 l:=by
 intro i hi
 have g0:=flat_get l i hi
 rw[Nat.zero_add]
 exact⟨(h.cellAt (i*2) (by omega)).trans g0.1,(h.cellAt (i*2+1) (by omega)).trans g0.2⟩
theorem Drawn.dr {w w':World} {a:Option Addr} {cap:Nat} {loops:Int} {C:List Cr} {D:Value} (h:Drawn w w' w.heap.size (.slice a C.length cap) loops C D) (hm:mayD C loops=true) (hb:Below w.heap.size w w') (hC:Crs w w.heap.size (.slice a C.length cap) C):
    ∃ gF cF gT cT,D=drV a cap C loops gF cF gT cT/\Dr w' a cap C gF gT:=by
 obtain⟨gF,cF,gT,cT,rfl,h1,h2⟩:=h.yes hm
 exact⟨gF,cF,gT,cT,rfl,hC.up hb,(h1.lt gF rfl).2,(h2.lt gT rfl).2,own_terms h1 (ends_length _ _ _ _),own_terms h2 (ends_length _ _ _ _)⟩
theorem strands_yes (v:Value) (C:List Cr) (loops:Int) (w:World) (hm:mayD C loops=true) (h:Crs w w.heap.size v C):
    Calls Try.prog 47 #[.agg #[v,.int .i64 loops]] w fun e w'=>∃ r,e=.returned (.tuple #[r,.int .i64 0])/\NatsOwn w' w.heap.size r (walksM C)/\Below w.heap.size w w':=by
 have HC:=hidB h
 have HM:=hidB hm
 obtain⟨a,cap,rfl,hn,-⟩:=h
 have HB1:=hidB ((Below.refl _ _).alloc (Nat.le_refl _) _)
 go_enter Try.func47,Try.ntmps47
 go_wp2_with (go_at_call 50;refine(of_any _ C loops _ (HC.out.up HB1.out)).mono ?_;rw[hm];rintro e9 w2 ⟨d,rfl,hb2,hd⟩;obtain⟨gF,cF,gT,cT,rfl,hdr⟩:=hd.dr HM.out hb2 (HC.out.up HB1.out);refine Hid.out ?_)
 refine Lib.hid ?_
 have HDR:=hidB hdr
 unfold drV
 have HB2:=hidB (HB1.out.trans (hb2.mono HB1.out.size))
 have HBA:=hidB ((Below.refl _ _).alloc (Nat.le_refl _) _)
 clear hb2 hd hdr hm
 go_wp2_with (go_at_call 72;refine(walks_any a cap C loops gF cF gT cT _ HM.out (HDR.out.on HBA.out)).mono ?_;rintro e9 w3 ⟨r,rfl,hr,hb3⟩;refine Hid.out ?_)
 refine Lib.hid ?_
 have HR:Hid (NatsOwn w3 w.heap.size r (walksM C)):=hr.low (by have:=HB2.out.size;simp;omega)
 have HB3:Hid (Below w.heap.size w w3):=(HB2.out.trans (HBA.out.mono HB2.out.size)).trans (hb3.mono (by have:=HB2.out.size;simp;omega))
 clear hr hb3
 go_wp2
 go_ret2
 exact⟨_,rfl,HR.out,HB3.out⟩
end Go.Proofs.Ytagaajlbkfkaiaa
/- Visits: lists of them that a call owns; the walks of gauss.visits and gauss.signs. -/
namespace Go.Proofs.Ytagaajlbkfkaiaa
open Go.RowKit
def vflat (V:List (Nat×Bool)):List Value:=V.flatMap fun t=>[.int .i64 (t.1:Nat),.bool t.2]
theorem vflat_append (l m:List (Nat×Bool)):vflat (l++m)=vflat l++vflat m:=by simp[vflat]
theorem vflat_get (l:List (Nat×Bool)) (i:Nat) (hi:i<l.length):(vflat l)[i*2]?=some (.int .i64 ((l.getD i (0,false)).1:Nat))/\(vflat l)[i*2+1]?=some (.bool (l.getD i (0,false)).2):=by
 induction l generalizing i with
 |nil=>simp at hi
 |cons t l ih=>
  have e:vflat (t::l)=.int .i64 (t.1:Nat)::.bool t.2::vflat l:=rfl
  cases i with
  |zero=>rw[e];exact⟨rfl,rfl⟩
  |succ i=>
   have:=ih i (by simpa using hi)
   rw[e,show(i+1)*2=i*2+1+1 by omega]
   exact this
theorem vflat_one (l:List (Nat×Bool)):∀ u∈vflat l,u.oneCell'=true:=by
 intro u hu
 simp only[vflat,List.mem_flatMap]at hu
 obtain⟨t,_,ht⟩:=hu
 simp at ht
 rcases ht with rfl|rfl<;>rfl
def WksAt (w:World) (v:Value) (L:List (List Nat)):Prop:=∃ ys:List Value,ys.length=L.length/\Slots w w.heap.size v ys/\∀ j,j<L.length->Slots w w.heap.size (ys.getD j (.bool false)) (nats (L.getD j []))
theorem WksAt.on {w w':World} {v:Value} {L:List (List Nat)} (h:WksAt w v L) (hb:Below w.heap.size w w'):WksAt w' v L:=by
 obtain⟨ys,h1,h2,h3⟩:=h
 exact⟨ys,h1,(h2.on hb).mono hb.size,fun j hj=>((h3 j hj).on hb).mono hb.size⟩
end Go.Proofs.Ytagaajlbkfkaiaa
/- Diagrams under way: crossings that are appended to one; the walks of drawing.crossOf and drawing.Turned. -/
namespace Go.Proofs.Ytagaajlbkfkaiaa
open Go.RowKit
set_option maxHeartbeats 2000000
set_option maxRecDepth 100000
theorem cells_append (C D:List Cr):crossCells (C++D)=crossCells C++crossCells D:=by simp[crossCells]
theorem new_cell5 (W:World) (a b c d p:Value) (e:TypeId):∀ j u,[a,b,c,d,p][j]?=some u->(W.alloc (.cells #[a,b,c,d,p] e)).cell? ((⟨W.heap.size,0,none⟩:Addr).add j)=some u:=by
 intro j u hj
 rw[Addr.add_lit,Nat.zero_add]
 have hh:(W.alloc (.cells #[a,b,c,d,p] e)).heap[W.heap.size]?=some (.cells #[a,b,c,d,p] e (0,0)):=Array.getElem?_push_size
 match j,hj with
 |0,hj=>simp at hj;subst hj;exact block_cell hh rfl
 |1,hj=>simp at hj;subst hj;exact block_cell hh rfl
 |2,hj=>simp at hj;subst hj;exact block_cell hh rfl
 |3,hj=>simp at hj;subst hj;exact block_cell hh rfl
 |4,hj=>simp at hj;subst hj;exact block_cell hh rfl
structure OutAt (w:World) (B g:Nat) (v:Value) (loops:Int) (C:List Cr):Prop where
 box:w.heap[g]?=some (.cells #[v,.int .i64 loops] 24 (0,0))
 row:w.ownsRow B 71 5 v C.length (crossCells C)
theorem OutAt.nil {w:World} {B g:Nat} {loops:Int} (h:w.heap[g]?=some (.cells #[.slice none 0 0,.int .i64 loops] 24 (0,0))):OutAt w B g (.slice none 0 0) loops []:=⟨h,World.ownsRow_nil _ _ _ _⟩
theorem OutAt.on {w w':World} {B g:Nat} {v:Value} {loops:Int} {C:List Cr} (h:OutAt w B g v loops C) (hb:Below w.heap.size w w'):OutAt w' B g v loops C:=
 ⟨(hb.block _ (Array.getElem?_eq_some_iff.1 h.box).1).trans h.box,own_any h.row (grown_below hb none)⟩
theorem OutAt.kept {w w':World} {B g q:Nat} {v:Value} {loops:Int} {C:List Cr} (h:OutAt w B g v loops C) (hg:w.grownBy w' (some q)) (hq:q≠g) (hB:q<B):OutAt w' B g v loops C:=by
 refine⟨(hg.block _ (Array.getElem?_eq_some_iff.1 h.box).1 (fun e=>hq (Option.some.inj e).symm)).trans h.box,h.row.kept hg ?_⟩
 cases hv:v.ownBlock with
 |none=>exact Or.inl rfl
 |some k=>exact Or.inr (fun e=>by have h1:=(h.row.lt k hv).1;have h2:=Option.some.inj e;omega)
theorem OutAt.app {w w8:World} {B g:Nat} {v v8:Value} {loops:Int} {C:List Cr} {x:Cr} {o:Obj} {m:Nat} (h:OutAt w B g v loops C) (hgB:g<B) (hm:m=C.length+1) (hown8:w8.ownsRow B 71 5 v8 m (crossCells C++crossCells [x])) (hg8:(w.alloc o).grownBy w8 v.ownBlock):OutAt (w8.setCell ⟨g,0,none⟩ v8) B g v8 loops (C++[x]):=by
 have hlt:=(Array.getElem?_eq_some_iff.1 h.box).1
 have hb8:w8.heap[g]?=some (.cells #[v,.int .i64 loops] 24 (0,0)):=
  (hg8.block _ (by simp;omega) (fun e=>by have:=(h.row.lt g e.symm).1;omega)).trans (alloc_old h.box)
 refine⟨set_block hb8,?_⟩
 have hl:(C++[x]).length=m:=by rw[hm];simp
 rw[hl,cells_append]
 refine hown8.kept (set_grown w8 g 0 v8) ?_
 cases hv:v8.ownBlock with
 |none=>exact Or.inl rfl
 |some k=>exact Or.inr (fun e=>by have h1:=(hown8.lt k hv).1;have h2:=Option.some.inj e;omega)
theorem OutAt.below {w w8 W:World} {B B0 g:Nat} {v v8:Value} {loops:Int} {C:List Cr} {o:Obj} (h:OutAt w B g v loops C) (hb:Below B0 W w) (hB:B0<=B) (hs:B0<=w.heap.size) (h0:B0<=g) (hg8:(w.alloc o).grownBy w8 v.ownBlock):Below B0 W (w8.setCell ⟨g,0,none⟩ v8):=
 ((hb.alloc hs _).grown hg8 (by simp;omega) (fun q hq=>Nat.le_trans hB (h.row.lt q hq).1)).grown (set_grown w8 g 0 v8) (by have:=hg8.size;simp at this;omega) (fun q hq=>by have:=Option.some.inj hq;omega)
theorem OutAt.other {w w8:World} {B g k:Nat} {v v8:Value} {loops:Int} {C:List Cr} {o p:Obj} (h:OutAt w B g v loops C) (hk:w.heap[k]?=some p) (hkB:k<B) (hkg:k≠g) (hg8:(w.alloc o).grownBy w8 v.ownBlock):(w8.setCell ⟨g,0,none⟩ v8).heap[k]?=some p:=by
 have hlt:=(Array.getElem?_eq_some_iff.1 hk).1
 have hs:=hg8.size
 simp only[World.size_alloc]at hs
 have hb8:w8.heap[k]?=some p:=(hg8.block _ (by simp;omega) (fun e=>by have:=(h.row.lt k e.symm).1;omega)).trans (alloc_old hk)
 exact((set_grown w8 g 0 v8).block k (by omega) (fun e=>hkg (Option.some.inj e))).trans hb8
theorem OutAt.box8 {w w8:World} {B g:Nat} {v:Value} {loops:Int} {C:List Cr} {o:Obj} (h:OutAt w B g v loops C) (hgB:g<B) (hg8:(w.alloc o).grownBy w8 v.ownBlock):w8.heap[g]?=some (.cells #[v,.int .i64 loops] 24 (0,0)):=by
 have hlt:=(Array.getElem?_eq_some_iff.1 h.box).1
 exact(hg8.block _ (by simp;omega) (fun e=>by have:=(h.row.lt g e.symm).1;omega)).trans (alloc_old h.box)
def turn (x:Cr) (f:Nat):Cr:=⟨x.arc (f%4),x.arc ((f+1)%4),x.arc ((f+2)%4),x.arc ((f+3)%4),x.plus⟩
theorem crossOf_any (x:Cr) (w:World):
    Calls Try.prog 122 #[.agg #[.int .i64 x.a,.int .i64 x.b,.int .i64 x.c,.int .i64 x.d],.bool x.plus] w fun e w'=>e=.returned (.agg #[.int .i64 x.a,.int .i64 x.b,.int .i64 x.c,.int .i64 x.d,.bool x.plus])/\Below w.heap.size w w':=by
 go_enter Try.func122,Try.ntmps122
 go_wp2
 exact bodyPost_ret (v:=.agg #[.int .i64 x.a,.int .i64 x.b,.int .i64 x.c,.int .i64 x.d,.bool x.plus]) (by simp[results,Try.results122,go_sem]) rfl ⟨rfl,below2 _ _ _⟩
def intArr (l:List Int):Array Value:=(l.map fun x=>Value.int .i64 x).toArray
theorem intArr_set (l:List Int) (p:Nat) (z:Int):(intArr l).setIfInBounds p (.int .i64 z)=intArr (l.set p z):=by
 simp[intArr,List.map_set]
theorem intArr_get (l:List Int) (p:Nat) (h:p<l.length):(intArr l)[p]?=some (.int .i64 (l.getD p 0)):=by
 simp[intArr,List.getD,h]
end Go.Proofs.Ytagaajlbkfkaiaa
/- The walk of Drawing.Has. -/
namespace Go.Proofs.Ytagaajlbkfkaiaa
open Go.RowKit
set_option maxHeartbeats 1000000
set_option maxRecDepth 100000
def hasB (C:List Cr) (x:Int):Bool:=decide (1<=x)&&decide (x<=2*(C.length:Int))
theorem has_any (a:Option Addr) (cap:Nat) (C:List Cr) (loops:Int) (gF cF gT cT:Nat) (x:Int) (w:World) (hl:C.length<=16):
    Calls Try.prog 104 #[drV a cap C loops gF cF gT cT,.int .i64 x] w fun e w'=>e=.returned (.bool (hasB C x))/\Below w.heap.size w w':=by
 unfold drV
 have hb:∀ o,Below w.heap.size w (w.alloc o):=fun o=>(Below.refl _ _).alloc (Nat.le_refl _) o
 obtain⟨m,hm⟩:∃ m,2*C.length+1=m:=⟨_,rfl⟩
 have HM:=hidB hm
 have hm40:m<=40:=by omega
 rw[hm]
 clear hm
 by_cases h1:1<=x
 · have d1:decide (1<=x)=true:=by simpa using h1
   by_cases h2:x<(m:Int)
   · have d2:decide (x<(m:Int))=true:=by simpa using h2
     have HR:=hidB (show hasB C x=true by have:=HM.out;simp[hasB,h1];omega)
     go_enter Try.func104,Try.ntmps104
     go_wp2
     go_ret
     exact⟨ret_bool HR.out,hb _⟩
   · have d2:decide (x<(m:Int))=false:=by simpa using h2
     have HR:=hidB (show hasB C x=false by have:=HM.out;simp[hasB];omega)
     go_enter Try.func104,Try.ntmps104
     go_wp2
     go_ret
     exact⟨ret_bool HR.out,hb _⟩
 · have d1:decide (1<=x)=false:=by simpa using h1
   have HR:=hidB (show hasB C x=false by simp[hasB,h1])
   go_enter Try.func104,Try.ntmps104
   go_wp2
   go_ret
   exact⟨ret_bool HR.out,hb _⟩
end Go.Proofs.Ytagaajlbkfkaiaa
