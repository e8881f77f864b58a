/- The walk of ref.SmoothOf. -/
import Derived.Test.YtefooihnoajnlaaTkh
import Derived.Test.YtefooihnoajnlaaZ2P
import Derived.Test.YtefooihnoajnlaaJ8mP
import Derived.Test.YtefooihnoajnlaaS2
import Derived.Test.YtefooihnoajnlaaW11P
import Derived.BigRegion
import Derived.Deep.Cut
namespace Go.Proofs.Ytefooihnoajnlaa
open Go.RowKit
set_option maxHeartbeats 16000000
set_option maxRecDepth 100000
structure SaAt (w:World) (N gL gS:Nat) (box:Array Value) (L:List Nat) (S:List Bool) (wr:World):Prop where
 box:wr.heap[w.heap.size]?=some (.cells box 24 (0,0))
 res:wr.heap[w.heap.size+1]?=some (.cells #[.slice none 0 0,.int .i64 0] 24 (0,0))
 row:wr.ownsRow (w.heap.size+2) 3 1 (.slice (some ⟨gL,0,none⟩) N N) N (nats L)
 st:wr.ownsRow gS 4 1 (.slice (some ⟨gS,0,none⟩) N N) N (bools S)
 lt:gL<gS
 bel:Below w.heap.size w wr
theorem SaAt.on {w wr w':World} {N gL gS:Nat} {box:Array Value} {L:List Nat} {S:List Bool} (h:SaAt w N gL gS box L S wr) (hb:Below wr.heap.size wr w'):SaAt w N gL gS box L S w':=
 ⟨(hb.block _ (Array.getElem?_eq_some_iff.1 h.box).1).trans h.box,(hb.block _ (Array.getElem?_eq_some_iff.1 h.res).1).trans h.res,own_any h.row (grown_below hb none),own_any h.st (grown_below hb none),h.lt,h.bel.trans (hb.mono h.bel.size)⟩
theorem SaAt.ltS {w wr:World} {N gL gS:Nat} {box:Array Value} {L:List Nat} {S:List Bool} (h:SaAt w N gL gS box L S wr):w.heap.size+2<=gL/\gL<gS/\gS<wr.heap.size:=⟨(h.row.lt gL rfl).1,h.lt,(h.st.lt gS rfl).2⟩
theorem SaAt.kept {w wr w':World} {N gL gS q:Nat} {box:Array Value} {L:List Nat} {S:List Bool} (h:SaAt w N gL gS box L S wr) (hg:wr.grownBy w' (some q)) (hq:gS<q):SaAt w N gL gS box L S w':=by
 have hl:=h.ltS
 exact⟨(hg.block _ (Array.getElem?_eq_some_iff.1 h.box).1 (fun e=>by have:=Option.some.inj e;omega)).trans h.box,(hg.block _ (Array.getElem?_eq_some_iff.1 h.res).1 (fun e=>by have:=Option.some.inj e;omega)).trans h.res,h.row.kept hg (Or.inr (fun e=>by have:gL=q:=Option.some.inj e;omega)),h.st.kept hg (Or.inr (fun e=>by have:gS=q:=Option.some.inj e;omega)),h.lt,h.bel.grown hg h.bel.size (fun k hk=>by have:=Option.some.inj hk;omega)⟩
theorem SaAt.set {w wr:World} {N gL gS:Nat} {box:Array Value} {L:List Nat} {S S':List Bool} {i:Nat} {b:Bool} (h:SaAt w N gL gS box L S wr) (e:S.set i b=S'):SaAt w N gL gS box L S' (wr.setCell ⟨gS,i,none⟩ (.bool b)):=by
 have hst:=h.st.stored i (.bool b)
 rw[bools_set,e]at hst
 have hl:=h.ltS
 exact⟨(hst.2.block _ (Array.getElem?_eq_some_iff.1 h.box).1 (fun e=>by have:w.heap.size=gS:=Option.some.inj e;omega)).trans h.box,(hst.2.block _ (Array.getElem?_eq_some_iff.1 h.res).1 (fun e=>by have:w.heap.size+1=gS:=Option.some.inj e;omega)).trans h.res,h.row.kept hst.2 (Or.inr (fun e=>by have:gL=gS:=Option.some.inj e;omega)),hst.1,h.lt,h.bel.grown hst.2 h.bel.size (fun q hq=>by have:=Option.some.inj hq;omega)⟩
theorem SaAt.atL {w wr:World} {N gL gS:Nat} {box:Array Value} {L:List Nat} {S:List Bool} (h:SaAt w N gL gS box L S wr) (hl:L.length=N) (i:Nat) (hi:i<N):wr.cell? ⟨gL,i,none⟩=some (.int .i64 (L.getD i 0:Nat)):=by
 rw[h.row.cellAt i (by omega)];exact nats_get _ i (by omega)
theorem SaAt.atS {w wr:World} {N gL gS:Nat} {box:Array Value} {L:List Nat} {S:List Bool} (h:SaAt w N gL gS box L S wr) (hl:S.length=N) (i:Nat) (hi:i<N):wr.cell? ⟨gS,i,none⟩=some (.bool (S.getD i true)):=by
 rw[h.st.cellAt i (by omega)];exact bools_get _ i (by omega)
theorem SaAt.kept2 {w wr w':World} {N gL gS:Nat} {row:Option Nat} {box:Array Value} {L:List Nat} {S:List Bool} (h:SaAt w N gL gS box L S wr) (hg:wr.grownBy w' row) (hq:∀ q,row=some q->gS<q):SaAt w N gL gS box L S w':=by
 have hl:=h.ltS
 have hne:∀ k,k<=gS->some k≠row:=fun k hk e=>by have:=hq k e.symm;omega
 exact⟨(hg.block _ (Array.getElem?_eq_some_iff.1 h.box).1 (hne _ (by omega))).trans h.box,(hg.block _ (Array.getElem?_eq_some_iff.1 h.res).1 (hne _ (by omega))).trans h.res,h.row.kept hg (Or.inr (hne gL (by omega))),h.st.kept hg (Or.inr (hne gS (Nat.le_refl _))),h.lt,h.bel.grown hg h.bel.size (fun k hk=>by have:=hq k hk;omega)⟩
structure SmAt (w:World) (N gW:Nat) (box:Array Value) (L:List Nat) (wr:World):Prop where
 box:wr.heap[w.heap.size]?=some (.cells box 24 (0,0))
 res:wr.heap[w.heap.size+1]?=some (.cells #[.slice none 0 0,.int .i64 0] 24 (0,0))
 row:wr.ownsRow (w.heap.size+2) 3 1 (.slice (some ⟨gW,0,none⟩) N N) N (nats L)
 bel:Below w.heap.size w wr
theorem SmAt.on {w wr w':World} {N gW:Nat} {box:Array Value} {L:List Nat} (h:SmAt w N gW box L wr) (hb:Below wr.heap.size wr w'):SmAt w N gW box L w':=
 ⟨(hb.block _ (Array.getElem?_eq_some_iff.1 h.box).1).trans h.box,(hb.block _ (Array.getElem?_eq_some_iff.1 h.res).1).trans h.res,own_any h.row (grown_below hb none),h.bel.trans (hb.mono h.bel.size)⟩
theorem SmAt.lt {w wr:World} {N gW:Nat} {box:Array Value} {L:List Nat} (h:SmAt w N gW box L wr):w.heap.size+2<=gW/\gW<wr.heap.size:=h.row.lt gW rfl
theorem SmAt.to {w wr w':World} {N gW:Nat} {box:Array Value} {L M:List Nat} (h:SmAt w N gW box L wr) (hg:wr.grownBy w' (some (gW))) (hr:w'.ownsRow (w.heap.size+2) 3 1 (.slice (some ⟨gW,0,none⟩) N N) N (nats M)):SmAt w N gW box M w':=by
 have hl:=h.row.lt gW rfl
 exact⟨(hg.block _ (Array.getElem?_eq_some_iff.1 h.box).1 (fun e=>by have:=Option.some.inj e;omega)).trans h.box,(hg.block _ (Array.getElem?_eq_some_iff.1 h.res).1 (fun e=>by have:=Option.some.inj e;omega)).trans h.res,hr,h.bel.grown hg h.bel.size (fun q hq=>by have:=Option.some.inj hq;omega)⟩
theorem SmAt.set {w wr:World} {N gW:Nat} {box:Array Value} {L M:List Nat} {i z:Nat} (h:SmAt w N gW box L wr) (e:L.set i z=M):SmAt w N gW box M (wr.setCell ⟨gW,i,none⟩ (.int .i64 (z:Nat))):=by
 have hst:=h.row.stored i (.int .i64 (z:Nat))
 rw[nats_set,e]at hst
 exact h.to hst.2 hst.1
theorem SmAt.at_ {w wr:World} {N gW:Nat} {box:Array Value} {L:List Nat} (h:SmAt w N gW box L wr) (hl:L.length=N) (i:Nat) (hi:i<N):wr.cell? ⟨gW,i,none⟩=some (.int .i64 (L.getD i 0:Nat)):=by
 rw[h.row.cellAt i (by omega)];exact nats_get _ i (by omega)
theorem gcellS {w w':World} {row:Option Nat} (hg:w.grownBy w' row) {b o:Nat} {v:Option Value} (hb:b<w.heap.size) (hne:some b≠row) (hc:w.cell? ⟨b,o,none⟩=v):w'.cell? ⟨b,o,none⟩=v:=by
 rw[<-hc]
 unfold World.cell?
 simp only[]
 rw[hg.block b hb hne]
structure ScAt (w:World) (N gL gS gD:Nat) (box:Array Value) (L:List Nat) (S:List Bool) (lp:Int) (wr:World):Prop where
 sa:SaAt w N gL gS box L S wr
 od:wr.heap[gD]?=some (.cells #[.slice none 0 0,.int .i64 lp] 24 (0,0))
 lt:gS<gD
theorem ScAt.on {w wr w':World} {N gL gS gD:Nat} {box:Array Value} {L:List Nat} {S:List Bool} {lp:Int} (h:ScAt w N gL gS gD box L S lp wr) (hb:Below wr.heap.size wr w'):ScAt w N gL gS gD box L S lp w':=
 ⟨h.sa.on hb,(hb.block _ (Array.getElem?_eq_some_iff.1 h.od).1).trans h.od,h.lt⟩
theorem ScAt.set {w wr:World} {N gL gS gD:Nat} {box:Array Value} {L:List Nat} {S S':List Bool} {lp:Int} {i:Nat} {b:Bool} (h:ScAt w N gL gS gD box L S lp wr) (e:S.set i b=S'):ScAt w N gL gS gD box L S' lp (wr.setCell ⟨gS,i,none⟩ (.bool b)):=
 ⟨h.sa.set e,((set_grown wr gS i (.bool b)).block _ (Array.getElem?_eq_some_iff.1 h.od).1 (fun e=>by have:=h.lt;have:=Option.some.inj e;omega)).trans h.od,h.lt⟩
structure SbAt (w:World) (N gL gS gN gD B:Nat) (box:Array Value) (L:List Nat) (S:List Bool) (M:List Nat) (v:Value) (lp:Int) (D:List Cr) (wr:World):Prop where
 sa:SaAt w N gL gS box L S wr
 num:wr.ownsRow (gS+1) 3 1 (.slice (some ⟨gN,0,none⟩) N N) N (nats M)
 out:OutAt wr B gD v lp D
 ne:gS<gN/\gS<gD/\gN≠gD/\gN<B/\gD<B/\B<=wr.heap.size
theorem SbAt.on {w wr w':World} {N gL gS gN gD B:Nat} {box:Array Value} {L:List Nat} {S:List Bool} {M:List Nat} {v:Value} {lp:Int} {D:List Cr} (h:SbAt w N gL gS gN gD B box L S M v lp D wr) (hb:Below wr.heap.size wr w'):SbAt w N gL gS gN gD B box L S M v lp D w':=
 ⟨h.sa.on hb,own_any h.num (grown_below hb none),h.out.on hb,by have:=h.ne;have:=hb.size;omega⟩
theorem SbAt.set {w wr:World} {N gL gS gN gD B:Nat} {box:Array Value} {L:List Nat} {S:List Bool} {M M':List Nat} {v:Value} {lp:Int} {D:List Cr} {i z:Nat} (h:SbAt w N gL gS gN gD B box L S M v lp D wr) (e:M.set i z=M'):SbAt w N gL gS gN gD B box L S M' v lp D (wr.setCell ⟨gN,i,none⟩ (.int .i64 (z:Nat))):=by
 have hst:=h.num.stored i (.int .i64 (z:Nat))
 rw[nats_set,e]at hst
 obtain⟨n1,n2,n4,n7,n8,n10⟩:=h.ne
 have hs:=hst.2.size
 exact⟨h.sa.kept hst.2 n1,hst.1,h.out.kept hst.2 n4 n7,⟨n1,n2,n4,n7,n8,by omega⟩⟩
theorem SbAt.loop {w wr:World} {N gL gS gN gD B:Nat} {box:Array Value} {L:List Nat} {S:List Bool} {M:List Nat} {v:Value} {lp lp':Int} {D:List Cr} (h:SbAt w N gL gS gN gD B box L S M v lp D wr):SbAt w N gL gS gN gD B box L S M v lp' D (wr.setCell ⟨gD,1,none⟩ (.int .i64 lp')):=by
 obtain⟨n1,n2,n4,n7,n8,n10⟩:=h.ne
 have hg:=set_grown wr gD 1 (.int .i64 lp')
 have hs:=hg.size
 refine⟨h.sa.kept hg n2,h.num.kept hg (Or.inr (fun e=>n4 (Option.some.inj e))),⟨set_block h.out.box,h.out.row.kept hg ?_⟩,⟨n1,n2,n4,n7,n8,by omega⟩⟩
 cases hv:v.ownBlock with
 |none=>exact Or.inl rfl
 |some k=>exact Or.inr (fun e=>by have h1:=(h.out.row.lt k hv).1;have h2:=Option.some.inj e;omega)
theorem SbAt.atM {w wr:World} {N gL gS gN gD B:Nat} {box:Array Value} {L:List Nat} {S:List Bool} {M:List Nat} {v:Value} {lp:Int} {D:List Cr} (h:SbAt w N gL gS gN gD B box L S M v lp D wr) (hl:M.length=N) (i:Nat) (hi:i<N):wr.cell? ⟨gN,i,none⟩=some (.int .i64 (M.getD i 0:Nat)):=by
 rw[h.num.cellAt i (by omega)];exact nats_get _ i (by omega)
theorem SbAt.app {w wA w8:World} {N gL gS gN gD B m:Nat} {box:Array Value} {L:List Nat} {S:List Bool} {M:List Nat} {v v8:Value} {lp:Int} {D:List Cr} {x:Cr} {o:Obj} (h:SbAt w N gL gS gN gD B box L S M v lp D wA) (hm:m=D.length+1) (hown8:w8.ownsRow B 60 5 v8 m (crossCells D++crossCells [x])) (hg8:(wA.alloc o).grownBy w8 v.ownBlock):SbAt w N gL gS gN gD B box L S M v8 lp (D++[x]) (w8.setCell ⟨gD,0,none⟩ v8):=by
 obtain⟨n1,n2,n4,n7,n8,n10⟩:=h.ne
 have hg:wA.grownBy w8 v.ownBlock:=grown_trans (World.grownBy_alloc _ _ _) hg8
 have hq:∀ q,v.ownBlock=some q->B<=q:=fun q e=>(h.out.row.lt q e).1
 have hs:=hg.size
 have hg2:=set_grown w8 gD 0 v8
 have hs2:=hg2.size
 have sa8:=h.sa.kept2 hg (fun q e=>by have:=hq q e;omega)
 have num8:=h.num.kept hg (Or.inr (fun e=>by have:=hq gN e.symm;omega))
 exact⟨sa8.kept hg2 n2,num8.kept hg2 (Or.inr (fun e=>n4 (Option.some.inj e))),h.out.app n8 hm hown8 hg8,⟨n1,n2,n4,n7,n8,by omega⟩⟩
theorem smoothOf_any {lm : Int} (a : Option Addr) (cap : Nat) (C : List Cr) (loops : Int) (k : Nat) (w : World) (hm : mayD C lm = true) (hk : k < C.length) (hD : Crs w w.heap.size (.slice a C.length cap) C) (hlo : 0 ≤ loops ∧ loops ≤ 1000 := by omega) :
    Calls Try.prog 21 #[.agg #[.slice a C.length cap,.int .i64 loops],.int .i64 (k:Nat)] w fun e w'=>∃ v,e=.returned (.agg #[v,.int .i64 (loops+(cntB (nfB (uniM C (sx C) [k]) (thB C k (uniM C (sx C) [k]) C.length 0)) (2*C.length+1):Nat))])/\w'.ownsRow w.heap.size 60 5 v (reTo C [k] (numM (uniM C (sx C) [k]) (thB C k (uniM C (sx C) [k]) C.length 0)) C.length).length (crossCells (reTo C [k] (numM (uniM C (sx C) [k]) (thB C k (uniM C (sx C) [k]) C.length 0)) C.length))/\Below w.heap.size w w':=by
 obtain⟨s1,-,-,-⟩:=sizeB_iff (may_size hm)
 obtain⟨l0,l16⟩:=hlo
 obtain⟨i2,hki,hx0,hx1,hx2⟩:=info_parts infoInt
 obtain⟨i3,hj,hy0,hy1,hy2⟩:=info_parts infoBool
 obtain⟨i0,hi,hz0,hz1,hz2⟩:=info_parts infoCross
 obtain⟨b,off,ea,hbw,hC⟩:=crs_some hD (by omega)
 subst ea
 have HM:Hid (mayD C lm=true):=hm
 have HC:Hid (CrossAt w b off C):=hC
 have HSL:Hid (levR (List.range (2*C.length+1)) (smE C k) 3=uniM C (sx C) [k]):=smooth_levels hm k hk
 have HLS:Hid (Least (uTo C (sx C) [k] (2*C.length)) (2*C.length+1) (uniM C (sx C) [k])):=uni_least (sx_goes hm).closed
 have HLP:Hid (∀ v,1<=v->v<2*C.length+1->1<=(uniM C (sx C) [k]).getD v 0):=fun v h1 h2=>HLS.out.pos (fun e he=>⟨(uTo_lt (sx_goes HM.out).closed e he).1.1,(uTo_lt (sx_goes HM.out).closed e he).2.1⟩) h2 h1
 have HSE:Hid (∀ e,e∈smE C k->e.1<2*C.length+1/\e.2<2*C.length+1):=fun e he=>by
  have:=uTo_lt (G:=[k]) (sx_goes HM.out).closed e ((mem_smE HM.out k hk e).2 he)
  exact⟨this.1.2,this.2.2⟩
 obtain⟨N,hN⟩:∃ N,N=2*C.length+1:=⟨_,rfl⟩
 have HN:Hid (N=2*C.length+1):=hN
 have hN1:1<=N:=by omega
 have hN2:N<=33:=by omega
 have qN:2*(C.length:Int)+1=(N:Int):=by omega
 have qW1:IntKind.i64.wrap (2*(C.length:Int))=2*(C.length:Int):=IntWalk.i64_in _ (by omega)
 have qW2:IntKind.i64.wrap (2*(C.length:Int)+1)=2*(C.length:Int)+1:=IntWalk.i64_in _ (by omega)
 rw[<-hN]at HSL HLS HLP HSE ⊢
 obtain⟨L,hL⟩:∃ L,uniM C (sx C) [k]=L:=⟨_,rfl⟩
 rw[hL]at HSL HLS HLP ⊢
 have HLL:Hid (L.length=N):=HLS.out.1
 obtain⟨m0,m1,m2,m3,m4⟩:=hC k hk
 have HFT:Hid (∀ s,s<4->1<=(C.getD k Cr.none).arc s/\(C.getD k Cr.none).arc s<(N:Int)):=fun s hs=>by
  have h:=may_fit HM.out k s hk hs
  have g1:=h.1
  have g2:=h.2.1
  have:=HN.out
  omega
 have HSD:Hid (smE C k=if(C.getD k Cr.none).plus=true then [((C.getD k Cr.none).a.toNat,(C.getD k Cr.none).b.toNat),((C.getD k Cr.none).d.toNat,(C.getD k Cr.none).c.toNat)] else [((C.getD k Cr.none).a.toNat,(C.getD k Cr.none).d.toNat),((C.getD k Cr.none).b.toNat,(C.getD k Cr.none).c.toNat)]):=(rfl:smE C k=_)
 obtain⟨xa,hxa⟩:∃ x:Nat,(C.getD k Cr.none).a=(x:Int):=⟨(C.getD k Cr.none).a.toNat,by have h:=(HFT.out 0 (by omega)).1;have e:(C.getD k Cr.none).arc 0=(C.getD k Cr.none).a:=rfl;omega⟩
 obtain⟨xb,hxb⟩:∃ x:Nat,(C.getD k Cr.none).b=(x:Int):=⟨(C.getD k Cr.none).b.toNat,by have h:=(HFT.out 1 (by omega)).1;have e:(C.getD k Cr.none).arc 1=(C.getD k Cr.none).b:=rfl;omega⟩
 obtain⟨xc,hxc⟩:∃ x:Nat,(C.getD k Cr.none).c=(x:Int):=⟨(C.getD k Cr.none).c.toNat,by have h:=(HFT.out 2 (by omega)).1;have e:(C.getD k Cr.none).arc 2=(C.getD k Cr.none).c:=rfl;omega⟩
 obtain⟨xd,hxd⟩:∃ x:Nat,(C.getD k Cr.none).d=(x:Int):=⟨(C.getD k Cr.none).d.toNat,by have h:=(HFT.out 3 (by omega)).1;have e:(C.getD k Cr.none).arc 3=(C.getD k Cr.none).d:=rfl;omega⟩
 have la:xa<N:=by have h:=(HFT.out 0 (by omega)).2;have e:(C.getD k Cr.none).arc 0=(C.getD k Cr.none).a:=rfl;omega
 have lb:xb<N:=by have h:=(HFT.out 1 (by omega)).2;have e:(C.getD k Cr.none).arc 1=(C.getD k Cr.none).b:=rfl;omega
 have lc:xc<N:=by have h:=(HFT.out 2 (by omega)).2;have e:(C.getD k Cr.none).arc 2=(C.getD k Cr.none).c:=rfl;omega
 have ld:xd<N:=by have h:=(HFT.out 3 (by omega)).2;have e:(C.getD k Cr.none).arc 3=(C.getD k Cr.none).d:=rfl;omega
 obtain⟨xp,hxp⟩:∃ x,(C.getD k Cr.none).plus=x:=⟨_,rfl⟩
 rw[hxa,hxb,hxc,hxd,hxp]at HSD
 simp only[Int.toNat_natCast]at HSD
 rw[hxa]at m0
 rw[hxb]at m1
 rw[hxc]at m2
 rw[hxd]at m3
 rw[hxp]at m4
 clear hxa hxb hxc hxd hxp HFT hN hm hC hD hL
 obtain⟨w0,hw0⟩:∃ w0,w0=((w.alloc (.cells #[.slice (some ⟨b,off,none⟩) C.length cap,.int .i64 loops] 24)).alloc (.cells #[.slice none 0 0,.int .i64 0] 24)).alloc (.cells #[.int .i64 (xa:Nat),.int .i64 (xb:Nat),.int .i64 (xc:Nat),.int .i64 (xd:Nat),.bool xp] 60):=⟨_,rfl⟩
 have HW0:Hid (w0=((w.alloc (.cells #[.slice (some ⟨b,off,none⟩) C.length cap,.int .i64 loops] 24)).alloc (.cells #[.slice none 0 0,.int .i64 0] 24)).alloc (.cells #[.int .i64 (xa:Nat),.int .i64 (xb:Nat),.int .i64 (xc:Nat),.int .i64 (xd:Nat),.bool xp] 60)):=hw0
 have HS0:Hid (w0.heap.size=w.heap.size+3):=(by rw[hw0];simp:w0.heap.size=w.heap.size+3)
 have HB0:Hid (Below w.heap.size w w0):=(by rw[hw0];exact below3 _ _ _ _:Below w.heap.size w w0)
 have HT0:Hid (w0.heap[w.heap.size]?=some (.cells #[.slice (some ⟨b,off,none⟩) C.length cap,.int .i64 loops] 24 (0,0))):=(by rw[hw0];exact alloc_old (alloc_old (alloc_at rfl)):w0.heap[w.heap.size]?=some (.cells #[.slice (some ⟨b,off,none⟩) C.length cap,.int .i64 loops] 24 (0,0)))
 have HT1:Hid (w0.heap[w.heap.size+1]?=some (.cells #[.slice none 0 0,.int .i64 0] 24 (0,0))):=(by rw[hw0];exact alloc_old (alloc_at (by simp)):w0.heap[w.heap.size+1]?=some (.cells #[.slice none 0 0,.int .i64 0] 24 (0,0)))
 have HT2:Hid (w0.heap[w.heap.size+1+1]?=some (.cells #[.int .i64 (xa:Nat),.int .i64 (xb:Nat),.int .i64 (xc:Nat),.int .i64 (xd:Nat),.bool xp] 60 (0,0))):=(by rw[hw0];exact alloc_at (by simp):w0.heap[w.heap.size+1+1]?=some (.cells #[.int .i64 (xa:Nat),.int .i64 (xb:Nat),.int .i64 (xc:Nat),.int .i64 (xd:Nat),.bool xp] 60 (0,0)))
 clear hw0
 have ik0:(0:Int)<=(k:Int):=by omega
 have ik1:(k:Int)<(C.length:Int):=by omega
 have e0:w0.cell? ⟨w.heap.size+1+1,0,none⟩=some (.int .i64 (xa:Nat)):=block_cell HT2.out rfl
 have e1:w0.cell? ⟨w.heap.size+1+1,1,none⟩=some (.int .i64 (xb:Nat)):=block_cell HT2.out rfl
 have e2:w0.cell? ⟨w.heap.size+1+1,2,none⟩=some (.int .i64 (xc:Nat)):=block_cell HT2.out rfl
 have e3:w0.cell? ⟨w.heap.size+1+1,3,none⟩=some (.int .i64 (xd:Nat)):=block_cell HT2.out rfl
 have e4:w0.cell? ⟨w.heap.size+1+1,4,none⟩=some (.bool xp):=block_cell HT2.out rfl
 have u0:w0.cell? ⟨w.heap.size,0,none⟩=some (.slice (some ⟨b,off,none⟩) C.length cap):=block_cell HT0.out rfl
 have lz:w.heap.size+1+1<w0.heap.size:=by have:=HS0.out;omega
 go_enter Try.func21,Try.ntmps21
 cases xp with
 |true=>
  rw[if_pos rfl]at HSD
  go_upto_region 2 with(fail)
  rw[<-HW0.out]
  go_quiet (fail)
  have HDW1:Hid (Below w0.heap.size w0 (w0.drewN nq)):=below_drewN (Below.refl _ _) nq
  generalize w0.drewN nq=V0 at HDW1 ⊢
  have e0':V0.cell? ⟨w.heap.size+1+1,0,none⟩=some (.int .i64 (xa:Nat)):=bcell HDW1.out lz e0
  have e1':V0.cell? ⟨w.heap.size+1+1,1,none⟩=some (.int .i64 (xb:Nat)):=bcell HDW1.out lz e1
  have e2':V0.cell? ⟨w.heap.size+1+1,2,none⟩=some (.int .i64 (xc:Nat)):=bcell HDW1.out lz e2
  have e3':V0.cell? ⟨w.heap.size+1+1,3,none⟩=some (.int .i64 (xd:Nat)):=bcell HDW1.out lz e3
  have e4':V0.cell? ⟨w.heap.size+1+1,4,none⟩=some (.bool true):=bcell HDW1.out lz e4
  have lz':w.heap.size+1+1<V0.heap.size:=Nat.lt_of_lt_of_le lz HDW1.out.size
  go_upto_region 4 with(fail)
  go_quiet (fail)
  have HDW:Hid (Below w0.heap.size w0 (V0.drewN nq)):=below_drewN HDW1.out nq
  generalize V0.drewN nq=W0 at HDW ⊢
  have u0':W0.cell? ⟨w.heap.size,0,none⟩=some (.slice (some ⟨b,off,none⟩) C.length cap):=bcell HDW.out (by omega) u0
  have lw':w.heap.size<W0.heap.size:=Nat.lt_of_lt_of_le (by omega) HDW.out.size
  clear e0' e1' e2' e3' e4' lz' HDW1
  obtain⟨pa,hpa⟩:∃ p,xa=p:=⟨_,rfl⟩
  obtain⟨pb,hpb⟩:∃ p,xb=p:=⟨_,rfl⟩
  obtain⟨px,hpx⟩:∃ p,xd=p:=⟨_,rfl⟩
  obtain⟨py,hpy⟩:∃ p,xc=p:=⟨_,rfl⟩
  have HPE:Hid (smE C k=[(pa,pb),(px,py)]):=(by rw[HSD.out,hpa,hpb,hpx,hpy]:smE C k=[(pa,pb),(px,py)])
  have lpa:pa<N:=by omega
  have lpb:pb<N:=by omega
  have lpx:px<N:=by omega
  have lpy:py<N:=by omega
  rw[hpa,hpb,hpx,hpy]
  clear hpa hpb hpx hpy HSD
  go_wp2_with (first|(at_make;refine wpList_make_full _ rfl _ _ 64 rfl (w.heap.size+2) 3 i2 (.int .i64 0) 1 Try.underlying64 hki hx0 hx1 .i64 .i64 _ _ N rfl rfl rfl rfl (by rw[hx2];omega) (by unfold maxLen;omega) (by have:=HDW.out.size;have:=HS0.out;omega) ?_;intro w1 hrow hg1;refine Hid.out ?_))
  refine Lib.hid ?_
  rw[made_zeroN,labTo_zero]at hrow
  obtain⟨gW,hgW⟩:∃ g,W0.heap.size=g:=⟨_,rfl⟩
  rw[hgW]at hrow ⊢
  have HP0 : Hid (SmAt w N gW #[.slice (some ⟨b, off, none⟩) C.length cap, .int .i64 loops] (labTo N 0) w1) := (by
   have h3:=HS0.out
   have h4:=HDW.out.size
   have hz:=hg1.size
   exact⟨(hg1.block _ (by omega) (by simp)).trans ((HDW.out.block _ (by omega)).trans HT0.out),(hg1.block _ (by omega) (by simp)).trans ((HDW.out.block _ (by omega)).trans HT1.out),hrow,(HB0.out.trans (HDW.out.mono (by omega))).grown hg1 (by omega) (fun q hq=>by cases hq)⟩:SmAt w N gW #[.slice (some ⟨b,off,none⟩) C.length cap,.int .i64 loops] (labTo N 0) w1)
  clear hrow hg1 hgW HDW e0 e1 e2 e3 e4 u0 m0 m1 m2 m3 m4 lz HT0 HT1 HT2 HB0 HW0 HS0
  go_wp2
  go_loopw [12] (fun v12 wr=>∃ i:Nat,i<=N/\v12=.int .i64 (i:Nat)/\Hid (SmAt w N gW #[.slice (some ⟨b,off,none⟩) C.length cap,.int .i64 loops] (labTo N i) wr)) (fun v12 _=>N-(intOf v12).toNat)
  case atStart=>exact⟨0,Nat.zero_le _,rfl,HP0.out⟩
  case round=>
   clear HP0
   rename World=>W1
   obtain⟨i,hin,rfl,hp⟩:=hrel
   have hlt:=hp.out.lt.2
   by_cases hil:i<N
   · have HST:Hid (SmAt w N gW #[.slice (some ⟨b,off,none⟩) C.length cap,.int .i64 loops] (labTo N (i+1)) (W1.setCell ⟨gW,i,none⟩ (.int .i64 (i:Nat)))):=hp.out.set (labTo_next N i)
     have e0:=hp.out.at_ (by simp[labTo]) i hil
     have z0:W1.frozen? ⟨gW,i,none⟩=false:=hp.out.row.frozenAt i
     have hdi:(i:Int)<=2*(C.length:Int):=by omega
     generalize (labTo N i).getD i 0=u at e0
     go_wp2
     go_roundw
     case rel=>exact⟨i+1,by omega,by go_num,HST.out⟩
     case measure=>simp only[intOf];omega
   · obtain rfl:N=i:=by omega
     have HP1:Hid (SmAt w N gW #[.slice (some ⟨b,off,none⟩) C.length cap,.int .i64 loops] (levR (List.range N) [(pa,pb),(px,py)] 0) W1):=(by have h:=hp.out;rw[labTo_all]at h;exact h:SmAt w N gW #[.slice (some ⟨b,off,none⟩) C.length cap,.int .i64 loops] (levR (List.range N) [(pa,pb),(px,py)] 0) W1)
     have hdn:decide ((N:Int)<=2*(C.length:Int))=false:=by simp;omega
     clear hp hlt
     go_wp2
     go_loopw [13] (fun v13 wr=>∃ r:Nat,r<=3/\v13=.int .i64 (r:Nat)/\Hid (SmAt w N gW #[.slice (some ⟨b,off,none⟩) C.length cap,.int .i64 loops] (levR (List.range N) [(pa,pb),(px,py)] r) wr)) (fun v13 _=>3-(intOf v13).toNat)
     case atStart=>exact⟨0,by omega,rfl,HP1.out⟩
     case round=>
      clear HP1
      rename World=>W2
      obtain⟨r,hr3,rfl,hp⟩:=hrel
      by_cases hrl:r<3
      · have HRN:Hid (levR (List.range N) [(pa,pb),(px,py)] (r+1)=lev (lev (levR (List.range N) [(pa,pb),(px,py)] r) pa pb) px py):=(rfl:levR (List.range N) [(pa,pb),(px,py)] (r+1)=_)
        generalize levR (List.range N) [(pa,pb),(px,py)] r=V at HRN hp
        go_wp2_with (first
         |(have hAA:=HLA;clear hAA;go_at_call 37;refine(level_any (w.heap.size+2) gW N N px py (lev V pa pb) _ lpx lpy HLA.out.row).mono ?_;rintro e9 w4 ⟨rfl,hr4,hg4⟩;have HLB:Hid (SmAt w N gW #[.slice (some ⟨b,off,none⟩) C.length cap,.int .i64 loops] (lev (lev V pa pb) px py) w4):=HLA.out.to hg4 hr4;clear hr4 hg4)
         |(go_at_call 37;refine(level_any (w.heap.size+2) gW N N pa pb V _ lpa lpb hp.out.row).mono ?_;rintro e9 w3 ⟨rfl,hr3',hg3⟩;have HLA:Hid (SmAt w N gW #[.slice (some ⟨b,off,none⟩) C.length cap,.int .i64 loops] (lev V pa pb) w3):=hp.out.to hg3 hr3';clear hr3' hg3))
        go_roundw
        case rel=>exact⟨r+1,by omega,by go_num,(by rw[HRN.out];exact HLB.out:SmAt w N gW #[.slice (some ⟨b,off,none⟩) C.length cap,.int .i64 loops] (levR (List.range N) [(pa,pb),(px,py)] (r+1)) w4)⟩
        case measure=>simp only[intOf];omega
      · obtain rfl:r=3:=by omega
        have HP3:Hid (SmAt w N gW #[.slice (some ⟨b,off,none⟩) C.length cap,.int .i64 loops] L W2):=(by have h:=hp.out;rw[<-HPE.out,HSL.out]at h;exact h:SmAt w N gW #[.slice (some ⟨b,off,none⟩) C.length cap,.int .i64 loops] L W2)
        have hsW:=HP3.out.bel.size
        have hlW:=HP3.out.lt
        have hdn3:decide ((3:Int)<3)=false:=by simp
        clear hp
        go_wp2_with (first|(at_make;refine wpList_make_full _ rfl _ _ 85 rfl W2.heap.size 4 i3 (.bool false) 1 Try.underlying85 hj hy0 hy1 .i64 .i64 _ _ N rfl rfl rfl rfl (by rw[hy2];omega) (by unfold maxLen;omega) (by omega) ?_;intro w3 hrow hg3;refine Hid.out ?_))
        refine Lib.hid ?_
        rw[made_false,thTo_zero C k L]at hrow
        have HA3:Hid (SaAt w N gW W2.heap.size #[.slice (some ⟨b,off,none⟩) C.length cap,.int .i64 loops] L (thTo C k L N 0 0) w3):=⟨(hg3.block _ (Array.getElem?_eq_some_iff.1 HP3.out.box).1 (by simp)).trans HP3.out.box,(hg3.block _ (Array.getElem?_eq_some_iff.1 HP3.out.res).1 (by simp)).trans HP3.out.res,own_any HP3.out.row hg3,hrow,hlW.2,HP3.out.bel.grown hg3 HP3.out.bel.size (fun q hq=>by cases hq)⟩
        obtain⟨gS,hgS⟩:∃ g,W2.heap.size=g:=⟨_,rfl⟩
        rw[hgS]at HA3 ⊢
        clear hrow hg3 hgS HP3 hsW hlW
        have b1:w3.cell? ⟨w.heap.size,1,none⟩=some (.int .i64 loops):=block_cell HA3.out.box rfl
        have lb3:w.heap.size<w3.heap.size:=(Array.getElem?_eq_some_iff.1 HA3.out.box).1
        have HC3 : Hid (∀ gD, gD = w3.heap.size → ScAt w N gW gS gD #[.slice (some ⟨b, off, none⟩) C.length cap, .int .i64 loops] L (thTo C k L N 0 0) loops (w3.alloc (.cells #[.slice none 0 0, .int .i64 loops] 24))) := (by
         intro gD hgD
         exact⟨HA3.out.on ((Below.refl _ _).alloc (Nat.le_refl _) _),alloc_at hgD,by rw[hgD];exact HA3.out.ltS.2.2⟩:∀ gD,gD=w3.heap.size->ScAt w N gW gS gD #[.slice (some ⟨b,off,none⟩) C.length cap,.int .i64 loops] L (thTo C k L N 0 0) loops (w3.alloc (.cells #[.slice none 0 0,.int .i64 loops] 24)))
        go_upto_region 18 with(fail)
        obtain⟨gD,hgD⟩:∃ g,w3.heap.size=g:=⟨_,rfl⟩
        have HC4:Hid (ScAt w N gW gS gD #[.slice (some ⟨b,off,none⟩) C.length cap,.int .i64 loops] L (thTo C k L N 0 0) loops (w3.alloc (.cells #[.slice none 0 0,.int .i64 loops] 24))):=HC3.out gD hgD.symm
        rw[hgD]
        generalize w3.alloc (.cells #[.slice none 0 0,.int .i64 loops] 24)=W3 at HC4 ⊢
        clear HC3 HA3 b1 lb3 hgD
        go_wp2
        go_loopw [16] (fun v16 wr=>∃ i:Nat,i<=C.length/\v16=.int .i64 (i:Nat)/\Hid (ScAt w N gW gS gD #[.slice (some ⟨b,off,none⟩) C.length cap,.int .i64 loops] L (thTo C k L N i 0) loops wr)) (fun v16 _=>C.length-(intOf v16).toNat)
        case atStart=>exact⟨0,Nat.zero_le _,rfl,HC4.out⟩
        case round=>
         clear HC4
         rename World=>W4
         obtain⟨i,hin,rfl,hp⟩:=hrel
         have c0:W4.cell? ⟨w.heap.size,0,none⟩=some (.slice (some ⟨b,off,none⟩) C.length cap):=block_cell hp.out.sa.box rfl
         have lc4:w.heap.size<W4.heap.size:=(Array.getElem?_eq_some_iff.1 hp.out.sa.box).1
         by_cases hil:i<C.length
         · have hdi:decide ((i:Int)<(C.length:Int))=true:=by simp;omega
           have hdi2:decide (i<C.length)=true:=by simp;omega
           by_cases hik:i=k
           · have HST:Hid (ScAt w N gW gS gD #[.slice (some ⟨b,off,none⟩) C.length cap,.int .i64 loops] L (thTo C k L N (i+1) 0) loops W4):=(by have e:thTo C k L N i 0=thTo C k L N (i+1) 0:=(by rw[hik];exact thTo_skip C k L N);rw[<-e];exact hp.out:ScAt w N gW gS gD #[.slice (some ⟨b,off,none⟩) C.length cap,.int .i64 loops] L (thTo C k L N (i+1) 0) loops W4)
             have hd1:((i:Int)==(k:Int))=true:=by simp;omega
             clear hik
             go_wp2
             go_roundw
             case rel=>exact⟨i+1,by omega,by go_num,HST.out⟩
             case measure=>simp only[intOf];omega
           · have hd1:((i:Int)==(k:Int))=false:=by simp;omega
             have HIK:Hid (i≠k):=hik
             have HP4:Hid (ScAt w N gW gS gD #[.slice (some ⟨b,off,none⟩) C.length cap,.int .i64 loops] L (thTo C k L N i 0) loops W4):=hp.out
             clear hik hp
             go_wp2
             go_loopw [17] (fun v17 wr=>∃ s:Nat,s<=4/\v17=.int .i64 (s:Nat)/\Hid (ScAt w N gW gS gD #[.slice (some ⟨b,off,none⟩) C.length cap,.int .i64 loops] L (thTo C k L N i s) loops wr)) (fun v17 _=>4-(intOf v17).toNat)
             case atStart=>exact⟨0,by omega,rfl,HP4.out⟩
             case round=>
              clear HP4 c0 lc4
              rename World=>W5
              obtain⟨s,hs4,rfl,hp⟩:=hrel
              by_cases hsl:s<4
              · have c0:W5.cell? ⟨w.heap.size,0,none⟩=some (.slice (some ⟨b,off,none⟩) C.length cap):=block_cell hp.out.sa.box rfl
                have c1:W5.cell? ⟨w.heap.size,1,none⟩=some (.int .i64 loops):=block_cell hp.out.sa.box rfl
                have lc5:w.heap.size<W5.heap.size:=(Array.getElem?_eq_some_iff.1 hp.out.sa.box).1
                have HC5:Hid (CrossAt W5 b off C/\b<W5.heap.size):=⟨HC.out.on hp.out.sa.bel hbw,Nat.lt_of_lt_of_le hbw hp.out.sa.bel.size⟩
                have hfit:=may_fit HM.out i s hil hsl
                have g1:=hfit.1
                have g2:=hfit.2.1
                obtain⟨z,hz⟩:∃ z:Nat,(C.getD i Cr.none).arc s=(z:Int):=⟨((C.getD i Cr.none).arc s).toNat,by omega⟩
                have hzN:z<N:=by omega
                obtain⟨q,hq⟩:∃ q,L.getD z 0=q:=⟨_,rfl⟩
                have hqN:q<N:=by rw[<-hq];exact HLS.out.lt hzN
                have HZ:Hid ((C.getD i Cr.none).arc s=(z:Int)):=hz
                have HQ:Hid (L.getD ((C.getD i Cr.none).arc s).toNat 0=q):=(by rw[hz];exact hq:L.getD ((C.getD i Cr.none).arc s).toNat 0=q)
                have HQ2:Hid (L.getD z 0=q):=hq
                clear hfit g1 g2 hz hq
                go_wp2_with (go_at_call 35;refine(arcAt_any b off cap loops C i s _ hil hsl HC5.out.2 HC5.out.1).mono ?_;rw[HZ.out];rintro e9 w6 ⟨rfl,hb6⟩;refine Hid.out ?_)
                refine Lib.hid ?_
                have HP6:Hid (ScAt w N gW gS gD #[.slice (some ⟨b,off,none⟩) C.length cap,.int .i64 loops] L (thTo C k L N i s) loops w6):=hp.out.on hb6
                clear hb6 c0 c1 lc5
                have d0:w6.cell? ⟨gW,z,none⟩=some (.int .i64 (q:Nat)):=by rw[HP6.out.sa.atL HLL.out z hzN,HQ2.out]
                have d1:w6.cell? ⟨gS,q,none⟩=some (.bool ((thTo C k L N i s).getD q true)):=HP6.out.sa.atS (thTo_len _ _ _ _ _ _) q hqN
                have f1:w6.frozen? ⟨gS,q,none⟩=false:=HP6.out.sa.st.frozenAt q
                have l6:=HP6.out.sa.ltS
                have l7:gW<w6.heap.size:=by omega
                have l8:gS<w6.heap.size:=by omega
                generalize (thTo C k L N i s).getD q true=bq at d1
                have HST:Hid (ScAt w N gW gS gD #[.slice (some ⟨b,off,none⟩) C.length cap,.int .i64 loops] L (thTo C k L N i (s+1)) loops (w6.setCell ⟨gS,q,none⟩ (.bool true))):=HP6.out.set (thTo_next C k L N i s q HIK.out HQ.out)
                go_wp2
                go_roundw
                case rel=>exact⟨s+1,by omega,by go_num,HST.out⟩
                case measure=>simp only[intOf];omega
              · obtain rfl:s=4:=by omega
                have HST:Hid (ScAt w N gW gS gD #[.slice (some ⟨b,off,none⟩) C.length cap,.int .i64 loops] L (thTo C k L N (i+1) 0) loops W5):=(by rw[<-thTo_row];exact hp.out:ScAt w N gW gS gD #[.slice (some ⟨b,off,none⟩) C.length cap,.int .i64 loops] L (thTo C k L N (i+1) 0) loops W5)
                clear hp
                go_wp2
                go_roundw
                case rel=>exact⟨i+1,by omega,by go_num,HST.out⟩
                case measure=>simp only[intOf];omega
         · obtain rfl:C.length=i:=by omega
           have hdi:decide ((C.length:Int)<(C.length:Int))=false:=by simp
           have hdi2:decide (C.length<C.length)=false:=by simp
           have HP5:Hid (ScAt w N gW gS gD #[.slice (some ⟨b,off,none⟩) C.length cap,.int .i64 loops] L (thTo C k L N C.length 0) loops W4):=hp.out
           have hsW:=HP5.out.sa.bel.size
           clear hp
           go_wp2_with (first|(at_make;refine wpList_make_full _ rfl _ _ 64 rfl W4.heap.size 3 i2 (.int .i64 0) 1 Try.underlying64 hki hx0 hx1 .i64 .i64 _ _ N rfl rfl rfl rfl (by rw[hx2];omega) (by unfold maxLen;omega) (by omega) ?_;intro w5 hrow hg5;refine Hid.out ?_))
           refine Lib.hid ?_
           obtain⟨P,hP⟩:∃ P,thB C k L C.length 0=P:=⟨_,rfl⟩
           obtain⟨Q,hQ⟩:∃ Q,nfB L P=Q:=⟨_,rfl⟩
           have HPQ:Hid (thB C k L C.length 0=P/\nfB L P=Q):=⟨hP,hQ⟩
           rw[made_zeroN,rfTo_zero P]at hrow
           have HB5 : Hid (∀ gN B, gN = W4.heap.size → B = w5.heap.size → SbAt w N gW gS gN gD B #[.slice (some ⟨b, off, none⟩) C.length cap, .int .i64 loops] L (thTo C k L N C.length 0) (rfTo P N 1) (.slice none 0 0) (loops + (cntB Q 1 : Nat)) [] w5) := (by
            intro gN B hgN hB
            have h1:=HP5.out.sa.ltS
            have h2:=HP5.out.lt
            have h3:=(Array.getElem?_eq_some_iff.1 HP5.out.od).1
            have h4:=hg5.size
            have h5:=hrow.lt W4.heap.size rfl
            have hsa:SaAt w N gW gS #[.slice (some ⟨b,off,none⟩) C.length cap,.int .i64 loops] L (thTo C k L N C.length 0) w5:=HP5.out.sa.kept2 hg5 (fun q hq=>by cases hq)
            rw[cntB_one]
            refine⟨hsa,by rw[hgN];exact own_low hrow (by omega),OutAt.nil (by have:=(hg5.block _ h3 (by simp)).trans HP5.out.od;simpa using this),by omega⟩:∀ gN B,gN=W4.heap.size->B=w5.heap.size->SbAt w N gW gS gN gD B #[.slice (some ⟨b,off,none⟩) C.length cap,.int .i64 loops] L (thTo C k L N C.length 0) (rfTo P N 1) (.slice none 0 0) (loops+(cntB Q 1:Nat)) [] w5)
           obtain⟨gN,hgN⟩:∃ g,W4.heap.size=g:=⟨_,rfl⟩
           obtain⟨B,hB⟩:∃ g,w5.heap.size=g:=⟨_,rfl⟩
           have HJ0:Hid (SbAt w N gW gS gN gD B #[.slice (some ⟨b,off,none⟩) C.length cap,.int .i64 loops] L (thTo C k L N C.length 0) (rfTo P N 1) (.slice none 0 0) (loops+(cntB Q 1:Nat)) [] w5):=HB5.out gN B hgN.symm hB.symm
           rw[hgN]
           clear HB5 hgN hB hrow hg5 HP5 hP hQ hsW
           go_wp2
           go_loopw [19,20] (fun v19 v20 wr=>∃ j:Nat,1<=j/\j<=N/\v20=.int .i64 (j:Nat)/\v19=.int .i64 ((cntB P j+1:Nat):Int)/\Hid (SbAt w N gW gS gN gD B #[.slice (some ⟨b,off,none⟩) C.length cap,.int .i64 loops] L (thTo C k L N C.length 0) (rfTo P N j) (.slice none 0 0) (loops+(cntB Q j:Nat)) [] wr)) (fun _ v20 _=>N-(intOf v20).toNat)
           case atStart=>exact⟨1,Nat.le_refl _,hN1,rfl,(by rw[cntB_one];rfl),HJ0.out⟩
           case round=>
            clear HJ0
            rename World=>W5
            obtain⟨j,hj1,hjn,rfl,rfl,hp⟩:=hrel
            have hcP:=cntB_le P j
            have hcQ:=cntB_le Q j
            obtain⟨cP,hcPe⟩:∃ c,cntB P j=c:=⟨_,rfl⟩
            obtain⟨cQ,hcQe⟩:∃ c,cntB Q j=c:=⟨_,rfl⟩
            have HCP:Hid (cntB P j=cP/\cntB Q j=cQ):=⟨hcPe,hcQe⟩
            have HP5:Hid (SbAt w N gW gS gN gD B #[.slice (some ⟨b,off,none⟩) C.length cap,.int .i64 loops] L (thTo C k L N C.length 0) (rfTo P N j) (.slice none 0 0) (loops+(cntB Q j:Nat)) [] W5):=hp.out
            rw[hcPe]at hcP ⊢
            rw[hcQe]at hcQ HP5
            clear hp hcPe hcQe
            by_cases hjl:j<N
            · have hdj:decide ((j:Int)<=2*(C.length:Int))=true:=by simp;omega
              obtain⟨bp,hbp⟩:∃ z,P j=z:=⟨_,rfl⟩
              have c2:W5.cell? ⟨gS,j,none⟩=some (.bool bp):=by rw[HP5.out.sa.atS (thTo_len _ _ _ _ _ _) j hjl,thTo_at _ _ _ _ _ _ _ hjl,HPQ.out.1,hbp]
              obtain⟨q,hq⟩:∃ q,L.getD j 0=q:=⟨_,rfl⟩
              have c0:W5.cell? ⟨gW,j,none⟩=some (.int .i64 (q:Nat)):=by rw[HP5.out.sa.atL HLL.out j hjl,hq]
              have HQV:Hid (P j=bp/\Q j=(!bp&&decide (q=j))):=⟨hbp,by rw[<-HPQ.out.2];unfold nfB;rw[hbp,hq]⟩
              have l1:=HP5.out.sa.ltS
              have l2:=HP5.out.ne
              have l3:gW<W5.heap.size:=by omega
              have l4:gN<W5.heap.size:=by omega
              have l5:gD<W5.heap.size:=by omega
              have l6:gS<W5.heap.size:=by omega
              clear hbp hq l1 l2
              cases bp with
              |true=>
               have c9:W5.cell? ⟨gN,j,none⟩=some (.int .i64 ((rfTo P N j).getD j 0:Nat)):=HP5.out.atM (rfTo_len _ _ _) j hjl
               have z0:W5.frozen? ⟨gN,j,none⟩=false:=HP5.out.num.frozenAt j
               generalize (rfTo P N j).getD j 0=u9 at c9
               have HST:Hid (SbAt w N gW gS gN gD B #[.slice (some ⟨b,off,none⟩) C.length cap,.int .i64 loops] L (thTo C k L N C.length 0) (rfTo P N (j+1)) (.slice none 0 0) (loops+(cntB Q (j+1):Nat)) [] (W5.setCell ⟨gN,j,none⟩ (.int .i64 ((cP+1:Nat):Int)))):=(by rw[cntB_no Q j HQV.out.2,HCP.out.2];exact HP5.out.set (by rw[<-HCP.out.1];exact rfTo_yes P N j hj1 HQV.out.1):SbAt w N gW gS gN gD B #[.slice (some ⟨b,off,none⟩) C.length cap,.int .i64 loops] L (thTo C k L N C.length 0) (rfTo P N (j+1)) (.slice none 0 0) (loops+(cntB Q (j+1):Nat)) [] (W5.setCell ⟨gN,j,none⟩ (.int .i64 ((cP+1:Nat):Int))))
               go_wp2
               go_roundw
               case rel=>exact⟨j+1,by omega,by omega,by go_num,(by rw[cntB_yes P j hj1 HQV.out.1,HCP.out.1];go_num),HST.out⟩
               case measure=>simp only[intOf];omega
              |false=>
               by_cases hqj:q=j
               · subst hqj
                 have hdq:((q:Int)==(q:Int))=true:=by simp
                 have HQT:Hid (Q q=true):=(by rw[HQV.out.2];simp:Q q=true)
                 have HST:Hid (SbAt w N gW gS gN gD B #[.slice (some ⟨b,off,none⟩) C.length cap,.int .i64 loops] L (thTo C k L N C.length 0) (rfTo P N (q+1)) (.slice none 0 0) (loops+(cntB Q (q+1):Nat)) [] (W5.setCell ⟨gD,1,none⟩ (.int .i64 (loops+(cQ:Int)+1)))):=(by rw[cntB_yes Q q hj1 HQT.out,HCP.out.2,<-rfTo_no P N q HQV.out.1];have e:loops+((cQ+1:Nat):Int)=loops+(cQ:Int)+1:=(by omega);rw[e];exact HP5.out.loop:SbAt w N gW gS gN gD B #[.slice (some ⟨b,off,none⟩) C.length cap,.int .i64 loops] L (thTo C k L N C.length 0) (rfTo P N (q+1)) (.slice none 0 0) (loops+(cntB Q (q+1):Nat)) [] (W5.setCell ⟨gD,1,none⟩ (.int .i64 (loops+(cQ:Int)+1))))
                 have d1:W5.cell? ⟨gD,1,none⟩=some (.int .i64 (loops+(cQ:Int))):=block_cell HP5.out.out.box rfl
                 have f1:W5.frozen? ⟨gD,1,none⟩=false:=block_frozen HP5.out.out.box
                 have hwr:IntKind.i64.wrap (loops+(cQ:Int)+1)=loops+(cQ:Int)+1:=IntWalk.i64_in _ (by omega)
                 go_wp2
                 go_roundw
                 case rel=>exact⟨q+1,by omega,by omega,by go_num,(by rw[cntB_no P q HQV.out.1,HCP.out.1]),HST.out⟩
                 case measure=>simp only[intOf];omega
               · have hdq:((q:Int)==(j:Int))=false:=by simp;omega
                 have hdq2:(q==j)=false:=by simp;omega
                 have HQT:Hid (Q j=false):=(by rw[HQV.out.2,decide_eq_false hqj];rfl:Q j=false)
                 have HST:Hid (SbAt w N gW gS gN gD B #[.slice (some ⟨b,off,none⟩) C.length cap,.int .i64 loops] L (thTo C k L N C.length 0) (rfTo P N (j+1)) (.slice none 0 0) (loops+(cntB Q (j+1):Nat)) [] W5):=(by rw[cntB_no Q j HQT.out,HCP.out.2,<-rfTo_no P N j HQV.out.1];exact HP5.out:SbAt w N gW gS gN gD B #[.slice (some ⟨b,off,none⟩) C.length cap,.int .i64 loops] L (thTo C k L N C.length 0) (rfTo P N (j+1)) (.slice none 0 0) (loops+(cntB Q (j+1):Nat)) [] W5)
                 clear hqj
                 go_wp2
                 go_roundw
                 case rel=>exact⟨j+1,by omega,by omega,by go_num,(by rw[cntB_no P j HQV.out.1,HCP.out.1]),HST.out⟩
                 case measure=>simp only[intOf];omega
            · obtain rfl:N=j:=by omega
              have hdj:decide ((N:Int)<=2*(C.length:Int))=false:=by simp;omega
              generalize ((cP+1:Nat):Int)=nxt
              go_wp2
              go_loopw [21] (fun v21 wr=>∃ (i:Nat) (v:Value) (D:List Cr),i<=C.length/\v21=.int .i64 (i:Nat)/\Hid (D=reTo C [k] (numM L P) i)/\D.length<=16/\Hid (SbAt w N gW gS gN gD B #[.slice (some ⟨b,off,none⟩) C.length cap,.int .i64 loops] L (thTo C k L N C.length 0) (rfTo P N N) v (loops+(cQ:Nat)) D wr)) (fun v21 _=>C.length-(intOf v21).toNat)
              case atStart=>exact⟨0,.slice none 0 0,[],Nat.zero_le _,rfl,(rfl:[]=reTo C [k] (numM L P) 0),by simp,HP5.out⟩
              case round=>
               clear HP5
               rename World=>W6
               obtain⟨i,v,D,hin,rfl,hDe,hDl,hp⟩:=hrel
               have hbel:=hp.out.sa.bel
               have c0:W6.cell? ⟨w.heap.size,0,none⟩=some (.slice (some ⟨b,off,none⟩) C.length cap):=block_cell hp.out.sa.box rfl
               have lc6:w.heap.size<W6.heap.size:=(Array.getElem?_eq_some_iff.1 hp.out.sa.box).1
               by_cases hil:i<C.length
               · have hdi:decide ((i:Int)<(C.length:Int))=true:=by simp;omega
                 have hdi2:decide (i<C.length)=true:=by simp;omega
                 by_cases hik:i=k
                 · have HST:Hid (D=reTo C [k] (numM L P) (i+1)):=(by rw[reTo_next,if_pos (by rw[hik];simp)];exact hDe.out:D=reTo C [k] (numM L P) (i+1))
                   have hd1:((i:Int)==(k:Int))=true:=by simp;omega
                   clear hik
                   go_wp2
                   go_roundw
                   case rel=>exact⟨i+1,v,D,by omega,by go_num,HST.out,hDl,hp.out⟩
                   case measure=>simp only[intOf];omega
                 · have hd1:((i:Int)==(k:Int))=false:=by simp;omega
                   have HDL:Hid (D.length<=i):=(by rw[hDe.out];exact reTo_len _ _ _ _:D.length<=i)
                   have HRN:Hid (reTo C [k] (numM L P) (i+1)=D++[reX (numM L P) (C.getD i Cr.none)]):=(by rw[reTo_next,if_neg (by simp;omega),<-hDe.out]:reTo C [k] (numM L P) (i+1)=D++[reX (numM L P) (C.getD i Cr.none)])
                   have HIK:Hid (i≠k):=hik
                   clear hik
                   obtain⟨p0,p1,p2,p3,xp,hxe,hp0,hp1,hp2,hp3⟩:=may_natsJ HM.out i hil
                   have HFP:Hid (∀ s,s<4->1<=(C.getD i Cr.none).arc s):=fun s hs=>(may_fit HM.out i s hil hs).1
                   have g0:=HFP.out 0 (by omega)
                   have g1:=HFP.out 1 (by omega)
                   have g2:=HFP.out 2 (by omega)
                   have g3:=HFP.out 3 (by omega)
                   obtain⟨m0,m1,m2,m3,m4⟩:=(HC.out.on hbel hbw) i hil
                   rw[hxe]at g0 g1 g2 g3 m0 m1 m2 m3 m4 HRN
                   have j0:1<=p0:=by simp[Cr.arc]at g0;omega
                   have j1:1<=p1:=by simp[Cr.arc]at g1;omega
                   have j2:1<=p2:=by simp[Cr.arc]at g2;omega
                   have j3:1<=p3:=by simp[Cr.arc]at g3;omega
                   clear g0 g1 g2 g3 HFP hxe
                   have HNU:Hid (∀ p,1<=p->p<N->(rfTo P N N).getD (L.getD p 0) 0=numM L P p):=fun p h1 h2=>by
                    have h3:=HLP.out p h1 h2
                    have h4:=HLS.out.lt h2
                    rw[rfTo_at _ _ _ _ h4]
                    unfold numM
                    by_cases hP:P (L.getD p 0)=true
                    · rw[if_pos ⟨h4,h3,hP⟩,if_pos hP]
                    · rw[if_neg (fun q=>hP q.2.2),if_neg hP]
                   have n0:p0<N:=by omega
                   obtain⟨r0,hr0⟩:∃ r,L.getD p0 0=r:=⟨_,rfl⟩
                   have q0:r0<N:=by rw[<-hr0];exact HLS.out.lt n0
                   obtain⟨f0,hf0⟩:∃ f,numM L P p0=f:=⟨_,rfl⟩
                   have HF0:Hid (L.getD p0 0=r0/\(rfTo P N N).getD r0 0=f0):=⟨hr0,by rw[<-hr0,HNU.out p0 j0 n0,hf0]⟩
                   have n1:p1<N:=by omega
                   obtain⟨r1,hr1⟩:∃ r,L.getD p1 0=r:=⟨_,rfl⟩
                   have q1:r1<N:=by rw[<-hr1];exact HLS.out.lt n1
                   obtain⟨f1,hf1⟩:∃ f,numM L P p1=f:=⟨_,rfl⟩
                   have HF1:Hid (L.getD p1 0=r1/\(rfTo P N N).getD r1 0=f1):=⟨hr1,by rw[<-hr1,HNU.out p1 j1 n1,hf1]⟩
                   have n2:p2<N:=by omega
                   obtain⟨r2,hr2⟩:∃ r,L.getD p2 0=r:=⟨_,rfl⟩
                   have q2:r2<N:=by rw[<-hr2];exact HLS.out.lt n2
                   obtain⟨f2,hf2⟩:∃ f,numM L P p2=f:=⟨_,rfl⟩
                   have HF2:Hid (L.getD p2 0=r2/\(rfTo P N N).getD r2 0=f2):=⟨hr2,by rw[<-hr2,HNU.out p2 j2 n2,hf2]⟩
                   have n3:p3<N:=by omega
                   obtain⟨r3,hr3⟩:∃ r,L.getD p3 0=r:=⟨_,rfl⟩
                   have q3:r3<N:=by rw[<-hr3];exact HLS.out.lt n3
                   obtain⟨f3,hf3⟩:∃ f,numM L P p3=f:=⟨_,rfl⟩
                   have HF3:Hid (L.getD p3 0=r3/\(rfTo P N N).getD r3 0=f3):=⟨hr3,by rw[<-hr3,HNU.out p3 j3 n3,hf3]⟩
                   have HXE:Hid (reX (numM L P) ⟨(p0:Nat),(p1:Nat),(p2:Nat),(p3:Nat),xp⟩=⟨(f0:Nat),(f1:Nat),(f2:Nat),(f3:Nat),xp⟩):=(by unfold reX;simp only[Int.toNat_natCast];rw[hf0,hf1,hf2,hf3]:reX (numM L P) ⟨(p0:Nat),(p1:Nat),(p2:Nat),(p3:Nat),xp⟩=⟨(f0:Nat),(f1:Nat),(f2:Nat),(f3:Nat),xp⟩)
                   rw[HXE.out]at HRN
                   clear hr0 hr1 hr2 hr3 hf0 hf1 hf2 hf3 HXE
                   have lb6:b<W6.heap.size:=Nat.lt_of_lt_of_le hbw hbel.size
                   obtain⟨Y,hY⟩:∃ Y,Y=W6.alloc (.cells #[.int .i64 (p0:Nat),.int .i64 (p1:Nat),.int .i64 (p2:Nat),.int .i64 (p3:Nat),.bool xp] 60):=⟨_,rfl⟩
                   have HY:Hid (Y=W6.alloc (.cells #[.int .i64 (p0:Nat),.int .i64 (p1:Nat),.int .i64 (p2:Nat),.int .i64 (p3:Nat),.bool xp] 60)):=hY
                   have hsY:W6.heap.size<Y.heap.size:=by rw[hY];simp
                   have HBY:Hid (Below W6.heap.size W6 Y):=(by rw[hY];exact(Below.refl _ _).alloc (Nat.le_refl _) _:Below W6.heap.size W6 Y)
                   have HTY:Hid (Y.heap[W6.heap.size]?=some (.cells #[.int .i64 (p0:Nat),.int .i64 (p1:Nat),.int .i64 (p2:Nat),.int .i64 (p3:Nat),.bool xp] 60 (0,0))):=(by rw[hY];exact alloc_at rfl:Y.heap[W6.heap.size]?=some (.cells #[.int .i64 (p0:Nat),.int .i64 (p1:Nat),.int .i64 (p2:Nat),.int .i64 (p3:Nat),.bool xp] 60 (0,0)))
                   clear hY
                   obtain⟨a3,c3',ev3⟩:=own_capS hp.out.out.row
                   subst ev3
                   have HVB:Hid (∀ q,(Value.slice a3 D.length c3').ownBlock=some q->B<=q/\q<W6.heap.size):=fun q e=>hp.out.out.row.lt q e
                   have HDY:Hid (Below Y.heap.size Y Y.drew):=(Below.refl _ _).drew
                   have HOD:Hid (SbAt w N gW gS gN gD B #[.slice (some ⟨b,off,none⟩) C.length cap,.int .i64 loops] L (thTo C k L N C.length 0) (rfTo P N N) (.slice a3 D.length c3') (loops+(cQ:Nat)) D Y.drew):=(hp.out.on HBY.out).on HDY.out
                   have hne:=HOD.out.ne
                   have hlS:=HOD.out.sa.ltS
                   have hgDB:gD<B:=hne.2.2.2.2.1
                   have HYY:Hid (Y.drew.heap.size=Y.heap.size):=(rfl:Y.drew.heap.size=Y.heap.size)
                   have HB6:Hid (B<=W6.heap.size):=hp.out.ne.2.2.2.2.2
                   have hBY:B<=Y.heap.size:=by have:=HB6.out;omega
                   have HKP:Hid (Y.drew.cell? ⟨W6.heap.size,0,none⟩=some (.int .i64 (p0:Nat))/\Y.drew.cell? ⟨W6.heap.size,1,none⟩=some (.int .i64 (p1:Nat))/\Y.drew.cell? ⟨W6.heap.size,2,none⟩=some (.int .i64 (p2:Nat))/\Y.drew.cell? ⟨W6.heap.size,3,none⟩=some (.int .i64 (p3:Nat))/\Y.drew.cell? ⟨W6.heap.size,4,none⟩=some (.bool xp)/\Y.drew.cell? ⟨gW,p0,none⟩=some (.int .i64 (r0:Nat))/\Y.drew.cell? ⟨gW,p1,none⟩=some (.int .i64 (r1:Nat))/\Y.drew.cell? ⟨gW,p2,none⟩=some (.int .i64 (r2:Nat))/\Y.drew.cell? ⟨gW,p3,none⟩=some (.int .i64 (r3:Nat))/\Y.drew.cell? ⟨gN,r0,none⟩=some (.int .i64 (f0:Nat))/\Y.drew.cell? ⟨gN,r1,none⟩=some (.int .i64 (f1:Nat))/\Y.drew.cell? ⟨gN,r2,none⟩=some (.int .i64 (f2:Nat))/\Y.drew.cell? ⟨gN,r3,none⟩=some (.int .i64 (f3:Nat))):=⟨block_cell HTY.out rfl,block_cell HTY.out rfl,block_cell HTY.out rfl,block_cell HTY.out rfl,block_cell HTY.out rfl,by rw[HOD.out.sa.atL HLL.out p0 n0,HF0.out.1],by rw[HOD.out.sa.atL HLL.out p1 n1,HF1.out.1],by rw[HOD.out.sa.atL HLL.out p2 n2,HF2.out.1],by rw[HOD.out.sa.atL HLL.out p3 n3,HF3.out.1],by rw[HOD.out.atM (rfTo_len _ _ _) r0 q0,HF0.out.2],by rw[HOD.out.atM (rfTo_len _ _ _) r1 q1,HF1.out.2],by rw[HOD.out.atM (rfTo_len _ _ _) r2 q2,HF2.out.2],by rw[HOD.out.atM (rfTo_len _ _ _) r3 q3,HF3.out.2]⟩
                   have HKG:Hid (∀ w8 o,(Y.drew.alloc o).grownBy w8 (Value.slice a3 D.length c3').ownBlock->w8.cell? ⟨W6.heap.size,0,none⟩=some (.int .i64 (p0:Nat))/\w8.cell? ⟨W6.heap.size,1,none⟩=some (.int .i64 (p1:Nat))/\w8.cell? ⟨W6.heap.size,2,none⟩=some (.int .i64 (p2:Nat))/\w8.cell? ⟨W6.heap.size,3,none⟩=some (.int .i64 (p3:Nat))/\w8.cell? ⟨W6.heap.size,4,none⟩=some (.bool xp)/\w8.cell? ⟨gW,p0,none⟩=some (.int .i64 (r0:Nat))/\w8.cell? ⟨gW,p1,none⟩=some (.int .i64 (r1:Nat))/\w8.cell? ⟨gW,p2,none⟩=some (.int .i64 (r2:Nat))/\w8.cell? ⟨gW,p3,none⟩=some (.int .i64 (r3:Nat))/\w8.cell? ⟨gN,r0,none⟩=some (.int .i64 (f0:Nat))/\w8.cell? ⟨gN,r1,none⟩=some (.int .i64 (f1:Nat))/\w8.cell? ⟨gN,r2,none⟩=some (.int .i64 (f2:Nat))/\w8.cell? ⟨gN,r3,none⟩=some (.int .i64 (f3:Nat))):=fun w8 o h8=>by
                    have hg:Y.drew.grownBy w8 (Value.slice a3 D.length c3').ownBlock:=grown_trans (World.grownBy_alloc _ _ _) h8
                    have e1:some W6.heap.size≠(Value.slice a3 D.length c3').ownBlock:=fun e=>by have:=HVB.out _ e.symm;omega
                    have e2:some gW≠(Value.slice a3 D.length c3').ownBlock:=fun e=>by have:=HVB.out _ e.symm;omega
                    have e3:some gN≠(Value.slice a3 D.length c3').ownBlock:=fun e=>by have:=HVB.out _ e.symm;omega
                    have b1:W6.heap.size<Y.drew.heap.size:=by rw[HYY.out];exact hsY
                    have b2:gW<Y.drew.heap.size:=by omega
                    have b3:gN<Y.drew.heap.size:=by omega
                    obtain⟨k0,k1,k2,k3,k4,k5,k6,k7,k8,k9,k10,k11,k12⟩:=HKP.out
                    exact⟨gcellS hg b1 e1 k0,gcellS hg b1 e1 k1,gcellS hg b1 e1 k2,gcellS hg b1 e1 k3,gcellS hg b1 e1 k4,gcellS hg b2 e2 k5,gcellS hg b2 e2 k6,gcellS hg b2 e2 k7,gcellS hg b2 e2 k8,gcellS hg b3 e3 k9,gcellS hg b3 e3 k10,gcellS hg b3 e3 k11,gcellS hg b3 e3 k12⟩
                   have HKA:Hid (∀ o,(Y.drew.alloc o).cell? ⟨W6.heap.size,0,none⟩=some (.int .i64 (p0:Nat))/\(Y.drew.alloc o).cell? ⟨W6.heap.size,1,none⟩=some (.int .i64 (p1:Nat))/\(Y.drew.alloc o).cell? ⟨W6.heap.size,2,none⟩=some (.int .i64 (p2:Nat))/\(Y.drew.alloc o).cell? ⟨W6.heap.size,3,none⟩=some (.int .i64 (p3:Nat))/\(Y.drew.alloc o).cell? ⟨W6.heap.size,4,none⟩=some (.bool xp)/\(Y.drew.alloc o).cell? ⟨gW,p0,none⟩=some (.int .i64 (r0:Nat))/\(Y.drew.alloc o).cell? ⟨gW,p1,none⟩=some (.int .i64 (r1:Nat))/\(Y.drew.alloc o).cell? ⟨gW,p2,none⟩=some (.int .i64 (r2:Nat))/\(Y.drew.alloc o).cell? ⟨gW,p3,none⟩=some (.int .i64 (r3:Nat))/\(Y.drew.alloc o).cell? ⟨gN,r0,none⟩=some (.int .i64 (f0:Nat))/\(Y.drew.alloc o).cell? ⟨gN,r1,none⟩=some (.int .i64 (f1:Nat))/\(Y.drew.alloc o).cell? ⟨gN,r2,none⟩=some (.int .i64 (f2:Nat))/\(Y.drew.alloc o).cell? ⟨gN,r3,none⟩=some (.int .i64 (f3:Nat))):=fun o=>HKG.out _ o ⟨rfl,rfl,rfl,Nat.le_refl _,fun _ _ _=>rfl⟩
                   have HKU:Hid (∀ (w8:World) (u:Value),(w8.cell? ⟨W6.heap.size,0,none⟩=some (.int .i64 (p0:Nat))/\w8.cell? ⟨W6.heap.size,1,none⟩=some (.int .i64 (p1:Nat))/\w8.cell? ⟨W6.heap.size,2,none⟩=some (.int .i64 (p2:Nat))/\w8.cell? ⟨W6.heap.size,3,none⟩=some (.int .i64 (p3:Nat))/\w8.cell? ⟨W6.heap.size,4,none⟩=some (.bool xp)/\w8.cell? ⟨gW,p0,none⟩=some (.int .i64 (r0:Nat))/\w8.cell? ⟨gW,p1,none⟩=some (.int .i64 (r1:Nat))/\w8.cell? ⟨gW,p2,none⟩=some (.int .i64 (r2:Nat))/\w8.cell? ⟨gW,p3,none⟩=some (.int .i64 (r3:Nat))/\w8.cell? ⟨gN,r0,none⟩=some (.int .i64 (f0:Nat))/\w8.cell? ⟨gN,r1,none⟩=some (.int .i64 (f1:Nat))/\w8.cell? ⟨gN,r2,none⟩=some (.int .i64 (f2:Nat))/\w8.cell? ⟨gN,r3,none⟩=some (.int .i64 (f3:Nat)))->Y.drew.heap.size<=w8.heap.size->(w8.setCell ⟨gD,0,none⟩ u).cell? ⟨W6.heap.size,0,none⟩=some (.int .i64 (p0:Nat))/\(w8.setCell ⟨gD,0,none⟩ u).cell? ⟨W6.heap.size,1,none⟩=some (.int .i64 (p1:Nat))/\(w8.setCell ⟨gD,0,none⟩ u).cell? ⟨W6.heap.size,2,none⟩=some (.int .i64 (p2:Nat))/\(w8.setCell ⟨gD,0,none⟩ u).cell? ⟨W6.heap.size,3,none⟩=some (.int .i64 (p3:Nat))/\(w8.setCell ⟨gD,0,none⟩ u).cell? ⟨W6.heap.size,4,none⟩=some (.bool xp)/\(w8.setCell ⟨gD,0,none⟩ u).cell? ⟨gW,p0,none⟩=some (.int .i64 (r0:Nat))/\(w8.setCell ⟨gD,0,none⟩ u).cell? ⟨gW,p1,none⟩=some (.int .i64 (r1:Nat))/\(w8.setCell ⟨gD,0,none⟩ u).cell? ⟨gW,p2,none⟩=some (.int .i64 (r2:Nat))/\(w8.setCell ⟨gD,0,none⟩ u).cell? ⟨gW,p3,none⟩=some (.int .i64 (r3:Nat))/\(w8.setCell ⟨gD,0,none⟩ u).cell? ⟨gN,r0,none⟩=some (.int .i64 (f0:Nat))/\(w8.setCell ⟨gD,0,none⟩ u).cell? ⟨gN,r1,none⟩=some (.int .i64 (f1:Nat))/\(w8.setCell ⟨gD,0,none⟩ u).cell? ⟨gN,r2,none⟩=some (.int .i64 (f2:Nat))/\(w8.setCell ⟨gD,0,none⟩ u).cell? ⟨gN,r3,none⟩=some (.int .i64 (f3:Nat))):=fun w8 u hk8 hz=>by
                    have hg:=set_grown w8 gD 0 u
                    have e1:some W6.heap.size≠some gD:=fun e=>by have:=Option.some.inj e;have:=HB6.out;omega
                    have e2:some gW≠some gD:=fun e=>by have:=Option.some.inj e;omega
                    have e3:some gN≠some gD:=fun e=>by have:=Option.some.inj e;omega
                    have b1:W6.heap.size<w8.heap.size:=by have:=HYY.out;omega
                    have b2:gW<w8.heap.size:=by omega
                    have b3:gN<w8.heap.size:=by omega
                    obtain⟨k0,k1,k2,k3,k4,k5,k6,k7,k8,k9,k10,k11,k12⟩:=hk8
                    exact⟨gcellS hg b1 e1 k0,gcellS hg b1 e1 k1,gcellS hg b1 e1 k2,gcellS hg b1 e1 k3,gcellS hg b1 e1 k4,gcellS hg b2 e2 k5,gcellS hg b2 e2 k6,gcellS hg b2 e2 k7,gcellS hg b2 e2 k8,gcellS hg b3 e3 k9,gcellS hg b3 e3 k10,gcellS hg b3 e3 k11,gcellS hg b3 e3 k12⟩
                   have t0:Y.cell? ⟨gD,0,none⟩=some (.slice a3 D.length c3'):=block_cell HOD.out.out.box rfl
                   have t1:gD<Y.heap.size:=by have:=HYY.out;omega
                   clear hp hbel
                   go_upto_region 41 with(fail)
                   rw[<-HY.out]
                   clear c0 m0 m1 m2 m3 m4
                   refine wp_region_held_drew (S:=(fun w'=>w'.cell? ⟨W6.heap.size,0,none⟩=some (.int .i64 (p0:Nat))/\w'.cell? ⟨W6.heap.size,1,none⟩=some (.int .i64 (p1:Nat))/\w'.cell? ⟨W6.heap.size,2,none⟩=some (.int .i64 (p2:Nat))/\w'.cell? ⟨W6.heap.size,3,none⟩=some (.int .i64 (p3:Nat))/\w'.cell? ⟨W6.heap.size,4,none⟩=some (.bool xp)/\w'.cell? ⟨gW,p0,none⟩=some (.int .i64 (r0:Nat))/\w'.cell? ⟨gW,p1,none⟩=some (.int .i64 (r1:Nat))/\w'.cell? ⟨gW,p2,none⟩=some (.int .i64 (r2:Nat))/\w'.cell? ⟨gW,p3,none⟩=some (.int .i64 (r3:Nat))/\w'.cell? ⟨gN,r0,none⟩=some (.int .i64 (f0:Nat))/\w'.cell? ⟨gN,r1,none⟩=some (.int .i64 (f1:Nat))/\w'.cell? ⟨gN,r2,none⟩=some (.int .i64 (f2:Nat))/\w'.cell? ⟨gN,r3,none⟩=some (.int .i64 (f3:Nat)))) (by kernel_rfl) HKP.out (fun hHeld=>?_)
                   refine tq 147 0 (h:=?_)
                   refine tq 149 2 (h:=?_)
                   refine tq 150 3 (h:=?_)
                   refine tq 151 4 (h:=?_)
                   refine tq 152 5 (h:=?_)
                   refine tq 153 6 (h:=?_)
                   refine tq 154 7 (h:=?_)
                   refine tq 155 8 (h:=?_)
                   refine tq 156 9 (h:=?_)
                   refine tq 157 10 (h:=?_)
                   refine tq 158 11 (h:=?_)
                   refine tq 159 12 (h:=?_)
                   refine tq 160 13 (h:=?_)
                   refine tq 161 14 (h:=?_)
                   refine tq 162 15 (h:=?_)
                   refine tq 163 16 (h:=?_)
                   refine tq 164 17 (h:=?_)
                   refine tq 165 18 (h:=?_)
                   refine tq 166 19 (h:=?_)
                   refine tq 167 20 (h:=?_)
                   refine tq 168 21 (h:=?_)
                   refine tq 169 22 (h:=?_)
                   refine tq 170 23 (h:=?_)
                   refine tq 171 24 (h:=?_)
                   refine tq 172 25 (h:=?_)
                   refine tq 173 26 (h:=?_)
                   refine tq 174 27 (h:=?_)
                   refine tq 175 28 (h:=?_)
                   refine tq 176 29 (h:=?_)
                   refine tq 177 30 (h:=?_)
                   refine tq 178 31 (h:=?_)
                   refine tq 179 32 (h:=?_)
                   refine tq 180 33 (h:=?_)
                   refine tq 181 34 (h:=?_)
                   refine tq 182 35 (h:=?_)
                   refine tq 183 36 (h:=?_)
                   simp only[List.setIfInBounds_toArray,List.set_cons_succ,List.set_cons_zero]
                   refine wpAnyH_ready (rs:=[1,37]) (by kernel_rfl) (by simp) ?_
                   refine AllReadyH.cons (i:=1) (rs:=[37]) rfl (fun K hK=>?_) (AllReadyH.cons (i:=37) (rs:=[]) rfl (fun K hK=>?_) AllReadyH.nil)
                   · go_simp
                     refine hK.out _ _ HKP.out (fun hHeld=>?_)
                     clear hK K
                     refine rd1 37 (fun K hK=>?_)
                     go_simp
                     refine hK.out _ _ (HKA.out _) (fun hHeld=>?_)
                     clear hK K
                     refine rd1 38 (fun K hK=>?_)
                     refine step_append_own rfl (.tmp 148) (.tmp 184) 22 rfl B 60 i0 (.agg #[.int .i64 0,.int .i64 0,.int .i64 0,.int .i64 0,.bool false]) 5 40 Try.underlying22 hi hz0 hz1 hz2 rfl (by decide) _ D.length _ (by simp[Act.eval]) (HOD.out.out.row.alloc _) ⟨Y.drew.heap.size,0,none⟩ 1 1 [.int .i64 (f0:Nat),.int .i64 (f1:Nat),.int .i64 (f2:Nat),.int .i64 (f3:Nat),.bool xp] (by simp[Act.eval]) rfl (new_cell5 _ _ _ _ _ _ _) (cells_one [(⟨(f0:Nat),(f1:Nat),(f2:Nat),(f3:Nat),xp⟩:Cr)]) (by unfold maxLen;omega) (by omega) (by simp;omega) ?_
                     intro v8 w8 hown8 hg8
                     have HOW8:Hid (w8.ownsRow B 60 5 v8 (D.length+1) (crossCells D++crossCells [(⟨(f0:Nat),(f1:Nat),(f2:Nat),(f3:Nat),xp⟩:Cr)])):=hown8
                     have HG8:Hid ((Y.drew.alloc (.cells #[.int .i64 (f0:Nat),.int .i64 (f1:Nat),.int .i64 (f2:Nat),.int .i64 (f3:Nat),.bool xp] 60)).grownBy w8 (Value.slice a3 D.length c3').ownBlock):=hg8
                     obtain⟨a8,c8,ev8⟩:=own_capS HOW8.out
                     subst ev8
                     have hb8:=HOD.out.out.box8 hgDB HG8.out
                     have r0':w8.cell? ⟨gD,0,none⟩=some (.slice a3 D.length c3'):=block_cell hb8 rfl
                     have r1':w8.frozen? ⟨gD,0,none⟩=false:=block_frozen hb8
                     have r2':gD<w8.heap.size:=(Array.getElem?_eq_some_iff.1 hb8).1
                     have HKW:=HKG.out _ _ HG8.out
                     have HKV:=HKU.out _ (.slice a8 (D.length+1) c8) HKW (by have h:=HG8.out.size;have e:=HYY.out;simp only[World.size_alloc]at h;omega)
                     clear hown8 hg8 hb8
                     refine hK.out _ _ HKW (fun hHeld=>?_)
                     clear hK K
                     refine tq 186 39 (h:=?_)
                     simp only[List.setIfInBounds_toArray,List.set_cons_succ,List.set_cons_zero]
                     refine rd1 40 (fun K hK=>?_)
                     go_simp
                     refine hK.out _ _ HKV (fun hHeld=>?_)
                     clear hK K
                     refine wpAnyH_done (by kernel_rfl) ?_ _
                     have HFIN:Hid (SbAt w N gW gS gN gD B #[.slice (some ⟨b,off,none⟩) C.length cap,.int .i64 loops] L (thTo C k L N C.length 0) (rfTo P N N) (.slice a8 (D.length+1) c8) (loops+(cQ:Nat)) (D++[(⟨(f0:Nat),(f1:Nat),(f2:Nat),(f3:Nat),xp⟩:Cr)]) (w8.setCell ⟨gD,0,none⟩ (.slice a8 (D.length+1) c8))):=HOD.out.app rfl HOW8.out HG8.out
                     clear hHeld t0 r0' r1' HKW HKV
                     go_wp2
                     go_roundw
                     all_goals first
                      |(simp only[intOf];omega)
                      |exact⟨i+1,.slice a8 (D.length+1) c8,D++[(⟨(f0:Nat),(f1:Nat),(f2:Nat),(f3:Nat),xp⟩:Cr)],by omega,by go_num,(HRN.out.symm:D++[(⟨(f0:Nat),(f1:Nat),(f2:Nat),(f3:Nat),xp⟩:Cr)]=reTo C [k] (numM L P) (i+1)),(by have:=HDL.out;simp;omega),HFIN.out⟩
                   · go_simp
                     refine hK.out _ _ (HKA.out _) (fun hHeld=>?_)
                     clear hK K
                     refine rd1 1 (fun K hK=>?_)
                     go_simp
                     refine hK.out _ _ (HKA.out _) (fun hHeld=>?_)
                     clear hK K
                     refine rd1 38 (fun K hK=>?_)
                     refine step_append_own rfl (.tmp 148) (.tmp 184) 22 rfl B 60 i0 (.agg #[.int .i64 0,.int .i64 0,.int .i64 0,.int .i64 0,.bool false]) 5 40 Try.underlying22 hi hz0 hz1 hz2 rfl (by decide) _ D.length _ (by simp[Act.eval]) (HOD.out.out.row.alloc _) ⟨Y.drew.heap.size,0,none⟩ 1 1 [.int .i64 (f0:Nat),.int .i64 (f1:Nat),.int .i64 (f2:Nat),.int .i64 (f3:Nat),.bool xp] (by simp[Act.eval]) rfl (new_cell5 _ _ _ _ _ _ _) (cells_one [(⟨(f0:Nat),(f1:Nat),(f2:Nat),(f3:Nat),xp⟩:Cr)]) (by unfold maxLen;omega) (by omega) (by simp;omega) ?_
                     intro v8 w8 hown8 hg8
                     have HOW8:Hid (w8.ownsRow B 60 5 v8 (D.length+1) (crossCells D++crossCells [(⟨(f0:Nat),(f1:Nat),(f2:Nat),(f3:Nat),xp⟩:Cr)])):=hown8
                     have HG8:Hid ((Y.drew.alloc (.cells #[.int .i64 (f0:Nat),.int .i64 (f1:Nat),.int .i64 (f2:Nat),.int .i64 (f3:Nat),.bool xp] 60)).grownBy w8 (Value.slice a3 D.length c3').ownBlock):=hg8
                     obtain⟨a8,c8,ev8⟩:=own_capS HOW8.out
                     subst ev8
                     have hb8:=HOD.out.out.box8 hgDB HG8.out
                     have r0':w8.cell? ⟨gD,0,none⟩=some (.slice a3 D.length c3'):=block_cell hb8 rfl
                     have r1':w8.frozen? ⟨gD,0,none⟩=false:=block_frozen hb8
                     have r2':gD<w8.heap.size:=(Array.getElem?_eq_some_iff.1 hb8).1
                     have HKW:=HKG.out _ _ HG8.out
                     have HKV:=HKU.out _ (.slice a8 (D.length+1) c8) HKW (by have h:=HG8.out.size;have e:=HYY.out;simp only[World.size_alloc]at h;omega)
                     clear hown8 hg8 hb8
                     refine hK.out _ _ HKW (fun hHeld=>?_)
                     clear hK K
                     refine tq 186 39 (h:=?_)
                     simp only[List.setIfInBounds_toArray,List.set_cons_succ,List.set_cons_zero]
                     refine rd1 40 (fun K hK=>?_)
                     go_simp
                     refine hK.out _ _ HKV (fun hHeld=>?_)
                     clear hK K
                     refine wpAnyH_done (by kernel_rfl) ?_ _
                     have HFIN:Hid (SbAt w N gW gS gN gD B #[.slice (some ⟨b,off,none⟩) C.length cap,.int .i64 loops] L (thTo C k L N C.length 0) (rfTo P N N) (.slice a8 (D.length+1) c8) (loops+(cQ:Nat)) (D++[(⟨(f0:Nat),(f1:Nat),(f2:Nat),(f3:Nat),xp⟩:Cr)]) (w8.setCell ⟨gD,0,none⟩ (.slice a8 (D.length+1) c8))):=HOD.out.app rfl HOW8.out HG8.out
                     clear hHeld t0 r0' r1' HKW HKV
                     go_wp2
                     go_roundw
                     all_goals first
                      |(simp only[intOf];omega)
                      |exact⟨i+1,.slice a8 (D.length+1) c8,D++[(⟨(f0:Nat),(f1:Nat),(f2:Nat),(f3:Nat),xp⟩:Cr)],by omega,by go_num,(HRN.out.symm:D++[(⟨(f0:Nat),(f1:Nat),(f2:Nat),(f3:Nat),xp⟩:Cr)]=reTo C [k] (numM L P) (i+1)),(by have:=HDL.out;simp;omega),HFIN.out⟩
               · obtain rfl:i=C.length:=by omega
                 have hdi:decide ((C.length:Int)<(C.length:Int))=false:=by simp
                 have hdi2:decide (C.length<C.length)=false:=by simp
                 have HDE:Hid (reTo C [k] (numM L (thB C k L C.length 0)) C.length=D):=(by rw[HPQ.out.1];exact hDe.out.symm:reTo C [k] (numM L (thB C k L C.length 0)) C.length=D)
                 have HQE:Hid (cntB (nfB L (thB C k L C.length 0)) N=cQ):=(by rw[HPQ.out.1,HPQ.out.2];exact HCP.out.2:cntB (nfB L (thB C k L C.length 0)) N=cQ)
                 have HP6:Hid (SbAt w N gW gS gN gD B #[.slice (some ⟨b,off,none⟩) C.length cap,.int .i64 loops] L (thTo C k L N C.length 0) (rfTo P N N) v (loops+(cQ:Nat)) D W6):=hp.out
                 clear hDe hp
                 obtain⟨a3,c3',ev3⟩:=own_capS HP6.out.out.row
                 subst ev3
                 have hlS:=HP6.out.sa.ltS
                 have hne:=HP6.out.ne
                 have t0:W6.cell? ⟨gD,0,none⟩=some (.slice a3 D.length c3'):=block_cell HP6.out.out.box rfl
                 have t1:W6.cell? ⟨gD,1,none⟩=some (.int .i64 (loops+(cQ:Int))):=block_cell HP6.out.out.box rfl
                 have t2:W6.cell? ⟨w.heap.size+1,0,none⟩=some (.slice none 0 0):=block_cell HP6.out.sa.res rfl
                 have t3:W6.cell? ⟨w.heap.size+1,1,none⟩=some (.int .i64 0):=block_cell HP6.out.sa.res rfl
                 have f0:W6.frozen? ⟨w.heap.size+1,0,none⟩=false:=block_frozen HP6.out.sa.res
                 have f1:W6.frozen? ⟨w.heap.size+1,1,none⟩=false:=block_frozen HP6.out.sa.res
                 have l7:gD<W6.heap.size:=by omega
                 have l8:w.heap.size+1<W6.heap.size:=by omega
                 go_wp2
                 have hX:=set_block (i:=1) (u:=.int .i64 (loops+(cQ:Int))) (set_block (i:=0) (u:=.slice a3 D.length c3') HP6.out.sa.res)
                 have x0:=block_cell (i:=0) (v:=.slice a3 D.length c3') hX rfl
                 have x1:=block_cell (i:=1) (v:=.int .i64 (loops+(cQ:Int))) hX rfl
                 have hgg:=st2_grown W6 (w.heap.size+1) 0 (.slice a3 D.length c3') (.int .i64 (loops+(cQ:Int)))
                 have hk' := HP6.out.out.row.kept hgg (by
                  cases hv:(Value.slice a3 D.length c3').ownBlock with
                  |none=>exact Or.inl rfl
                  |some k=>exact Or.inr (fun e=>by have h1:=(HP6.out.out.row.lt k hv).1;have h2:=Option.some.inj e;omega))
                 refine bodyPost_ret (v:=.agg #[.slice a3 D.length c3',.int .i64 (loops+(cQ:Int))]) (by simp[results,Try.results21,go_sem,x0,x1]) rfl ?_
                 rw[HDE.out,HQE.out]
                 exact⟨_,rfl,own_low hk' (by omega),hbel.grown hgg (by omega) (fun q hq=>by have:=Option.some.inj hq;omega)⟩
 |false=>
  rw[if_neg (by decide)]at HSD
  go_upto_region 2 with(fail)
  rw[<-HW0.out]
  go_quiet (fail)
  have HDW:Hid (Below w0.heap.size w0 (w0.drewN nq)):=below_drewN (Below.refl _ _) nq
  generalize w0.drewN nq=W0 at HDW ⊢
  have e4':W0.cell? ⟨w.heap.size+1+1,4,none⟩=some (.bool false):=bcell HDW.out lz e4
  have u0':W0.cell? ⟨w.heap.size,0,none⟩=some (.slice (some ⟨b,off,none⟩) C.length cap):=bcell HDW.out (by omega) u0
  have lw':w.heap.size<W0.heap.size:=Nat.lt_of_lt_of_le (by omega) HDW.out.size
  have lz':w.heap.size+1+1<W0.heap.size:=Nat.lt_of_lt_of_le lz HDW.out.size
  obtain⟨pa,hpa⟩:∃ p,xa=p:=⟨_,rfl⟩
  obtain⟨pb,hpb⟩:∃ p,xd=p:=⟨_,rfl⟩
  obtain⟨px,hpx⟩:∃ p,xb=p:=⟨_,rfl⟩
  obtain⟨py,hpy⟩:∃ p,xc=p:=⟨_,rfl⟩
  have HPE:Hid (smE C k=[(pa,pb),(px,py)]):=(by rw[HSD.out,hpa,hpb,hpx,hpy]:smE C k=[(pa,pb),(px,py)])
  have lpa:pa<N:=by omega
  have lpb:pb<N:=by omega
  have lpx:px<N:=by omega
  have lpy:py<N:=by omega
  rw[hpa,hpb,hpx,hpy]
  clear hpa hpb hpx hpy HSD
  go_wp2_with (first|(at_make;refine wpList_make_full _ rfl _ _ 64 rfl (w.heap.size+2) 3 i2 (.int .i64 0) 1 Try.underlying64 hki hx0 hx1 .i64 .i64 _ _ N rfl rfl rfl rfl (by rw[hx2];omega) (by unfold maxLen;omega) (by have:=HDW.out.size;have:=HS0.out;omega) ?_;intro w1 hrow hg1;refine Hid.out ?_))
  refine Lib.hid ?_
  rw[made_zeroN,labTo_zero]at hrow
  obtain⟨gW,hgW⟩:∃ g,W0.heap.size=g:=⟨_,rfl⟩
  rw[hgW]at hrow ⊢
  have HP0 : Hid (SmAt w N gW #[.slice (some ⟨b, off, none⟩) C.length cap, .int .i64 loops] (labTo N 0) w1) := (by
   have h3:=HS0.out
   have h4:=HDW.out.size
   have hz:=hg1.size
   exact⟨(hg1.block _ (by omega) (by simp)).trans ((HDW.out.block _ (by omega)).trans HT0.out),(hg1.block _ (by omega) (by simp)).trans ((HDW.out.block _ (by omega)).trans HT1.out),hrow,(HB0.out.trans (HDW.out.mono (by omega))).grown hg1 (by omega) (fun q hq=>by cases hq)⟩:SmAt w N gW #[.slice (some ⟨b,off,none⟩) C.length cap,.int .i64 loops] (labTo N 0) w1)
  clear hrow hg1 hgW HDW e0 e1 e2 e3 e4 u0 m0 m1 m2 m3 m4 lz HT0 HT1 HT2 HB0 HW0 HS0
  go_wp2
  go_loopw [12] (fun v12 wr=>∃ i:Nat,i<=N/\v12=.int .i64 (i:Nat)/\Hid (SmAt w N gW #[.slice (some ⟨b,off,none⟩) C.length cap,.int .i64 loops] (labTo N i) wr)) (fun v12 _=>N-(intOf v12).toNat)
  case atStart=>exact⟨0,Nat.zero_le _,rfl,HP0.out⟩
  case round=>
   clear HP0
   rename World=>W1
   obtain⟨i,hin,rfl,hp⟩:=hrel
   have hlt:=hp.out.lt.2
   by_cases hil:i<N
   · have HST:Hid (SmAt w N gW #[.slice (some ⟨b,off,none⟩) C.length cap,.int .i64 loops] (labTo N (i+1)) (W1.setCell ⟨gW,i,none⟩ (.int .i64 (i:Nat)))):=hp.out.set (labTo_next N i)
     have e0:=hp.out.at_ (by simp[labTo]) i hil
     have z0:W1.frozen? ⟨gW,i,none⟩=false:=hp.out.row.frozenAt i
     have hdi:(i:Int)<=2*(C.length:Int):=by omega
     generalize (labTo N i).getD i 0=u at e0
     go_wp2
     go_roundw
     case rel=>exact⟨i+1,by omega,by go_num,HST.out⟩
     case measure=>simp only[intOf];omega
   · obtain rfl:N=i:=by omega
     have HP1:Hid (SmAt w N gW #[.slice (some ⟨b,off,none⟩) C.length cap,.int .i64 loops] (levR (List.range N) [(pa,pb),(px,py)] 0) W1):=(by have h:=hp.out;rw[labTo_all]at h;exact h:SmAt w N gW #[.slice (some ⟨b,off,none⟩) C.length cap,.int .i64 loops] (levR (List.range N) [(pa,pb),(px,py)] 0) W1)
     have hdn:decide ((N:Int)<=2*(C.length:Int))=false:=by simp;omega
     clear hp hlt
     go_wp2
     go_loopw [13] (fun v13 wr=>∃ r:Nat,r<=3/\v13=.int .i64 (r:Nat)/\Hid (SmAt w N gW #[.slice (some ⟨b,off,none⟩) C.length cap,.int .i64 loops] (levR (List.range N) [(pa,pb),(px,py)] r) wr)) (fun v13 _=>3-(intOf v13).toNat)
     case atStart=>exact⟨0,by omega,rfl,HP1.out⟩
     case round=>
      clear HP1
      rename World=>W2
      obtain⟨r,hr3,rfl,hp⟩:=hrel
      by_cases hrl:r<3
      · have HRN:Hid (levR (List.range N) [(pa,pb),(px,py)] (r+1)=lev (lev (levR (List.range N) [(pa,pb),(px,py)] r) pa pb) px py):=(rfl:levR (List.range N) [(pa,pb),(px,py)] (r+1)=_)
        generalize levR (List.range N) [(pa,pb),(px,py)] r=V at HRN hp
        go_wp2_with (first
         |(have hAA:=HLA;clear hAA;go_at_call 37;refine(level_any (w.heap.size+2) gW N N px py (lev V pa pb) _ lpx lpy HLA.out.row).mono ?_;rintro e9 w4 ⟨rfl,hr4,hg4⟩;have HLB:Hid (SmAt w N gW #[.slice (some ⟨b,off,none⟩) C.length cap,.int .i64 loops] (lev (lev V pa pb) px py) w4):=HLA.out.to hg4 hr4;clear hr4 hg4)
         |(go_at_call 37;refine(level_any (w.heap.size+2) gW N N pa pb V _ lpa lpb hp.out.row).mono ?_;rintro e9 w3 ⟨rfl,hr3',hg3⟩;have HLA:Hid (SmAt w N gW #[.slice (some ⟨b,off,none⟩) C.length cap,.int .i64 loops] (lev V pa pb) w3):=hp.out.to hg3 hr3';clear hr3' hg3))
        go_roundw
        case rel=>exact⟨r+1,by omega,by go_num,(by rw[HRN.out];exact HLB.out:SmAt w N gW #[.slice (some ⟨b,off,none⟩) C.length cap,.int .i64 loops] (levR (List.range N) [(pa,pb),(px,py)] (r+1)) w4)⟩
        case measure=>simp only[intOf];omega
      · obtain rfl:r=3:=by omega
        have HP3:Hid (SmAt w N gW #[.slice (some ⟨b,off,none⟩) C.length cap,.int .i64 loops] L W2):=(by have h:=hp.out;rw[<-HPE.out,HSL.out]at h;exact h:SmAt w N gW #[.slice (some ⟨b,off,none⟩) C.length cap,.int .i64 loops] L W2)
        have hsW:=HP3.out.bel.size
        have hlW:=HP3.out.lt
        have hdn3:decide ((3:Int)<3)=false:=by simp
        clear hp
        go_wp2_with (first|(at_make;refine wpList_make_full _ rfl _ _ 85 rfl W2.heap.size 4 i3 (.bool false) 1 Try.underlying85 hj hy0 hy1 .i64 .i64 _ _ N rfl rfl rfl rfl (by rw[hy2];omega) (by unfold maxLen;omega) (by omega) ?_;intro w3 hrow hg3;refine Hid.out ?_))
        refine Lib.hid ?_
        rw[made_false,thTo_zero C k L]at hrow
        have HA3:Hid (SaAt w N gW W2.heap.size #[.slice (some ⟨b,off,none⟩) C.length cap,.int .i64 loops] L (thTo C k L N 0 0) w3):=⟨(hg3.block _ (Array.getElem?_eq_some_iff.1 HP3.out.box).1 (by simp)).trans HP3.out.box,(hg3.block _ (Array.getElem?_eq_some_iff.1 HP3.out.res).1 (by simp)).trans HP3.out.res,own_any HP3.out.row hg3,hrow,hlW.2,HP3.out.bel.grown hg3 HP3.out.bel.size (fun q hq=>by cases hq)⟩
        obtain⟨gS,hgS⟩:∃ g,W2.heap.size=g:=⟨_,rfl⟩
        rw[hgS]at HA3 ⊢
        clear hrow hg3 hgS HP3 hsW hlW
        have b1:w3.cell? ⟨w.heap.size,1,none⟩=some (.int .i64 loops):=block_cell HA3.out.box rfl
        have lb3:w.heap.size<w3.heap.size:=(Array.getElem?_eq_some_iff.1 HA3.out.box).1
        have HC3 : Hid (∀ gD, gD = w3.heap.size → ScAt w N gW gS gD #[.slice (some ⟨b, off, none⟩) C.length cap, .int .i64 loops] L (thTo C k L N 0 0) loops (w3.alloc (.cells #[.slice none 0 0, .int .i64 loops] 24))) := (by
         intro gD hgD
         exact⟨HA3.out.on ((Below.refl _ _).alloc (Nat.le_refl _) _),alloc_at hgD,by rw[hgD];exact HA3.out.ltS.2.2⟩:∀ gD,gD=w3.heap.size->ScAt w N gW gS gD #[.slice (some ⟨b,off,none⟩) C.length cap,.int .i64 loops] L (thTo C k L N 0 0) loops (w3.alloc (.cells #[.slice none 0 0,.int .i64 loops] 24)))
        go_upto_region 18 with(fail)
        obtain⟨gD,hgD⟩:∃ g,w3.heap.size=g:=⟨_,rfl⟩
        have HC4:Hid (ScAt w N gW gS gD #[.slice (some ⟨b,off,none⟩) C.length cap,.int .i64 loops] L (thTo C k L N 0 0) loops (w3.alloc (.cells #[.slice none 0 0,.int .i64 loops] 24))):=HC3.out gD hgD.symm
        rw[hgD]
        generalize w3.alloc (.cells #[.slice none 0 0,.int .i64 loops] 24)=W3 at HC4 ⊢
        clear HC3 HA3 b1 lb3 hgD
        go_wp2
        go_loopw [16] (fun v16 wr=>∃ i:Nat,i<=C.length/\v16=.int .i64 (i:Nat)/\Hid (ScAt w N gW gS gD #[.slice (some ⟨b,off,none⟩) C.length cap,.int .i64 loops] L (thTo C k L N i 0) loops wr)) (fun v16 _=>C.length-(intOf v16).toNat)
        case atStart=>exact⟨0,Nat.zero_le _,rfl,HC4.out⟩
        case round=>
         clear HC4
         rename World=>W4
         obtain⟨i,hin,rfl,hp⟩:=hrel
         have c0:W4.cell? ⟨w.heap.size,0,none⟩=some (.slice (some ⟨b,off,none⟩) C.length cap):=block_cell hp.out.sa.box rfl
         have lc4:w.heap.size<W4.heap.size:=(Array.getElem?_eq_some_iff.1 hp.out.sa.box).1
         by_cases hil:i<C.length
         · have hdi:decide ((i:Int)<(C.length:Int))=true:=by simp;omega
           have hdi2:decide (i<C.length)=true:=by simp;omega
           by_cases hik:i=k
           · have HST:Hid (ScAt w N gW gS gD #[.slice (some ⟨b,off,none⟩) C.length cap,.int .i64 loops] L (thTo C k L N (i+1) 0) loops W4):=(by have e:thTo C k L N i 0=thTo C k L N (i+1) 0:=(by rw[hik];exact thTo_skip C k L N);rw[<-e];exact hp.out:ScAt w N gW gS gD #[.slice (some ⟨b,off,none⟩) C.length cap,.int .i64 loops] L (thTo C k L N (i+1) 0) loops W4)
             have hd1:((i:Int)==(k:Int))=true:=by simp;omega
             clear hik
             go_wp2
             go_roundw
             case rel=>exact⟨i+1,by omega,by go_num,HST.out⟩
             case measure=>simp only[intOf];omega
           · have hd1:((i:Int)==(k:Int))=false:=by simp;omega
             have HIK:Hid (i≠k):=hik
             have HP4:Hid (ScAt w N gW gS gD #[.slice (some ⟨b,off,none⟩) C.length cap,.int .i64 loops] L (thTo C k L N i 0) loops W4):=hp.out
             clear hik hp
             go_wp2
             go_loopw [17] (fun v17 wr=>∃ s:Nat,s<=4/\v17=.int .i64 (s:Nat)/\Hid (ScAt w N gW gS gD #[.slice (some ⟨b,off,none⟩) C.length cap,.int .i64 loops] L (thTo C k L N i s) loops wr)) (fun v17 _=>4-(intOf v17).toNat)
             case atStart=>exact⟨0,by omega,rfl,HP4.out⟩
             case round=>
              clear HP4 c0 lc4
              rename World=>W5
              obtain⟨s,hs4,rfl,hp⟩:=hrel
              by_cases hsl:s<4
              · have c0:W5.cell? ⟨w.heap.size,0,none⟩=some (.slice (some ⟨b,off,none⟩) C.length cap):=block_cell hp.out.sa.box rfl
                have c1:W5.cell? ⟨w.heap.size,1,none⟩=some (.int .i64 loops):=block_cell hp.out.sa.box rfl
                have lc5:w.heap.size<W5.heap.size:=(Array.getElem?_eq_some_iff.1 hp.out.sa.box).1
                have HC5:Hid (CrossAt W5 b off C/\b<W5.heap.size):=⟨HC.out.on hp.out.sa.bel hbw,Nat.lt_of_lt_of_le hbw hp.out.sa.bel.size⟩
                have hfit:=may_fit HM.out i s hil hsl
                have g1:=hfit.1
                have g2:=hfit.2.1
                obtain⟨z,hz⟩:∃ z:Nat,(C.getD i Cr.none).arc s=(z:Int):=⟨((C.getD i Cr.none).arc s).toNat,by omega⟩
                have hzN:z<N:=by omega
                obtain⟨q,hq⟩:∃ q,L.getD z 0=q:=⟨_,rfl⟩
                have hqN:q<N:=by rw[<-hq];exact HLS.out.lt hzN
                have HZ:Hid ((C.getD i Cr.none).arc s=(z:Int)):=hz
                have HQ:Hid (L.getD ((C.getD i Cr.none).arc s).toNat 0=q):=(by rw[hz];exact hq:L.getD ((C.getD i Cr.none).arc s).toNat 0=q)
                have HQ2:Hid (L.getD z 0=q):=hq
                clear hfit g1 g2 hz hq
                go_wp2_with (go_at_call 35;refine(arcAt_any b off cap loops C i s _ hil hsl HC5.out.2 HC5.out.1).mono ?_;rw[HZ.out];rintro e9 w6 ⟨rfl,hb6⟩;refine Hid.out ?_)
                refine Lib.hid ?_
                have HP6:Hid (ScAt w N gW gS gD #[.slice (some ⟨b,off,none⟩) C.length cap,.int .i64 loops] L (thTo C k L N i s) loops w6):=hp.out.on hb6
                clear hb6 c0 c1 lc5
                have d0:w6.cell? ⟨gW,z,none⟩=some (.int .i64 (q:Nat)):=by rw[HP6.out.sa.atL HLL.out z hzN,HQ2.out]
                have d1:w6.cell? ⟨gS,q,none⟩=some (.bool ((thTo C k L N i s).getD q true)):=HP6.out.sa.atS (thTo_len _ _ _ _ _ _) q hqN
                have f1:w6.frozen? ⟨gS,q,none⟩=false:=HP6.out.sa.st.frozenAt q
                have l6:=HP6.out.sa.ltS
                have l7:gW<w6.heap.size:=by omega
                have l8:gS<w6.heap.size:=by omega
                generalize (thTo C k L N i s).getD q true=bq at d1
                have HST:Hid (ScAt w N gW gS gD #[.slice (some ⟨b,off,none⟩) C.length cap,.int .i64 loops] L (thTo C k L N i (s+1)) loops (w6.setCell ⟨gS,q,none⟩ (.bool true))):=HP6.out.set (thTo_next C k L N i s q HIK.out HQ.out)
                go_wp2
                go_roundw
                case rel=>exact⟨s+1,by omega,by go_num,HST.out⟩
                case measure=>simp only[intOf];omega
              · obtain rfl:s=4:=by omega
                have HST:Hid (ScAt w N gW gS gD #[.slice (some ⟨b,off,none⟩) C.length cap,.int .i64 loops] L (thTo C k L N (i+1) 0) loops W5):=(by rw[<-thTo_row];exact hp.out:ScAt w N gW gS gD #[.slice (some ⟨b,off,none⟩) C.length cap,.int .i64 loops] L (thTo C k L N (i+1) 0) loops W5)
                clear hp
                go_wp2
                go_roundw
                case rel=>exact⟨i+1,by omega,by go_num,HST.out⟩
                case measure=>simp only[intOf];omega
         · obtain rfl:C.length=i:=by omega
           have hdi:decide ((C.length:Int)<(C.length:Int))=false:=by simp
           have hdi2:decide (C.length<C.length)=false:=by simp
           have HP5:Hid (ScAt w N gW gS gD #[.slice (some ⟨b,off,none⟩) C.length cap,.int .i64 loops] L (thTo C k L N C.length 0) loops W4):=hp.out
           have hsW:=HP5.out.sa.bel.size
           clear hp
           go_wp2_with (first|(at_make;refine wpList_make_full _ rfl _ _ 64 rfl W4.heap.size 3 i2 (.int .i64 0) 1 Try.underlying64 hki hx0 hx1 .i64 .i64 _ _ N rfl rfl rfl rfl (by rw[hx2];omega) (by unfold maxLen;omega) (by omega) ?_;intro w5 hrow hg5;refine Hid.out ?_))
           refine Lib.hid ?_
           obtain⟨P,hP⟩:∃ P,thB C k L C.length 0=P:=⟨_,rfl⟩
           obtain⟨Q,hQ⟩:∃ Q,nfB L P=Q:=⟨_,rfl⟩
           have HPQ:Hid (thB C k L C.length 0=P/\nfB L P=Q):=⟨hP,hQ⟩
           rw[made_zeroN,rfTo_zero P]at hrow
           have HB5 : Hid (∀ gN B, gN = W4.heap.size → B = w5.heap.size → SbAt w N gW gS gN gD B #[.slice (some ⟨b, off, none⟩) C.length cap, .int .i64 loops] L (thTo C k L N C.length 0) (rfTo P N 1) (.slice none 0 0) (loops + (cntB Q 1 : Nat)) [] w5) := (by
            intro gN B hgN hB
            have h1:=HP5.out.sa.ltS
            have h2:=HP5.out.lt
            have h3:=(Array.getElem?_eq_some_iff.1 HP5.out.od).1
            have h4:=hg5.size
            have h5:=hrow.lt W4.heap.size rfl
            have hsa:SaAt w N gW gS #[.slice (some ⟨b,off,none⟩) C.length cap,.int .i64 loops] L (thTo C k L N C.length 0) w5:=HP5.out.sa.kept2 hg5 (fun q hq=>by cases hq)
            rw[cntB_one]
            refine⟨hsa,by rw[hgN];exact own_low hrow (by omega),OutAt.nil (by have:=(hg5.block _ h3 (by simp)).trans HP5.out.od;simpa using this),by omega⟩:∀ gN B,gN=W4.heap.size->B=w5.heap.size->SbAt w N gW gS gN gD B #[.slice (some ⟨b,off,none⟩) C.length cap,.int .i64 loops] L (thTo C k L N C.length 0) (rfTo P N 1) (.slice none 0 0) (loops+(cntB Q 1:Nat)) [] w5)
           obtain⟨gN,hgN⟩:∃ g,W4.heap.size=g:=⟨_,rfl⟩
           obtain⟨B,hB⟩:∃ g,w5.heap.size=g:=⟨_,rfl⟩
           have HJ0:Hid (SbAt w N gW gS gN gD B #[.slice (some ⟨b,off,none⟩) C.length cap,.int .i64 loops] L (thTo C k L N C.length 0) (rfTo P N 1) (.slice none 0 0) (loops+(cntB Q 1:Nat)) [] w5):=HB5.out gN B hgN.symm hB.symm
           rw[hgN]
           clear HB5 hgN hB hrow hg5 HP5 hP hQ hsW
           go_wp2
           go_loopw [19,20] (fun v19 v20 wr=>∃ j:Nat,1<=j/\j<=N/\v20=.int .i64 (j:Nat)/\v19=.int .i64 ((cntB P j+1:Nat):Int)/\Hid (SbAt w N gW gS gN gD B #[.slice (some ⟨b,off,none⟩) C.length cap,.int .i64 loops] L (thTo C k L N C.length 0) (rfTo P N j) (.slice none 0 0) (loops+(cntB Q j:Nat)) [] wr)) (fun _ v20 _=>N-(intOf v20).toNat)
           case atStart=>exact⟨1,Nat.le_refl _,hN1,rfl,(by rw[cntB_one];rfl),HJ0.out⟩
           case round=>
            clear HJ0
            rename World=>W5
            obtain⟨j,hj1,hjn,rfl,rfl,hp⟩:=hrel
            have hcP:=cntB_le P j
            have hcQ:=cntB_le Q j
            obtain⟨cP,hcPe⟩:∃ c,cntB P j=c:=⟨_,rfl⟩
            obtain⟨cQ,hcQe⟩:∃ c,cntB Q j=c:=⟨_,rfl⟩
            have HCP:Hid (cntB P j=cP/\cntB Q j=cQ):=⟨hcPe,hcQe⟩
            have HP5:Hid (SbAt w N gW gS gN gD B #[.slice (some ⟨b,off,none⟩) C.length cap,.int .i64 loops] L (thTo C k L N C.length 0) (rfTo P N j) (.slice none 0 0) (loops+(cntB Q j:Nat)) [] W5):=hp.out
            rw[hcPe]at hcP ⊢
            rw[hcQe]at hcQ HP5
            clear hp hcPe hcQe
            by_cases hjl:j<N
            · have hdj:decide ((j:Int)<=2*(C.length:Int))=true:=by simp;omega
              obtain⟨bp,hbp⟩:∃ z,P j=z:=⟨_,rfl⟩
              have c2:W5.cell? ⟨gS,j,none⟩=some (.bool bp):=by rw[HP5.out.sa.atS (thTo_len _ _ _ _ _ _) j hjl,thTo_at _ _ _ _ _ _ _ hjl,HPQ.out.1,hbp]
              obtain⟨q,hq⟩:∃ q,L.getD j 0=q:=⟨_,rfl⟩
              have c0:W5.cell? ⟨gW,j,none⟩=some (.int .i64 (q:Nat)):=by rw[HP5.out.sa.atL HLL.out j hjl,hq]
              have HQV:Hid (P j=bp/\Q j=(!bp&&decide (q=j))):=⟨hbp,by rw[<-HPQ.out.2];unfold nfB;rw[hbp,hq]⟩
              have l1:=HP5.out.sa.ltS
              have l2:=HP5.out.ne
              have l3:gW<W5.heap.size:=by omega
              have l4:gN<W5.heap.size:=by omega
              have l5:gD<W5.heap.size:=by omega
              have l6:gS<W5.heap.size:=by omega
              clear hbp hq l1 l2
              cases bp with
              |true=>
               have c9:W5.cell? ⟨gN,j,none⟩=some (.int .i64 ((rfTo P N j).getD j 0:Nat)):=HP5.out.atM (rfTo_len _ _ _) j hjl
               have z0:W5.frozen? ⟨gN,j,none⟩=false:=HP5.out.num.frozenAt j
               generalize (rfTo P N j).getD j 0=u9 at c9
               have HST:Hid (SbAt w N gW gS gN gD B #[.slice (some ⟨b,off,none⟩) C.length cap,.int .i64 loops] L (thTo C k L N C.length 0) (rfTo P N (j+1)) (.slice none 0 0) (loops+(cntB Q (j+1):Nat)) [] (W5.setCell ⟨gN,j,none⟩ (.int .i64 ((cP+1:Nat):Int)))):=(by rw[cntB_no Q j HQV.out.2,HCP.out.2];exact HP5.out.set (by rw[<-HCP.out.1];exact rfTo_yes P N j hj1 HQV.out.1):SbAt w N gW gS gN gD B #[.slice (some ⟨b,off,none⟩) C.length cap,.int .i64 loops] L (thTo C k L N C.length 0) (rfTo P N (j+1)) (.slice none 0 0) (loops+(cntB Q (j+1):Nat)) [] (W5.setCell ⟨gN,j,none⟩ (.int .i64 ((cP+1:Nat):Int))))
               go_wp2
               go_roundw
               case rel=>exact⟨j+1,by omega,by omega,by go_num,(by rw[cntB_yes P j hj1 HQV.out.1,HCP.out.1];go_num),HST.out⟩
               case measure=>simp only[intOf];omega
              |false=>
               by_cases hqj:q=j
               · subst hqj
                 have hdq:((q:Int)==(q:Int))=true:=by simp
                 have HQT:Hid (Q q=true):=(by rw[HQV.out.2];simp:Q q=true)
                 have HST:Hid (SbAt w N gW gS gN gD B #[.slice (some ⟨b,off,none⟩) C.length cap,.int .i64 loops] L (thTo C k L N C.length 0) (rfTo P N (q+1)) (.slice none 0 0) (loops+(cntB Q (q+1):Nat)) [] (W5.setCell ⟨gD,1,none⟩ (.int .i64 (loops+(cQ:Int)+1)))):=(by rw[cntB_yes Q q hj1 HQT.out,HCP.out.2,<-rfTo_no P N q HQV.out.1];have e:loops+((cQ+1:Nat):Int)=loops+(cQ:Int)+1:=(by omega);rw[e];exact HP5.out.loop:SbAt w N gW gS gN gD B #[.slice (some ⟨b,off,none⟩) C.length cap,.int .i64 loops] L (thTo C k L N C.length 0) (rfTo P N (q+1)) (.slice none 0 0) (loops+(cntB Q (q+1):Nat)) [] (W5.setCell ⟨gD,1,none⟩ (.int .i64 (loops+(cQ:Int)+1))))
                 have d1:W5.cell? ⟨gD,1,none⟩=some (.int .i64 (loops+(cQ:Int))):=block_cell HP5.out.out.box rfl
                 have f1:W5.frozen? ⟨gD,1,none⟩=false:=block_frozen HP5.out.out.box
                 have hwr:IntKind.i64.wrap (loops+(cQ:Int)+1)=loops+(cQ:Int)+1:=IntWalk.i64_in _ (by omega)
                 go_wp2
                 go_roundw
                 case rel=>exact⟨q+1,by omega,by omega,by go_num,(by rw[cntB_no P q HQV.out.1,HCP.out.1]),HST.out⟩
                 case measure=>simp only[intOf];omega
               · have hdq:((q:Int)==(j:Int))=false:=by simp;omega
                 have hdq2:(q==j)=false:=by simp;omega
                 have HQT:Hid (Q j=false):=(by rw[HQV.out.2,decide_eq_false hqj];rfl:Q j=false)
                 have HST:Hid (SbAt w N gW gS gN gD B #[.slice (some ⟨b,off,none⟩) C.length cap,.int .i64 loops] L (thTo C k L N C.length 0) (rfTo P N (j+1)) (.slice none 0 0) (loops+(cntB Q (j+1):Nat)) [] W5):=(by rw[cntB_no Q j HQT.out,HCP.out.2,<-rfTo_no P N j HQV.out.1];exact HP5.out:SbAt w N gW gS gN gD B #[.slice (some ⟨b,off,none⟩) C.length cap,.int .i64 loops] L (thTo C k L N C.length 0) (rfTo P N (j+1)) (.slice none 0 0) (loops+(cntB Q (j+1):Nat)) [] W5)
                 clear hqj
                 go_wp2
                 go_roundw
                 case rel=>exact⟨j+1,by omega,by omega,by go_num,(by rw[cntB_no P j HQV.out.1,HCP.out.1]),HST.out⟩
                 case measure=>simp only[intOf];omega
            · obtain rfl:N=j:=by omega
              have hdj:decide ((N:Int)<=2*(C.length:Int))=false:=by simp;omega
              generalize ((cP+1:Nat):Int)=nxt
              go_wp2
              go_loopw [21] (fun v21 wr=>∃ (i:Nat) (v:Value) (D:List Cr),i<=C.length/\v21=.int .i64 (i:Nat)/\Hid (D=reTo C [k] (numM L P) i)/\D.length<=16/\Hid (SbAt w N gW gS gN gD B #[.slice (some ⟨b,off,none⟩) C.length cap,.int .i64 loops] L (thTo C k L N C.length 0) (rfTo P N N) v (loops+(cQ:Nat)) D wr)) (fun v21 _=>C.length-(intOf v21).toNat)
              case atStart=>exact⟨0,.slice none 0 0,[],Nat.zero_le _,rfl,(rfl:[]=reTo C [k] (numM L P) 0),by simp,HP5.out⟩
              case round=>
               clear HP5
               rename World=>W6
               obtain⟨i,v,D,hin,rfl,hDe,hDl,hp⟩:=hrel
               have hbel:=hp.out.sa.bel
               have c0:W6.cell? ⟨w.heap.size,0,none⟩=some (.slice (some ⟨b,off,none⟩) C.length cap):=block_cell hp.out.sa.box rfl
               have lc6:w.heap.size<W6.heap.size:=(Array.getElem?_eq_some_iff.1 hp.out.sa.box).1
               by_cases hil:i<C.length
               · have hdi:decide ((i:Int)<(C.length:Int))=true:=by simp;omega
                 have hdi2:decide (i<C.length)=true:=by simp;omega
                 by_cases hik:i=k
                 · have HST:Hid (D=reTo C [k] (numM L P) (i+1)):=(by rw[reTo_next,if_pos (by rw[hik];simp)];exact hDe.out:D=reTo C [k] (numM L P) (i+1))
                   have hd1:((i:Int)==(k:Int))=true:=by simp;omega
                   clear hik
                   go_wp2
                   go_roundw
                   case rel=>exact⟨i+1,v,D,by omega,by go_num,HST.out,hDl,hp.out⟩
                   case measure=>simp only[intOf];omega
                 · have hd1:((i:Int)==(k:Int))=false:=by simp;omega
                   have HDL:Hid (D.length<=i):=(by rw[hDe.out];exact reTo_len _ _ _ _:D.length<=i)
                   have HRN:Hid (reTo C [k] (numM L P) (i+1)=D++[reX (numM L P) (C.getD i Cr.none)]):=(by rw[reTo_next,if_neg (by simp;omega),<-hDe.out]:reTo C [k] (numM L P) (i+1)=D++[reX (numM L P) (C.getD i Cr.none)])
                   have HIK:Hid (i≠k):=hik
                   clear hik
                   obtain⟨p0,p1,p2,p3,xp,hxe,hp0,hp1,hp2,hp3⟩:=may_natsJ HM.out i hil
                   have HFP:Hid (∀ s,s<4->1<=(C.getD i Cr.none).arc s):=fun s hs=>(may_fit HM.out i s hil hs).1
                   have g0:=HFP.out 0 (by omega)
                   have g1:=HFP.out 1 (by omega)
                   have g2:=HFP.out 2 (by omega)
                   have g3:=HFP.out 3 (by omega)
                   obtain⟨m0,m1,m2,m3,m4⟩:=(HC.out.on hbel hbw) i hil
                   rw[hxe]at g0 g1 g2 g3 m0 m1 m2 m3 m4 HRN
                   have j0:1<=p0:=by simp[Cr.arc]at g0;omega
                   have j1:1<=p1:=by simp[Cr.arc]at g1;omega
                   have j2:1<=p2:=by simp[Cr.arc]at g2;omega
                   have j3:1<=p3:=by simp[Cr.arc]at g3;omega
                   clear g0 g1 g2 g3 HFP hxe
                   have HNU:Hid (∀ p,1<=p->p<N->(rfTo P N N).getD (L.getD p 0) 0=numM L P p):=fun p h1 h2=>by
                    have h3:=HLP.out p h1 h2
                    have h4:=HLS.out.lt h2
                    rw[rfTo_at _ _ _ _ h4]
                    unfold numM
                    by_cases hP:P (L.getD p 0)=true
                    · rw[if_pos ⟨h4,h3,hP⟩,if_pos hP]
                    · rw[if_neg (fun q=>hP q.2.2),if_neg hP]
                   have n0:p0<N:=by omega
                   obtain⟨r0,hr0⟩:∃ r,L.getD p0 0=r:=⟨_,rfl⟩
                   have q0:r0<N:=by rw[<-hr0];exact HLS.out.lt n0
                   obtain⟨f0,hf0⟩:∃ f,numM L P p0=f:=⟨_,rfl⟩
                   have HF0:Hid (L.getD p0 0=r0/\(rfTo P N N).getD r0 0=f0):=⟨hr0,by rw[<-hr0,HNU.out p0 j0 n0,hf0]⟩
                   have n1:p1<N:=by omega
                   obtain⟨r1,hr1⟩:∃ r,L.getD p1 0=r:=⟨_,rfl⟩
                   have q1:r1<N:=by rw[<-hr1];exact HLS.out.lt n1
                   obtain⟨f1,hf1⟩:∃ f,numM L P p1=f:=⟨_,rfl⟩
                   have HF1:Hid (L.getD p1 0=r1/\(rfTo P N N).getD r1 0=f1):=⟨hr1,by rw[<-hr1,HNU.out p1 j1 n1,hf1]⟩
                   have n2:p2<N:=by omega
                   obtain⟨r2,hr2⟩:∃ r,L.getD p2 0=r:=⟨_,rfl⟩
                   have q2:r2<N:=by rw[<-hr2];exact HLS.out.lt n2
                   obtain⟨f2,hf2⟩:∃ f,numM L P p2=f:=⟨_,rfl⟩
                   have HF2:Hid (L.getD p2 0=r2/\(rfTo P N N).getD r2 0=f2):=⟨hr2,by rw[<-hr2,HNU.out p2 j2 n2,hf2]⟩
                   have n3:p3<N:=by omega
                   obtain⟨r3,hr3⟩:∃ r,L.getD p3 0=r:=⟨_,rfl⟩
                   have q3:r3<N:=by rw[<-hr3];exact HLS.out.lt n3
                   obtain⟨f3,hf3⟩:∃ f,numM L P p3=f:=⟨_,rfl⟩
                   have HF3:Hid (L.getD p3 0=r3/\(rfTo P N N).getD r3 0=f3):=⟨hr3,by rw[<-hr3,HNU.out p3 j3 n3,hf3]⟩
                   have HXE:Hid (reX (numM L P) ⟨(p0:Nat),(p1:Nat),(p2:Nat),(p3:Nat),xp⟩=⟨(f0:Nat),(f1:Nat),(f2:Nat),(f3:Nat),xp⟩):=(by unfold reX;simp only[Int.toNat_natCast];rw[hf0,hf1,hf2,hf3]:reX (numM L P) ⟨(p0:Nat),(p1:Nat),(p2:Nat),(p3:Nat),xp⟩=⟨(f0:Nat),(f1:Nat),(f2:Nat),(f3:Nat),xp⟩)
                   rw[HXE.out]at HRN
                   clear hr0 hr1 hr2 hr3 hf0 hf1 hf2 hf3 HXE
                   have lb6:b<W6.heap.size:=Nat.lt_of_lt_of_le hbw hbel.size
                   obtain⟨Y,hY⟩:∃ Y,Y=W6.alloc (.cells #[.int .i64 (p0:Nat),.int .i64 (p1:Nat),.int .i64 (p2:Nat),.int .i64 (p3:Nat),.bool xp] 60):=⟨_,rfl⟩
                   have HY:Hid (Y=W6.alloc (.cells #[.int .i64 (p0:Nat),.int .i64 (p1:Nat),.int .i64 (p2:Nat),.int .i64 (p3:Nat),.bool xp] 60)):=hY
                   have hsY:W6.heap.size<Y.heap.size:=by rw[hY];simp
                   have HBY:Hid (Below W6.heap.size W6 Y):=(by rw[hY];exact(Below.refl _ _).alloc (Nat.le_refl _) _:Below W6.heap.size W6 Y)
                   have HTY:Hid (Y.heap[W6.heap.size]?=some (.cells #[.int .i64 (p0:Nat),.int .i64 (p1:Nat),.int .i64 (p2:Nat),.int .i64 (p3:Nat),.bool xp] 60 (0,0))):=(by rw[hY];exact alloc_at rfl:Y.heap[W6.heap.size]?=some (.cells #[.int .i64 (p0:Nat),.int .i64 (p1:Nat),.int .i64 (p2:Nat),.int .i64 (p3:Nat),.bool xp] 60 (0,0)))
                   clear hY
                   obtain⟨a3,c3',ev3⟩:=own_capS hp.out.out.row
                   subst ev3
                   have HVB:Hid (∀ q,(Value.slice a3 D.length c3').ownBlock=some q->B<=q/\q<W6.heap.size):=fun q e=>hp.out.out.row.lt q e
                   have HDY:Hid (Below Y.heap.size Y Y.drew):=(Below.refl _ _).drew
                   have HOD:Hid (SbAt w N gW gS gN gD B #[.slice (some ⟨b,off,none⟩) C.length cap,.int .i64 loops] L (thTo C k L N C.length 0) (rfTo P N N) (.slice a3 D.length c3') (loops+(cQ:Nat)) D Y.drew):=(hp.out.on HBY.out).on HDY.out
                   have hne:=HOD.out.ne
                   have hlS:=HOD.out.sa.ltS
                   have hgDB:gD<B:=hne.2.2.2.2.1
                   have HYY:Hid (Y.drew.heap.size=Y.heap.size):=(rfl:Y.drew.heap.size=Y.heap.size)
                   have HB6:Hid (B<=W6.heap.size):=hp.out.ne.2.2.2.2.2
                   have hBY:B<=Y.heap.size:=by have:=HB6.out;omega
                   have HKP:Hid (Y.drew.cell? ⟨W6.heap.size,0,none⟩=some (.int .i64 (p0:Nat))/\Y.drew.cell? ⟨W6.heap.size,1,none⟩=some (.int .i64 (p1:Nat))/\Y.drew.cell? ⟨W6.heap.size,2,none⟩=some (.int .i64 (p2:Nat))/\Y.drew.cell? ⟨W6.heap.size,3,none⟩=some (.int .i64 (p3:Nat))/\Y.drew.cell? ⟨W6.heap.size,4,none⟩=some (.bool xp)/\Y.drew.cell? ⟨gW,p0,none⟩=some (.int .i64 (r0:Nat))/\Y.drew.cell? ⟨gW,p1,none⟩=some (.int .i64 (r1:Nat))/\Y.drew.cell? ⟨gW,p2,none⟩=some (.int .i64 (r2:Nat))/\Y.drew.cell? ⟨gW,p3,none⟩=some (.int .i64 (r3:Nat))/\Y.drew.cell? ⟨gN,r0,none⟩=some (.int .i64 (f0:Nat))/\Y.drew.cell? ⟨gN,r1,none⟩=some (.int .i64 (f1:Nat))/\Y.drew.cell? ⟨gN,r2,none⟩=some (.int .i64 (f2:Nat))/\Y.drew.cell? ⟨gN,r3,none⟩=some (.int .i64 (f3:Nat))):=⟨block_cell HTY.out rfl,block_cell HTY.out rfl,block_cell HTY.out rfl,block_cell HTY.out rfl,block_cell HTY.out rfl,by rw[HOD.out.sa.atL HLL.out p0 n0,HF0.out.1],by rw[HOD.out.sa.atL HLL.out p1 n1,HF1.out.1],by rw[HOD.out.sa.atL HLL.out p2 n2,HF2.out.1],by rw[HOD.out.sa.atL HLL.out p3 n3,HF3.out.1],by rw[HOD.out.atM (rfTo_len _ _ _) r0 q0,HF0.out.2],by rw[HOD.out.atM (rfTo_len _ _ _) r1 q1,HF1.out.2],by rw[HOD.out.atM (rfTo_len _ _ _) r2 q2,HF2.out.2],by rw[HOD.out.atM (rfTo_len _ _ _) r3 q3,HF3.out.2]⟩
                   have HKG:Hid (∀ w8 o,(Y.drew.alloc o).grownBy w8 (Value.slice a3 D.length c3').ownBlock->w8.cell? ⟨W6.heap.size,0,none⟩=some (.int .i64 (p0:Nat))/\w8.cell? ⟨W6.heap.size,1,none⟩=some (.int .i64 (p1:Nat))/\w8.cell? ⟨W6.heap.size,2,none⟩=some (.int .i64 (p2:Nat))/\w8.cell? ⟨W6.heap.size,3,none⟩=some (.int .i64 (p3:Nat))/\w8.cell? ⟨W6.heap.size,4,none⟩=some (.bool xp)/\w8.cell? ⟨gW,p0,none⟩=some (.int .i64 (r0:Nat))/\w8.cell? ⟨gW,p1,none⟩=some (.int .i64 (r1:Nat))/\w8.cell? ⟨gW,p2,none⟩=some (.int .i64 (r2:Nat))/\w8.cell? ⟨gW,p3,none⟩=some (.int .i64 (r3:Nat))/\w8.cell? ⟨gN,r0,none⟩=some (.int .i64 (f0:Nat))/\w8.cell? ⟨gN,r1,none⟩=some (.int .i64 (f1:Nat))/\w8.cell? ⟨gN,r2,none⟩=some (.int .i64 (f2:Nat))/\w8.cell? ⟨gN,r3,none⟩=some (.int .i64 (f3:Nat))):=fun w8 o h8=>by
                    have hg:Y.drew.grownBy w8 (Value.slice a3 D.length c3').ownBlock:=grown_trans (World.grownBy_alloc _ _ _) h8
                    have e1:some W6.heap.size≠(Value.slice a3 D.length c3').ownBlock:=fun e=>by have:=HVB.out _ e.symm;omega
                    have e2:some gW≠(Value.slice a3 D.length c3').ownBlock:=fun e=>by have:=HVB.out _ e.symm;omega
                    have e3:some gN≠(Value.slice a3 D.length c3').ownBlock:=fun e=>by have:=HVB.out _ e.symm;omega
                    have b1:W6.heap.size<Y.drew.heap.size:=by rw[HYY.out];exact hsY
                    have b2:gW<Y.drew.heap.size:=by omega
                    have b3:gN<Y.drew.heap.size:=by omega
                    obtain⟨k0,k1,k2,k3,k4,k5,k6,k7,k8,k9,k10,k11,k12⟩:=HKP.out
                    exact⟨gcellS hg b1 e1 k0,gcellS hg b1 e1 k1,gcellS hg b1 e1 k2,gcellS hg b1 e1 k3,gcellS hg b1 e1 k4,gcellS hg b2 e2 k5,gcellS hg b2 e2 k6,gcellS hg b2 e2 k7,gcellS hg b2 e2 k8,gcellS hg b3 e3 k9,gcellS hg b3 e3 k10,gcellS hg b3 e3 k11,gcellS hg b3 e3 k12⟩
                   have HKA:Hid (∀ o,(Y.drew.alloc o).cell? ⟨W6.heap.size,0,none⟩=some (.int .i64 (p0:Nat))/\(Y.drew.alloc o).cell? ⟨W6.heap.size,1,none⟩=some (.int .i64 (p1:Nat))/\(Y.drew.alloc o).cell? ⟨W6.heap.size,2,none⟩=some (.int .i64 (p2:Nat))/\(Y.drew.alloc o).cell? ⟨W6.heap.size,3,none⟩=some (.int .i64 (p3:Nat))/\(Y.drew.alloc o).cell? ⟨W6.heap.size,4,none⟩=some (.bool xp)/\(Y.drew.alloc o).cell? ⟨gW,p0,none⟩=some (.int .i64 (r0:Nat))/\(Y.drew.alloc o).cell? ⟨gW,p1,none⟩=some (.int .i64 (r1:Nat))/\(Y.drew.alloc o).cell? ⟨gW,p2,none⟩=some (.int .i64 (r2:Nat))/\(Y.drew.alloc o).cell? ⟨gW,p3,none⟩=some (.int .i64 (r3:Nat))/\(Y.drew.alloc o).cell? ⟨gN,r0,none⟩=some (.int .i64 (f0:Nat))/\(Y.drew.alloc o).cell? ⟨gN,r1,none⟩=some (.int .i64 (f1:Nat))/\(Y.drew.alloc o).cell? ⟨gN,r2,none⟩=some (.int .i64 (f2:Nat))/\(Y.drew.alloc o).cell? ⟨gN,r3,none⟩=some (.int .i64 (f3:Nat))):=fun o=>HKG.out _ o ⟨rfl,rfl,rfl,Nat.le_refl _,fun _ _ _=>rfl⟩
                   have HKU:Hid (∀ (w8:World) (u:Value),(w8.cell? ⟨W6.heap.size,0,none⟩=some (.int .i64 (p0:Nat))/\w8.cell? ⟨W6.heap.size,1,none⟩=some (.int .i64 (p1:Nat))/\w8.cell? ⟨W6.heap.size,2,none⟩=some (.int .i64 (p2:Nat))/\w8.cell? ⟨W6.heap.size,3,none⟩=some (.int .i64 (p3:Nat))/\w8.cell? ⟨W6.heap.size,4,none⟩=some (.bool xp)/\w8.cell? ⟨gW,p0,none⟩=some (.int .i64 (r0:Nat))/\w8.cell? ⟨gW,p1,none⟩=some (.int .i64 (r1:Nat))/\w8.cell? ⟨gW,p2,none⟩=some (.int .i64 (r2:Nat))/\w8.cell? ⟨gW,p3,none⟩=some (.int .i64 (r3:Nat))/\w8.cell? ⟨gN,r0,none⟩=some (.int .i64 (f0:Nat))/\w8.cell? ⟨gN,r1,none⟩=some (.int .i64 (f1:Nat))/\w8.cell? ⟨gN,r2,none⟩=some (.int .i64 (f2:Nat))/\w8.cell? ⟨gN,r3,none⟩=some (.int .i64 (f3:Nat)))->Y.drew.heap.size<=w8.heap.size->(w8.setCell ⟨gD,0,none⟩ u).cell? ⟨W6.heap.size,0,none⟩=some (.int .i64 (p0:Nat))/\(w8.setCell ⟨gD,0,none⟩ u).cell? ⟨W6.heap.size,1,none⟩=some (.int .i64 (p1:Nat))/\(w8.setCell ⟨gD,0,none⟩ u).cell? ⟨W6.heap.size,2,none⟩=some (.int .i64 (p2:Nat))/\(w8.setCell ⟨gD,0,none⟩ u).cell? ⟨W6.heap.size,3,none⟩=some (.int .i64 (p3:Nat))/\(w8.setCell ⟨gD,0,none⟩ u).cell? ⟨W6.heap.size,4,none⟩=some (.bool xp)/\(w8.setCell ⟨gD,0,none⟩ u).cell? ⟨gW,p0,none⟩=some (.int .i64 (r0:Nat))/\(w8.setCell ⟨gD,0,none⟩ u).cell? ⟨gW,p1,none⟩=some (.int .i64 (r1:Nat))/\(w8.setCell ⟨gD,0,none⟩ u).cell? ⟨gW,p2,none⟩=some (.int .i64 (r2:Nat))/\(w8.setCell ⟨gD,0,none⟩ u).cell? ⟨gW,p3,none⟩=some (.int .i64 (r3:Nat))/\(w8.setCell ⟨gD,0,none⟩ u).cell? ⟨gN,r0,none⟩=some (.int .i64 (f0:Nat))/\(w8.setCell ⟨gD,0,none⟩ u).cell? ⟨gN,r1,none⟩=some (.int .i64 (f1:Nat))/\(w8.setCell ⟨gD,0,none⟩ u).cell? ⟨gN,r2,none⟩=some (.int .i64 (f2:Nat))/\(w8.setCell ⟨gD,0,none⟩ u).cell? ⟨gN,r3,none⟩=some (.int .i64 (f3:Nat))):=fun w8 u hk8 hz=>by
                    have hg:=set_grown w8 gD 0 u
                    have e1:some W6.heap.size≠some gD:=fun e=>by have:=Option.some.inj e;have:=HB6.out;omega
                    have e2:some gW≠some gD:=fun e=>by have:=Option.some.inj e;omega
                    have e3:some gN≠some gD:=fun e=>by have:=Option.some.inj e;omega
                    have b1:W6.heap.size<w8.heap.size:=by have:=HYY.out;omega
                    have b2:gW<w8.heap.size:=by omega
                    have b3:gN<w8.heap.size:=by omega
                    obtain⟨k0,k1,k2,k3,k4,k5,k6,k7,k8,k9,k10,k11,k12⟩:=hk8
                    exact⟨gcellS hg b1 e1 k0,gcellS hg b1 e1 k1,gcellS hg b1 e1 k2,gcellS hg b1 e1 k3,gcellS hg b1 e1 k4,gcellS hg b2 e2 k5,gcellS hg b2 e2 k6,gcellS hg b2 e2 k7,gcellS hg b2 e2 k8,gcellS hg b3 e3 k9,gcellS hg b3 e3 k10,gcellS hg b3 e3 k11,gcellS hg b3 e3 k12⟩
                   have t0:Y.cell? ⟨gD,0,none⟩=some (.slice a3 D.length c3'):=block_cell HOD.out.out.box rfl
                   have t1:gD<Y.heap.size:=by have:=HYY.out;omega
                   clear hp hbel
                   go_upto_region 41 with(fail)
                   rw[<-HY.out]
                   clear c0 m0 m1 m2 m3 m4
                   refine wp_region_held_drew (S:=(fun w'=>w'.cell? ⟨W6.heap.size,0,none⟩=some (.int .i64 (p0:Nat))/\w'.cell? ⟨W6.heap.size,1,none⟩=some (.int .i64 (p1:Nat))/\w'.cell? ⟨W6.heap.size,2,none⟩=some (.int .i64 (p2:Nat))/\w'.cell? ⟨W6.heap.size,3,none⟩=some (.int .i64 (p3:Nat))/\w'.cell? ⟨W6.heap.size,4,none⟩=some (.bool xp)/\w'.cell? ⟨gW,p0,none⟩=some (.int .i64 (r0:Nat))/\w'.cell? ⟨gW,p1,none⟩=some (.int .i64 (r1:Nat))/\w'.cell? ⟨gW,p2,none⟩=some (.int .i64 (r2:Nat))/\w'.cell? ⟨gW,p3,none⟩=some (.int .i64 (r3:Nat))/\w'.cell? ⟨gN,r0,none⟩=some (.int .i64 (f0:Nat))/\w'.cell? ⟨gN,r1,none⟩=some (.int .i64 (f1:Nat))/\w'.cell? ⟨gN,r2,none⟩=some (.int .i64 (f2:Nat))/\w'.cell? ⟨gN,r3,none⟩=some (.int .i64 (f3:Nat)))) (by kernel_rfl) HKP.out (fun hHeld=>?_)
                   refine tq 147 0 (h:=?_)
                   refine tq 149 2 (h:=?_)
                   refine tq 150 3 (h:=?_)
                   refine tq 151 4 (h:=?_)
                   refine tq 152 5 (h:=?_)
                   refine tq 153 6 (h:=?_)
                   refine tq 154 7 (h:=?_)
                   refine tq 155 8 (h:=?_)
                   refine tq 156 9 (h:=?_)
                   refine tq 157 10 (h:=?_)
                   refine tq 158 11 (h:=?_)
                   refine tq 159 12 (h:=?_)
                   refine tq 160 13 (h:=?_)
                   refine tq 161 14 (h:=?_)
                   refine tq 162 15 (h:=?_)
                   refine tq 163 16 (h:=?_)
                   refine tq 164 17 (h:=?_)
                   refine tq 165 18 (h:=?_)
                   refine tq 166 19 (h:=?_)
                   refine tq 167 20 (h:=?_)
                   refine tq 168 21 (h:=?_)
                   refine tq 169 22 (h:=?_)
                   refine tq 170 23 (h:=?_)
                   refine tq 171 24 (h:=?_)
                   refine tq 172 25 (h:=?_)
                   refine tq 173 26 (h:=?_)
                   refine tq 174 27 (h:=?_)
                   refine tq 175 28 (h:=?_)
                   refine tq 176 29 (h:=?_)
                   refine tq 177 30 (h:=?_)
                   refine tq 178 31 (h:=?_)
                   refine tq 179 32 (h:=?_)
                   refine tq 180 33 (h:=?_)
                   refine tq 181 34 (h:=?_)
                   refine tq 182 35 (h:=?_)
                   refine tq 183 36 (h:=?_)
                   simp only[List.setIfInBounds_toArray,List.set_cons_succ,List.set_cons_zero]
                   refine wpAnyH_ready (rs:=[1,37]) (by kernel_rfl) (by simp) ?_
                   refine AllReadyH.cons (i:=1) (rs:=[37]) rfl (fun K hK=>?_) (AllReadyH.cons (i:=37) (rs:=[]) rfl (fun K hK=>?_) AllReadyH.nil)
                   · go_simp
                     refine hK.out _ _ HKP.out (fun hHeld=>?_)
                     clear hK K
                     refine rd1 37 (fun K hK=>?_)
                     go_simp
                     refine hK.out _ _ (HKA.out _) (fun hHeld=>?_)
                     clear hK K
                     refine rd1 38 (fun K hK=>?_)
                     refine step_append_own rfl (.tmp 148) (.tmp 184) 22 rfl B 60 i0 (.agg #[.int .i64 0,.int .i64 0,.int .i64 0,.int .i64 0,.bool false]) 5 40 Try.underlying22 hi hz0 hz1 hz2 rfl (by decide) _ D.length _ (by simp[Act.eval]) (HOD.out.out.row.alloc _) ⟨Y.drew.heap.size,0,none⟩ 1 1 [.int .i64 (f0:Nat),.int .i64 (f1:Nat),.int .i64 (f2:Nat),.int .i64 (f3:Nat),.bool xp] (by simp[Act.eval]) rfl (new_cell5 _ _ _ _ _ _ _) (cells_one [(⟨(f0:Nat),(f1:Nat),(f2:Nat),(f3:Nat),xp⟩:Cr)]) (by unfold maxLen;omega) (by omega) (by simp;omega) ?_
                     intro v8 w8 hown8 hg8
                     have HOW8:Hid (w8.ownsRow B 60 5 v8 (D.length+1) (crossCells D++crossCells [(⟨(f0:Nat),(f1:Nat),(f2:Nat),(f3:Nat),xp⟩:Cr)])):=hown8
                     have HG8:Hid ((Y.drew.alloc (.cells #[.int .i64 (f0:Nat),.int .i64 (f1:Nat),.int .i64 (f2:Nat),.int .i64 (f3:Nat),.bool xp] 60)).grownBy w8 (Value.slice a3 D.length c3').ownBlock):=hg8
                     obtain⟨a8,c8,ev8⟩:=own_capS HOW8.out
                     subst ev8
                     have hb8:=HOD.out.out.box8 hgDB HG8.out
                     have r0':w8.cell? ⟨gD,0,none⟩=some (.slice a3 D.length c3'):=block_cell hb8 rfl
                     have r1':w8.frozen? ⟨gD,0,none⟩=false:=block_frozen hb8
                     have r2':gD<w8.heap.size:=(Array.getElem?_eq_some_iff.1 hb8).1
                     have HKW:=HKG.out _ _ HG8.out
                     have HKV:=HKU.out _ (.slice a8 (D.length+1) c8) HKW (by have h:=HG8.out.size;have e:=HYY.out;simp only[World.size_alloc]at h;omega)
                     clear hown8 hg8 hb8
                     refine hK.out _ _ HKW (fun hHeld=>?_)
                     clear hK K
                     refine tq 186 39 (h:=?_)
                     simp only[List.setIfInBounds_toArray,List.set_cons_succ,List.set_cons_zero]
                     refine rd1 40 (fun K hK=>?_)
                     go_simp
                     refine hK.out _ _ HKV (fun hHeld=>?_)
                     clear hK K
                     refine wpAnyH_done (by kernel_rfl) ?_ _
                     have HFIN:Hid (SbAt w N gW gS gN gD B #[.slice (some ⟨b,off,none⟩) C.length cap,.int .i64 loops] L (thTo C k L N C.length 0) (rfTo P N N) (.slice a8 (D.length+1) c8) (loops+(cQ:Nat)) (D++[(⟨(f0:Nat),(f1:Nat),(f2:Nat),(f3:Nat),xp⟩:Cr)]) (w8.setCell ⟨gD,0,none⟩ (.slice a8 (D.length+1) c8))):=HOD.out.app rfl HOW8.out HG8.out
                     clear hHeld t0 r0' r1' HKW HKV
                     go_wp2
                     go_roundw
                     all_goals first
                      |(simp only[intOf];omega)
                      |exact⟨i+1,.slice a8 (D.length+1) c8,D++[(⟨(f0:Nat),(f1:Nat),(f2:Nat),(f3:Nat),xp⟩:Cr)],by omega,by go_num,(HRN.out.symm:D++[(⟨(f0:Nat),(f1:Nat),(f2:Nat),(f3:Nat),xp⟩:Cr)]=reTo C [k] (numM L P) (i+1)),(by have:=HDL.out;simp;omega),HFIN.out⟩
                   · go_simp
                     refine hK.out _ _ (HKA.out _) (fun hHeld=>?_)
                     clear hK K
                     refine rd1 1 (fun K hK=>?_)
                     go_simp
                     refine hK.out _ _ (HKA.out _) (fun hHeld=>?_)
                     clear hK K
                     refine rd1 38 (fun K hK=>?_)
                     refine step_append_own rfl (.tmp 148) (.tmp 184) 22 rfl B 60 i0 (.agg #[.int .i64 0,.int .i64 0,.int .i64 0,.int .i64 0,.bool false]) 5 40 Try.underlying22 hi hz0 hz1 hz2 rfl (by decide) _ D.length _ (by simp[Act.eval]) (HOD.out.out.row.alloc _) ⟨Y.drew.heap.size,0,none⟩ 1 1 [.int .i64 (f0:Nat),.int .i64 (f1:Nat),.int .i64 (f2:Nat),.int .i64 (f3:Nat),.bool xp] (by simp[Act.eval]) rfl (new_cell5 _ _ _ _ _ _ _) (cells_one [(⟨(f0:Nat),(f1:Nat),(f2:Nat),(f3:Nat),xp⟩:Cr)]) (by unfold maxLen;omega) (by omega) (by simp;omega) ?_
                     intro v8 w8 hown8 hg8
                     have HOW8:Hid (w8.ownsRow B 60 5 v8 (D.length+1) (crossCells D++crossCells [(⟨(f0:Nat),(f1:Nat),(f2:Nat),(f3:Nat),xp⟩:Cr)])):=hown8
                     have HG8:Hid ((Y.drew.alloc (.cells #[.int .i64 (f0:Nat),.int .i64 (f1:Nat),.int .i64 (f2:Nat),.int .i64 (f3:Nat),.bool xp] 60)).grownBy w8 (Value.slice a3 D.length c3').ownBlock):=hg8
                     obtain⟨a8,c8,ev8⟩:=own_capS HOW8.out
                     subst ev8
                     have hb8:=HOD.out.out.box8 hgDB HG8.out
                     have r0':w8.cell? ⟨gD,0,none⟩=some (.slice a3 D.length c3'):=block_cell hb8 rfl
                     have r1':w8.frozen? ⟨gD,0,none⟩=false:=block_frozen hb8
                     have r2':gD<w8.heap.size:=(Array.getElem?_eq_some_iff.1 hb8).1
                     have HKW:=HKG.out _ _ HG8.out
                     have HKV:=HKU.out _ (.slice a8 (D.length+1) c8) HKW (by have h:=HG8.out.size;have e:=HYY.out;simp only[World.size_alloc]at h;omega)
                     clear hown8 hg8 hb8
                     refine hK.out _ _ HKW (fun hHeld=>?_)
                     clear hK K
                     refine tq 186 39 (h:=?_)
                     simp only[List.setIfInBounds_toArray,List.set_cons_succ,List.set_cons_zero]
                     refine rd1 40 (fun K hK=>?_)
                     go_simp
                     refine hK.out _ _ HKV (fun hHeld=>?_)
                     clear hK K
                     refine wpAnyH_done (by kernel_rfl) ?_ _
                     have HFIN:Hid (SbAt w N gW gS gN gD B #[.slice (some ⟨b,off,none⟩) C.length cap,.int .i64 loops] L (thTo C k L N C.length 0) (rfTo P N N) (.slice a8 (D.length+1) c8) (loops+(cQ:Nat)) (D++[(⟨(f0:Nat),(f1:Nat),(f2:Nat),(f3:Nat),xp⟩:Cr)]) (w8.setCell ⟨gD,0,none⟩ (.slice a8 (D.length+1) c8))):=HOD.out.app rfl HOW8.out HG8.out
                     clear hHeld t0 r0' r1' HKW HKV
                     go_wp2
                     go_roundw
                     all_goals first
                      |(simp only[intOf];omega)
                      |exact⟨i+1,.slice a8 (D.length+1) c8,D++[(⟨(f0:Nat),(f1:Nat),(f2:Nat),(f3:Nat),xp⟩:Cr)],by omega,by go_num,(HRN.out.symm:D++[(⟨(f0:Nat),(f1:Nat),(f2:Nat),(f3:Nat),xp⟩:Cr)]=reTo C [k] (numM L P) (i+1)),(by have:=HDL.out;simp;omega),HFIN.out⟩
               · obtain rfl:i=C.length:=by omega
                 have hdi:decide ((C.length:Int)<(C.length:Int))=false:=by simp
                 have hdi2:decide (C.length<C.length)=false:=by simp
                 have HDE:Hid (reTo C [k] (numM L (thB C k L C.length 0)) C.length=D):=(by rw[HPQ.out.1];exact hDe.out.symm:reTo C [k] (numM L (thB C k L C.length 0)) C.length=D)
                 have HQE:Hid (cntB (nfB L (thB C k L C.length 0)) N=cQ):=(by rw[HPQ.out.1,HPQ.out.2];exact HCP.out.2:cntB (nfB L (thB C k L C.length 0)) N=cQ)
                 have HP6:Hid (SbAt w N gW gS gN gD B #[.slice (some ⟨b,off,none⟩) C.length cap,.int .i64 loops] L (thTo C k L N C.length 0) (rfTo P N N) v (loops+(cQ:Nat)) D W6):=hp.out
                 clear hDe hp
                 obtain⟨a3,c3',ev3⟩:=own_capS HP6.out.out.row
                 subst ev3
                 have hlS:=HP6.out.sa.ltS
                 have hne:=HP6.out.ne
                 have t0:W6.cell? ⟨gD,0,none⟩=some (.slice a3 D.length c3'):=block_cell HP6.out.out.box rfl
                 have t1:W6.cell? ⟨gD,1,none⟩=some (.int .i64 (loops+(cQ:Int))):=block_cell HP6.out.out.box rfl
                 have t2:W6.cell? ⟨w.heap.size+1,0,none⟩=some (.slice none 0 0):=block_cell HP6.out.sa.res rfl
                 have t3:W6.cell? ⟨w.heap.size+1,1,none⟩=some (.int .i64 0):=block_cell HP6.out.sa.res rfl
                 have f0:W6.frozen? ⟨w.heap.size+1,0,none⟩=false:=block_frozen HP6.out.sa.res
                 have f1:W6.frozen? ⟨w.heap.size+1,1,none⟩=false:=block_frozen HP6.out.sa.res
                 have l7:gD<W6.heap.size:=by omega
                 have l8:w.heap.size+1<W6.heap.size:=by omega
                 go_wp2
                 have hX:=set_block (i:=1) (u:=.int .i64 (loops+(cQ:Int))) (set_block (i:=0) (u:=.slice a3 D.length c3') HP6.out.sa.res)
                 have x0:=block_cell (i:=0) (v:=.slice a3 D.length c3') hX rfl
                 have x1:=block_cell (i:=1) (v:=.int .i64 (loops+(cQ:Int))) hX rfl
                 have hgg:=st2_grown W6 (w.heap.size+1) 0 (.slice a3 D.length c3') (.int .i64 (loops+(cQ:Int)))
                 have hk' := HP6.out.out.row.kept hgg (by
                  cases hv:(Value.slice a3 D.length c3').ownBlock with
                  |none=>exact Or.inl rfl
                  |some k=>exact Or.inr (fun e=>by have h1:=(HP6.out.out.row.lt k hv).1;have h2:=Option.some.inj e;omega))
                 refine bodyPost_ret (v:=.agg #[.slice a3 D.length c3',.int .i64 (loops+(cQ:Int))]) (by simp[results,Try.results21,go_sem,x0,x1]) rfl ?_
                 rw[HDE.out,HQE.out]
                 exact⟨_,rfl,own_low hk' (by omega),hbel.grown hgg (by omega) (fun q hq=>by have:=Option.some.inj hq;omega)⟩
end Go.Proofs.Ytefooihnoajnlaa
