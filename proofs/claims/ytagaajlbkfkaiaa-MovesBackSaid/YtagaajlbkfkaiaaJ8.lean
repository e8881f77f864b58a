/- The walk of ref.SmoothOf. -/
import Derived.Test.YtagaajlbkfkaiaaF2P
import Derived.Test.YtagaajlbkfkaiaaOmP
import Derived.Test.YtagaajlbkfkaiaaS2P
import Derived.Test.YtagaajlbkfkaiaaW5P
import Derived.BigRegion
import Derived.Deep.Cut
namespace Go.Proofs.Ytagaajlbkfkaiaa
open Go.RowKit
structure SaAt (w:World) (N gL gS:Nat) (box:Array Value) (L:List Nat) (S:List Bool) (wr:World):Prop where
 box:wr.heap[w.heap.size]?=some (.cells box 24 (0,0))
 res:wr.heap[w.heap.size+1]?=some (.cells #[.slice none 0 0,.int .i64 0] 24 (0,0))
 row:wr.ownsRow (w.heap.size+2) 3 1 (.slice (some ⟨gL,0,none⟩) N N) N (nats L)
 st:wr.ownsRow gS 4 1 (.slice (some ⟨gS,0,none⟩) N N) N (bools S)
 lt:gL<gS
 bel:Below w.heap.size w wr
theorem SaAt.on {w wr w':World} {N gL gS:Nat} {box:Array Value} {L:List Nat} {S:List Bool} (h:SaAt w N gL gS box L S wr) (hb:Below wr.heap.size wr w'):SaAt w N gL gS box L S w':=
 ⟨(hb.block _ (Array.getElem?_eq_some_iff.1 h.box).1).trans h.box,(hb.block _ (Array.getElem?_eq_some_iff.1 h.res).1).trans h.res,QX0 h.row (QQ5 hb none),QX0 h.st (QQ5 hb none),h.lt,h.bel.trans (hb.mono h.bel.size)⟩
theorem SaAt.ltS {w wr:World} {N gL gS:Nat} {box:Array Value} {L:List Nat} {S:List Bool} (h:SaAt w N gL gS box L S wr):w.heap.size+2<=gL/\gL<gS/\gS<wr.heap.size:=⟨(h.row.lt gL rfl).1,h.lt,(h.st.lt gS rfl).2⟩
theorem SaAt.kept {w wr w':World} {N gL gS q:Nat} {box:Array Value} {L:List Nat} {S:List Bool} (h:SaAt w N gL gS box L S wr) (hg:wr.grownBy w' (some q)) (hq:gS<q):SaAt w N gL gS box L S w':=by
 have hl:=h.ltS
 exact⟨(hg.block _ (Array.getElem?_eq_some_iff.1 h.box).1 (fun e=>by have:=Option.some.inj e;omega)).trans h.box,(hg.block _ (Array.getElem?_eq_some_iff.1 h.res).1 (fun e=>by have:=Option.some.inj e;omega)).trans h.res,h.row.kept hg (Or.inr (fun e=>by have:gL=q:=Option.some.inj e;omega)),h.st.kept hg (Or.inr (fun e=>by have:gS=q:=Option.some.inj e;omega)),h.lt,h.bel.grown hg h.bel.size (fun k hk=>by have:=Option.some.inj hk;omega)⟩
theorem SaAt.set {w wr:World} {N gL gS:Nat} {box:Array Value} {L:List Nat} {S S':List Bool} {i:Nat} {b:Bool} (h:SaAt w N gL gS box L S wr) (e:S.set i b=S'):SaAt w N gL gS box L S' (wr.setCell ⟨gS,i,none⟩ (.bool b)):=by
 have hst:=h.st.stored i (.bool b)
 rw[bools_set,e]at hst
 have hl:=h.ltS
 exact⟨(hst.2.block _ (Array.getElem?_eq_some_iff.1 h.box).1 (fun e=>by have:w.heap.size=gS:=Option.some.inj e;omega)).trans h.box,(hst.2.block _ (Array.getElem?_eq_some_iff.1 h.res).1 (fun e=>by have:w.heap.size+1=gS:=Option.some.inj e;omega)).trans h.res,h.row.kept hst.2 (Or.inr (fun e=>by have:gL=gS:=Option.some.inj e;omega)),hst.1,h.lt,h.bel.grown hst.2 h.bel.size (fun q hq=>by have:=Option.some.inj hq;omega)⟩
theorem SaAt.atL {w wr:World} {N gL gS:Nat} {box:Array Value} {L:List Nat} {S:List Bool} (h:SaAt w N gL gS box L S wr) (hl:L.length=N) (i:Nat) (hi:i<N):wr.cell? ⟨gL,i,none⟩=some (.int .i64 (L.getD i 0:Nat)):=by
 rw[h.row.cellAt i (by omega)];exact nats_get _ i (by omega)
theorem SaAt.atS {w wr:World} {N gL gS:Nat} {box:Array Value} {L:List Nat} {S:List Bool} (h:SaAt w N gL gS box L S wr) (hl:S.length=N) (i:Nat) (hi:i<N):wr.cell? ⟨gS,i,none⟩=some (.bool (S.getD i true)):=by
 rw[h.st.cellAt i (by omega)];exact bools_get _ i (by omega)
theorem SaAt.kept2 {w wr w':World} {N gL gS:Nat} {row:Option Nat} {box:Array Value} {L:List Nat} {S:List Bool} (h:SaAt w N gL gS box L S wr) (hg:wr.grownBy w' row) (hq:∀ q,row=some q->gS<q):SaAt w N gL gS box L S w':=by
 have hl:=h.ltS
 have hne:∀ k,k<=gS->some k≠row:=fun k hk e=>by have:=hq k e.symm;omega
 exact⟨(hg.block _ (Array.getElem?_eq_some_iff.1 h.box).1 (hne _ (by omega))).trans h.box,(hg.block _ (Array.getElem?_eq_some_iff.1 h.res).1 (hne _ (by omega))).trans h.res,h.row.kept hg (Or.inr (hne gL (by omega))),h.st.kept hg (Or.inr (hne gS (Nat.le_refl _))),h.lt,h.bel.grown hg h.bel.size (fun k hk=>by have:=hq k hk;omega)⟩
structure SmAt (w:World) (N gW:Nat) (box:Array Value) (L:List Nat) (wr:World):Prop where
 box:wr.heap[w.heap.size]?=some (.cells box 24 (0,0))
 res:wr.heap[w.heap.size+1]?=some (.cells #[.slice none 0 0,.int .i64 0] 24 (0,0))
 row:wr.ownsRow (w.heap.size+2) 3 1 (.slice (some ⟨gW,0,none⟩) N N) N (nats L)
 bel:Below w.heap.size w wr
theorem SmAt.on {w wr w':World} {N gW:Nat} {box:Array Value} {L:List Nat} (h:SmAt w N gW box L wr) (hb:Below wr.heap.size wr w'):SmAt w N gW box L w':=
 ⟨(hb.block _ (Array.getElem?_eq_some_iff.1 h.box).1).trans h.box,(hb.block _ (Array.getElem?_eq_some_iff.1 h.res).1).trans h.res,QX0 h.row (QQ5 hb none),h.bel.trans (hb.mono h.bel.size)⟩
theorem SmAt.lt {w wr:World} {N gW:Nat} {box:Array Value} {L:List Nat} (h:SmAt w N gW box L wr):w.heap.size+2<=gW/\gW<wr.heap.size:=h.row.lt gW rfl
theorem SmAt.to {w wr w':World} {N gW:Nat} {box:Array Value} {L M:List Nat} (h:SmAt w N gW box L wr) (hg:wr.grownBy w' (some (gW))) (hr:w'.ownsRow (w.heap.size+2) 3 1 (.slice (some ⟨gW,0,none⟩) N N) N (nats M)):SmAt w N gW box M w':=by
 have hl:=h.row.lt gW rfl
 exact⟨(hg.block _ (Array.getElem?_eq_some_iff.1 h.box).1 (fun e=>by have:=Option.some.inj e;omega)).trans h.box,(hg.block _ (Array.getElem?_eq_some_iff.1 h.res).1 (fun e=>by have:=Option.some.inj e;omega)).trans h.res,hr,h.bel.grown hg h.bel.size (fun q hq=>by have:=Option.some.inj hq;omega)⟩
theorem SmAt.set {w wr:World} {N gW:Nat} {box:Array Value} {L M:List Nat} {i z:Nat} (h:SmAt w N gW box L wr) (e:L.set i z=M):SmAt w N gW box M (wr.setCell ⟨gW,i,none⟩ (.int .i64 (z:Nat))):=by
 have hst:=h.row.stored i (.int .i64 (z:Nat))
 rw[nats_set,e]at hst
 exact h.to hst.2 hst.1
theorem SmAt.at_ {w wr:World} {N gW:Nat} {box:Array Value} {L:List Nat} (h:SmAt w N gW box L wr) (hl:L.length=N) (i:Nat) (hi:i<N):wr.cell? ⟨gW,i,none⟩=some (.int .i64 (L.getD i 0:Nat)):=by
 rw[h.row.cellAt i (by omega)];exact nats_get _ i (by omega)
structure ScAt (w:World) (N gL gS gD:Nat) (box:Array Value) (L:List Nat) (S:List Bool) (lp:Int) (wr:World):Prop where
 sa:SaAt w N gL gS box L S wr
 od:wr.heap[gD]?=some (.cells #[.slice none 0 0,.int .i64 lp] 24 (0,0))
 lt:gS<gD
theorem ScAt.on {w wr w':World} {N gL gS gD:Nat} {box:Array Value} {L:List Nat} {S:List Bool} {lp:Int} (h:ScAt w N gL gS gD box L S lp wr) (hb:Below wr.heap.size wr w'):ScAt w N gL gS gD box L S lp w':=
 ⟨h.sa.on hb,(hb.block _ (Array.getElem?_eq_some_iff.1 h.od).1).trans h.od,h.lt⟩
theorem ScAt.set {w wr:World} {N gL gS gD:Nat} {box:Array Value} {L:List Nat} {S S':List Bool} {lp:Int} {i:Nat} {b:Bool} (h:ScAt w N gL gS gD box L S lp wr) (e:S.set i b=S'):ScAt w N gL gS gD box L S' lp (wr.setCell ⟨gS,i,none⟩ (.bool b)):=
 ⟨h.sa.set e,((QQ7 wr gS i (.bool b)).block _ (Array.getElem?_eq_some_iff.1 h.od).1 (fun e=>by have:=h.lt;have:=Option.some.inj e;omega)).trans h.od,h.lt⟩
structure SbAt (w:World) (N gL gS gN gD B:Nat) (box:Array Value) (L:List Nat) (S:List Bool) (M:List Nat) (v:Value) (lp:Int) (D:List Cr) (wr:World):Prop where
 sa:SaAt w N gL gS box L S wr
 num:wr.ownsRow (gS+1) 3 1 (.slice (some ⟨gN,0,none⟩) N N) N (nats M)
 out:OutAt wr B gD v lp D
 ne:gS<gN/\gS<gD/\gN≠gD/\gN<B/\gD<B/\B<=wr.heap.size
theorem SbAt.on {w wr w':World} {N gL gS gN gD B:Nat} {box:Array Value} {L:List Nat} {S:List Bool} {M:List Nat} {v:Value} {lp:Int} {D:List Cr} (h:SbAt w N gL gS gN gD B box L S M v lp D wr) (hb:Below wr.heap.size wr w'):SbAt w N gL gS gN gD B box L S M v lp D w':=
 ⟨h.sa.on hb,QX0 h.num (QQ5 hb none),h.out.on hb,by have:=h.ne;have:=hb.size;omega⟩
theorem SbAt.set {w wr:World} {N gL gS gN gD B:Nat} {box:Array Value} {L:List Nat} {S:List Bool} {M M':List Nat} {v:Value} {lp:Int} {D:List Cr} {i z:Nat} (h:SbAt w N gL gS gN gD B box L S M v lp D wr) (e:M.set i z=M'):SbAt w N gL gS gN gD B box L S M' v lp D (wr.setCell ⟨gN,i,none⟩ (.int .i64 (z:Nat))):=by
 have hst:=h.num.stored i (.int .i64 (z:Nat))
 rw[nats_set,e]at hst
 obtain⟨n1,n2,n4,n7,n8,n10⟩:=h.ne
 have hs:=hst.2.size
 exact⟨h.sa.kept hst.2 n1,hst.1,h.out.kept hst.2 n4 n7,⟨n1,n2,n4,n7,n8,by omega⟩⟩
theorem SbAt.loop {w wr:World} {N gL gS gN gD B:Nat} {box:Array Value} {L:List Nat} {S:List Bool} {M:List Nat} {v:Value} {lp lp':Int} {D:List Cr} (h:SbAt w N gL gS gN gD B box L S M v lp D wr):SbAt w N gL gS gN gD B box L S M v lp' D (wr.setCell ⟨gD,1,none⟩ (.int .i64 lp')):=by
 obtain⟨n1,n2,n4,n7,n8,n10⟩:=h.ne
 have hg:=QQ7 wr gD 1 (.int .i64 lp')
 have hs:=hg.size
 refine⟨h.sa.kept hg n2,h.num.kept hg (Or.inr (fun e=>n4 (Option.some.inj e))),⟨QQ6 h.out.box,h.out.row.kept hg ?_⟩,⟨n1,n2,n4,n7,n8,by omega⟩⟩
 cases hv:v.ownBlock with
 |none=>exact Or.inl rfl
 |some k=>exact Or.inr (fun e=>by have h1:=(h.out.row.lt k hv).1;have h2:=Option.some.inj e;omega)
theorem SbAt.atM {w wr:World} {N gL gS gN gD B:Nat} {box:Array Value} {L:List Nat} {S:List Bool} {M:List Nat} {v:Value} {lp:Int} {D:List Cr} (h:SbAt w N gL gS gN gD B box L S M v lp D wr) (hl:M.length=N) (i:Nat) (hi:i<N):wr.cell? ⟨gN,i,none⟩=some (.int .i64 (M.getD i 0:Nat)):=by
 rw[h.num.cellAt i (by omega)];exact nats_get _ i (by omega)
theorem SbAt.app {w wA w8:World} {N gL gS gN gD B m:Nat} {box:Array Value} {L:List Nat} {S:List Bool} {M:List Nat} {v v8:Value} {lp:Int} {D:List Cr} {x:Cr} {o:Obj} (h:SbAt w N gL gS gN gD B box L S M v lp D wA) (hm:m=D.length+1) (hown8:w8.ownsRow B 71 5 v8 m (QQ4 D++QQ4 [x])) (hg8:(wA.alloc o).grownBy w8 v.ownBlock):SbAt w N gL gS gN gD B box L S M v8 lp (D++[x]) (w8.setCell ⟨gD,0,none⟩ v8):=by
 obtain⟨n1,n2,n4,n7,n8,n10⟩:=h.ne
 have hg:wA.grownBy w8 v.ownBlock:=QQ8 (World.grownBy_alloc _ _ _) hg8
 have hq:∀ q,v.ownBlock=some q->B<=q:=fun q e=>(h.out.row.lt q e).1
 have hs:=hg.size
 have hg2:=QQ7 w8 gD 0 v8
 have hs2:=hg2.size
 have sa8:=h.sa.kept2 hg (fun q e=>by have:=hq q e;omega)
 have num8:=h.num.kept hg (Or.inr (fun e=>by have:=hq gN e.symm;omega))
 exact⟨sa8.kept hg2 n2,num8.kept hg2 (Or.inr (fun e=>n4 (Option.some.inj e))),h.out.app n8 hm hown8 hg8,⟨n1,n2,n4,n7,n8,by omega⟩⟩
end Go.Proofs.Ytagaajlbkfkaiaa
