/- The walk of Drawing.Without, with the arc on which the other strand goes on. -/
import Derived.Test.YtagaajlbkfkaiaaTkhP
import Derived.Test.YtagaajlbkfkaiaaF2P
import Derived.Test.YtagaajlbkfkaiaaS2P
import Derived.Test.YtagaajlbkfkaiaaW5P
import Derived.BigRegion
namespace Go.Proofs.Ytagaajlbkfkaiaa
open Go.RowKit
set_option maxHeartbeats 16000000
set_option maxRecDepth 100000
structure WiAt (w:World) (N gL gS:Nat) (box:Array Value) (L:List Nat) (S:List Bool) (wr:World):Prop where
 box:wr.heap[w.heap.size]?=some (.cells box 61 (0,0))
 res:wr.heap[w.heap.size+1]?=some (.cells #[.slice none 0 0,.int .i64 0] 24 (0,0))
 row:wr.ownsRow (w.heap.size+2) 3 1 (.slice (some ⟨gL,0,none⟩) N N) N (nats L)
 st:wr.ownsRow gS 4 1 (.slice (some ⟨gS,0,none⟩) N N) N (bools S)
 lt:gL<gS
 bel:Below w.heap.size w wr
theorem WiAt.on {w wr w':World} {N gL gS:Nat} {box:Array Value} {L:List Nat} {S:List Bool} (h:WiAt w N gL gS box L S wr) (hb:Below wr.heap.size wr w'):WiAt w N gL gS box L S w':=
 ⟨(hb.block _ (Array.getElem?_eq_some_iff.1 h.box).1).trans h.box,(hb.block _ (Array.getElem?_eq_some_iff.1 h.res).1).trans h.res,QX0 h.row (QQ5 hb none),QX0 h.st (QQ5 hb none),h.lt,h.bel.trans (hb.mono h.bel.size)⟩
theorem WiAt.ltS {w wr:World} {N gL gS:Nat} {box:Array Value} {L:List Nat} {S:List Bool} (h:WiAt w N gL gS box L S wr):w.heap.size+2<=gL/\gL<gS/\gS<wr.heap.size:=⟨(h.row.lt gL rfl).1,h.lt,(h.st.lt gS rfl).2⟩
theorem WiAt.kept {w wr w':World} {N gL gS q:Nat} {box:Array Value} {L:List Nat} {S:List Bool} (h:WiAt w N gL gS box L S wr) (hg:wr.grownBy w' (some q)) (hq:gS<q):WiAt w N gL gS box L S w':=by
 have hl:=h.ltS
 exact⟨(hg.block _ (Array.getElem?_eq_some_iff.1 h.box).1 (fun e=>by have:=Option.some.inj e;omega)).trans h.box,(hg.block _ (Array.getElem?_eq_some_iff.1 h.res).1 (fun e=>by have:=Option.some.inj e;omega)).trans h.res,h.row.kept hg (Or.inr (fun e=>by have:gL=q:=Option.some.inj e;omega)),h.st.kept hg (Or.inr (fun e=>by have:gS=q:=Option.some.inj e;omega)),h.lt,h.bel.grown hg h.bel.size (fun k hk=>by have:=Option.some.inj hk;omega)⟩
theorem WiAt.set {w wr:World} {N gL gS:Nat} {box:Array Value} {L:List Nat} {S S':List Bool} {i:Nat} {b:Bool} (h:WiAt w N gL gS box L S wr) (e:S.set i b=S'):WiAt w N gL gS box L S' (wr.setCell ⟨gS,i,none⟩ (.bool b)):=by
 have hst:=h.st.stored i (.bool b)
 rw[bools_set,e]at hst
 have hl:=h.ltS
 exact⟨(hst.2.block _ (Array.getElem?_eq_some_iff.1 h.box).1 (fun e=>by have:w.heap.size=gS:=Option.some.inj e;omega)).trans h.box,(hst.2.block _ (Array.getElem?_eq_some_iff.1 h.res).1 (fun e=>by have:w.heap.size+1=gS:=Option.some.inj e;omega)).trans h.res,h.row.kept hst.2 (Or.inr (fun e=>by have:gL=gS:=Option.some.inj e;omega)),hst.1,h.lt,h.bel.grown hst.2 h.bel.size (fun q hq=>by have:=Option.some.inj hq;omega)⟩
theorem WiAt.atL {w wr:World} {N gL gS:Nat} {box:Array Value} {L:List Nat} {S:List Bool} (h:WiAt w N gL gS box L S wr) (hl:L.length=N) (i:Nat) (hi:i<N):wr.cell? ⟨gL,i,none⟩=some (.int .i64 (L.getD i 0:Nat)):=by
 rw[h.row.cellAt i (by omega)];exact nats_get _ i (by omega)
theorem WiAt.atS {w wr:World} {N gL gS:Nat} {box:Array Value} {L:List Nat} {S:List Bool} (h:WiAt w N gL gS box L S wr) (hl:S.length=N) (i:Nat) (hi:i<N):wr.cell? ⟨gS,i,none⟩=some (.bool (S.getD i true)):=by
 rw[h.st.cellAt i (by omega)];exact bools_get _ i (by omega)
def toZ (C:List Cr) (j:Nat):Int:=if j=0 then -1 else(toC C j:Int)
theorem gone_has (C:List Cr) (G:List Nat) (j:Nat):goneB C G j=hasG G (toZ C j):=by
 unfold goneB toZ
 by_cases e:j=0
 · rw[if_pos e,if_pos e,hasG_neg]
 · rw[if_neg e,if_neg e,hasG_nat]
theorem Dr.toAt0 {w:World} {a:Option Addr} {cap:Nat} {C:List Cr} {gF gT:Nat} {loops:Int} (h:Dr w a cap C gF gT) (hm:mayD C loops=true) (x:Nat) (h2:x<=2*C.length):
    w.cell? ⟨gT,x*2,none⟩=some (.int .i64 (toZ C x))/\∃ s:Int,w.cell? ⟨gT,x*2+1,none⟩=some (.int .i64 s):=by
 by_cases e:x=0
 · subst e
   have hT:=h.to 0 (by rw[QX9];omega)
   have e0:(ends C true C.length 0).getD 0 (0,0)=(-1,0):=by simp[ends,List.getD_eq_getElem?_getD]
   rw[e0,Nat.zero_add]at hT
   exact⟨hT.1,0,hT.2⟩
 · have:=h.toAt hm x (by omega) h2
   unfold toZ
   rw[if_neg e]
   exact⟨this.1,_,this.2⟩
theorem jblk {w:World} {g:Nat} {o:Obj} (h:w.heap[g]?=some o):w.drew.heap[g]?=some o:=h
theorem jblk1 (w:World) (o p q:Obj):(((w.alloc o).alloc p).alloc q).drew.heap[w.heap.size]?=some o:=jblk (alloc_old (alloc_old (alloc_at rfl)))
theorem jblk2 (w:World) (o p q:Obj):(((w.alloc p).alloc o).alloc q).drew.heap[w.heap.size+1]?=some o:=jblk (alloc_old (alloc_at (by simp)))
theorem jblk3 (w:World) (o p q:Obj):(((w.alloc p).alloc q).alloc o).drew.heap[w.heap.size+1+1]?=some o:=jblk (alloc_at (by simp))
theorem jown {w:World} {B e s n:Nat} {v:Value} {xs:List Value} (h:w.ownsRow B e s v n xs):w.drew.ownsRow B e s v n xs:=QX0 h (QQ5 (below_drewN (Below.refl _ _) 1) none)
theorem jown1 {w:World} {B e s n:Nat} {cs:Array Value} (p q:Obj) (hB:B<=w.heap.size) (hn:n<=maxLen) (hc:cs.size=n*s):(((w.alloc (.cells cs e)).alloc p).alloc q).drew.ownsRow B e s (.slice (some ⟨w.heap.size,0,none⟩) n n) n cs.toList:=
 jown (((World.ownsRow_lit w cs n hB hn hc).alloc p).alloc q)
theorem jown2 {w:World} {B e s n:Nat} {cs:Array Value} (p q:Obj) (hB:B<=w.heap.size) (hn:n<=maxLen) (hc:cs.size=n*s):(((w.alloc p).alloc (.cells cs e)).alloc q).drew.ownsRow B e s (.slice (some ⟨w.heap.size+1,0,none⟩) n n) n cs.toList:=by
 have h:=jown ((World.ownsRow_lit (base:=B) (e:=e) (size:=s) (w.alloc p) cs n (by simp;omega) hn hc).alloc q)
 have e1:(w.alloc p).heap.size=w.heap.size+1:=by simp
 rw[e1]at h
 exact h
theorem jown3 {w:World} {B e s n:Nat} {cs:Array Value} (p q:Obj) (hB:B<=w.heap.size) (hn:n<=maxLen) (hc:cs.size=n*s):(((w.alloc p).alloc q).alloc (.cells cs e)).drew.ownsRow B e s (.slice (some ⟨w.heap.size+1+1,0,none⟩) n n) n cs.toList:=by
 have h:=jown (World.ownsRow_lit (base:=B) (e:=e) (size:=s) ((w.alloc p).alloc q) cs n (by simp;omega) hn hc)
 have e1:((w.alloc p).alloc q).heap.size=w.heap.size+1+1:=by simp
 rw[e1]at h
 exact h
theorem jbel3 (w:World) (o p q:Obj):Below w.heap.size w (((w.alloc o).alloc p).alloc q).drew:=(QV1 w o p q).drew
structure WjAt (w:World) (N gL gS gN gD gV B:Nat) (box:Array Value) (L:List Nat) (S:List Bool) (M:List Nat) (v:Value) (lp:Int) (D:List Cr) (wr:World):Prop where
 wi:WiAt w N gL gS box L S wr
 num:wr.ownsRow (gS+1) 3 1 (.slice (some ⟨gN,0,none⟩) N N) N (nats M)
 vb:wr.heap[gV]?=some (.cells #[.slice (some ⟨gN,0,none⟩) N N] 46 (0,0))
 out:OutAt wr B gD v lp D
 ne:gS<gN/\gS<gD/\gS<gV/\gN≠gD/\gN≠gV/\gD≠gV/\gN<B/\gD<B/\gV<B/\B<=wr.heap.size
theorem WjAt.on {w wr w':World} {N gL gS gN gD gV B:Nat} {box:Array Value} {L:List Nat} {S:List Bool} {M:List Nat} {v:Value} {lp:Int} {D:List Cr} (h:WjAt w N gL gS gN gD gV B box L S M v lp D wr) (hb:Below wr.heap.size wr w'):WjAt w N gL gS gN gD gV B box L S M v lp D w':=
 ⟨h.wi.on hb,QX0 h.num (QQ5 hb none),(hb.block _ (Array.getElem?_eq_some_iff.1 h.vb).1).trans h.vb,h.out.on hb,by have:=h.ne;have:=hb.size;omega⟩
theorem WjAt.set {w wr:World} {N gL gS gN gD gV B:Nat} {box:Array Value} {L:List Nat} {S:List Bool} {M M':List Nat} {v:Value} {lp:Int} {D:List Cr} {i z:Nat} (h:WjAt w N gL gS gN gD gV B box L S M v lp D wr) (e:M.set i z=M'):WjAt w N gL gS gN gD gV B box L S M' v lp D (wr.setCell ⟨gN,i,none⟩ (.int .i64 (z:Nat))):=by
 have hst:=h.num.stored i (.int .i64 (z:Nat))
 rw[nats_set,e]at hst
 obtain⟨n1,n2,n3,n4,n5,n6,n7,n8,n9,n10⟩:=h.ne
 have hs:=hst.2.size
 exact⟨h.wi.kept hst.2 n1,hst.1,(hst.2.block _ (Array.getElem?_eq_some_iff.1 h.vb).1 (fun e=>n5 (Option.some.inj e).symm)).trans h.vb,h.out.kept hst.2 n4 n7,⟨n1,n2,n3,n4,n5,n6,n7,n8,n9,by omega⟩⟩
theorem WjAt.loop {w wr:World} {N gL gS gN gD gV B:Nat} {box:Array Value} {L:List Nat} {S:List Bool} {M:List Nat} {v:Value} {lp lp':Int} {D:List Cr} (h:WjAt w N gL gS gN gD gV B box L S M v lp D wr):WjAt w N gL gS gN gD gV B box L S M v lp' D (wr.setCell ⟨gD,1,none⟩ (.int .i64 lp')):=by
 obtain⟨n1,n2,n3,n4,n5,n6,n7,n8,n9,n10⟩:=h.ne
 have hg:=QQ7 wr gD 1 (.int .i64 lp')
 have hs:=hg.size
 refine⟨h.wi.kept hg n2,h.num.kept hg (Or.inr (fun e=>n4 (Option.some.inj e))),(hg.block _ (Array.getElem?_eq_some_iff.1 h.vb).1 (fun e=>n6 (Option.some.inj e).symm)).trans h.vb,⟨QQ6 h.out.box,h.out.row.kept hg ?_⟩,⟨n1,n2,n3,n4,n5,n6,n7,n8,n9,by omega⟩⟩
 cases hv:v.ownBlock with
 |none=>exact Or.inl rfl
 |some k=>exact Or.inr (fun e=>by have h1:=(h.out.row.lt k hv).1;have h2:=Option.some.inj e;omega)
theorem WjAt.atM {w wr:World} {N gL gS gN gD gV B:Nat} {box:Array Value} {L:List Nat} {S:List Bool} {M:List Nat} {v:Value} {lp:Int} {D:List Cr} (h:WjAt w N gL gS gN gD gV B box L S M v lp D wr) (hl:M.length=N) (i:Nat) (hi:i<N):wr.cell? ⟨gN,i,none⟩=some (.int .i64 (M.getD i 0:Nat)):=by
 rw[h.num.cellAt i (by omega)];exact nats_get _ i (by omega)
theorem WiAt.kept2 {w wr w':World} {N gL gS:Nat} {row:Option Nat} {box:Array Value} {L:List Nat} {S:List Bool} (h:WiAt w N gL gS box L S wr) (hg:wr.grownBy w' row) (hq:∀ q,row=some q->gS<q):WiAt w N gL gS box L S w':=by
 have hl:=h.ltS
 have hne:∀ k,k<=gS->some k≠row:=fun k hk e=>by have:=hq k e.symm;omega
 exact⟨(hg.block _ (Array.getElem?_eq_some_iff.1 h.box).1 (hne _ (by omega))).trans h.box,(hg.block _ (Array.getElem?_eq_some_iff.1 h.res).1 (hne _ (by omega))).trans h.res,h.row.kept hg (Or.inr (hne gL (by omega))),h.st.kept hg (Or.inr (hne gS (Nat.le_refl _))),h.lt,h.bel.grown hg h.bel.size (fun k hk=>by have:=hq k hk;omega)⟩
theorem WjAt.app {w wA w8:World} {N gL gS gN gD gV B m:Nat} {box:Array Value} {L:List Nat} {S:List Bool} {M:List Nat} {v v8:Value} {lp:Int} {D:List Cr} {x:Cr} {o:Obj} (h:WjAt w N gL gS gN gD gV B box L S M v lp D wA) (hm:m=D.length+1) (hown8:w8.ownsRow B 71 5 v8 m (QQ4 D++QQ4 [x])) (hg8:(wA.alloc o).grownBy w8 v.ownBlock):WjAt w N gL gS gN gD gV B box L S M v8 lp (D++[x]) (w8.setCell ⟨gD,0,none⟩ v8):=by
 obtain⟨n1,n2,n3,n4,n5,n6,n7,n8,n9,n10⟩:=h.ne
 have hg:wA.grownBy w8 v.ownBlock:=QQ8 (World.grownBy_alloc _ _ _) hg8
 have hq:∀ q,v.ownBlock=some q->B<=q:=fun q e=>(h.out.row.lt q e).1
 have hs:=hg.size
 have hg2:=QQ7 w8 gD 0 v8
 have hs2:=hg2.size
 have wi8:=h.wi.kept2 hg (fun q e=>by have:=hq q e;omega)
 have num8:=h.num.kept hg (Or.inr (fun e=>by have:=hq gN e.symm;omega))
 have vb8:=(hg.block gV (Array.getElem?_eq_some_iff.1 h.vb).1 (fun e=>by have:=hq gV e.symm;omega)).trans h.vb
 exact⟨wi8.kept hg2 n2,num8.kept hg2 (Or.inr (fun e=>n4 (Option.some.inj e))),(hg2.block _ (Array.getElem?_eq_some_iff.1 vb8).1 (fun e=>n6 (Option.some.inj e).symm)).trans vb8,h.out.app n8 hm hown8 hg8,⟨n1,n2,n3,n4,n5,n6,n7,n8,n9,by omega⟩⟩
theorem wj_start {w W X:World} {N gL gS gN gD gV:Nat} {box:Array Value} {L:List Nat} {S:List Bool} {M:List Nat} {lp:Int} (h:WiAt w N gL gS box L S W) (hb:Below W.heap.size W X) (hn:X.ownsRow W.heap.size 3 1 (.slice (some ⟨gN,0,none⟩) N N) N (nats M)) (hv:X.heap[gV]?=some (.cells #[.slice (some ⟨gN,0,none⟩) N N] 46 (0,0))) (hd:X.heap[gD]?=some (.cells #[.slice none 0 0,.int .i64 lp] 24 (0,0)))
    (hne:W.heap.size<=gN/\W.heap.size<=gD/\W.heap.size<=gV/\gN≠gD/\gN≠gV/\gD≠gV):WjAt w N gL gS gN gD gV X.heap.size box L S M (.slice none 0 0) lp [] X:=by
 have hl:=h.ltS
 have h1:=(hn.lt gN rfl).2
 have h2:=(Array.getElem?_eq_some_iff.1 hv).1
 have h3:=(Array.getElem?_eq_some_iff.1 hd).1
 exact⟨h.on hb,QX4 hn (by omega),hv,OutAt.nil hd,by omega⟩
theorem without_ahead (a:Option Addr) (cap:Nat) (C:List Cr) (loops:Int) (gF cF gT cT:Nat) (bG cG:Nat) (G:List Nat) (w:World) (hm:mayD C loops=true) (hD:Dr w a cap C gF gT) (hG1:G.length<=16) (hG:GonAt w bG G):
    Calls Try.prog 124 #[drV a cap C loops gF cF gT cT,.func (.func 97) #[drV a cap C loops gF cF gT cT] #[],.slice (some ⟨bG,0,none⟩) G.length cG] w fun e w'=>∃ v,e=.returned (.agg #[v,.int .i64 (loops+(cntB (lfB (uniM C (nx C) G) (stB C G (uniM C (nx C) G) (2*C.length+1))) (2*C.length+1):Nat))])/\w'.ownsRow w.heap.size 71 5 v (reTo C G (numM (uniM C (nx C) G) (ltB (uniM C (nx C) G) (stB C G (uniM C (nx C) G) (2*C.length+1)))) C.length).length (QQ4 (reTo C G (numM (uniM C (nx C) G) (ltB (uniM C (nx C) G) (stB C G (uniM C (nx C) G) (2*C.length+1)))) C.length))/\Below w.heap.size w w':=by
 obtain⟨s1,l0,l16,-⟩:=QZ2 (QK3 hm)
 obtain⟨i2,hk,hx0,hx1,hx2⟩:=info_parts infoInt
 obtain⟨i3,hj,hy0,hy1,hy2⟩:=info_parts infoBool
 obtain⟨i0,hi,hz0,hz1,hz2⟩:=info_parts infoCross
 have HM:Hid (mayD C loops=true):=hm
 have HD:Hid (Dr w a cap C gF gT):=hD
 have HG:Hid (GonAt w bG G):=hG
 have hbG:=hG.1
 have HUN:Hid (∀ W,Dr W a cap C gF gT->GonAt W bG G->Calls Try.prog 132 #[drV a cap C loops gF cF gT cT,.func (.func 97) #[drV a cap C loops gF cF gT cT] #[],.slice (some ⟨bG,0,none⟩) G.length cG] W fun e w'=>∃ g,e=.returned (.slice (some ⟨g,0,none⟩) (2*C.length+1) (2*C.length+1))/\w'.ownsRow W.heap.size 3 1 (.slice (some ⟨g,0,none⟩) (2*C.length+1) (2*C.length+1)) (2*C.length+1) (nats (uniM C (nx C) G))/\Below W.heap.size W w'):=fun W hW hG'=>united_ahead a cap C loops gF cF gT cT bG cG G W HM.out hW hG1 hG'
 have HHS:Hid (∀ (x:Nat) W,Calls Try.prog 104 #[drV a cap C loops gF cF gT cT,.int .i64 (x:Nat)] W fun e w'=>e=.returned (.bool (hasB C x))/\Below W.heap.size W w'):=fun x W=>has_any a cap C loops gF cF gT cT x W s1
 have HLS:Hid (Least (uTo C (nx C) G (2*C.length)) (2*C.length+1) (uniM C (nx C) G)):=uni_least (nx_goes hm).closed
 have HLP:Hid (∀ v,1<=v->v<2*C.length+1->1<=(uniM C (nx C) G).getD v 0):=fun v h1 h2=>HLS.out.pos (fun e he=>⟨(uTo_lt (nx_goes HM.out).closed e he).1.1,(uTo_lt (nx_goes HM.out).closed e he).2.1⟩) h2 h1
 unfold drV at HUN HHS ⊢
 obtain⟨N,hN⟩:∃ N,N=2*C.length+1:=⟨_,rfl⟩
 have HN:Hid (N=2*C.length+1):=hN
 have hN1:1<=N:=by omega
 have hN2:N<=33:=by omega
 rw[<-hN]at HUN HHS HLS HLP ⊢
 obtain⟨L,hL⟩:∃ L,uniM C (nx C) G=L:=⟨_,rfl⟩
 rw[hL]at HUN HLS HLP ⊢
 have HLL:Hid (L.length=N):=HLS.out.1
 clear hN hm hD hG hL
 have HB0:Hid (Below w.heap.size w ((w.alloc (.cells #[.slice a C.length cap,.int .i64 loops,.slice (some ⟨gF,0,none⟩) N cF,.slice (some ⟨gT,0,none⟩) N cT] 61)).alloc (.cells #[.slice none 0 0,.int .i64 0] 24))):=QJ3 _ _ _
 have HT0:Hid (((w.alloc (.cells #[.slice a C.length cap,.int .i64 loops,.slice (some ⟨gF,0,none⟩) N cF,.slice (some ⟨gT,0,none⟩) N cT] 61)).alloc (.cells #[.slice none 0 0,.int .i64 0] 24)).heap[w.heap.size]?=some (.cells #[.slice a C.length cap,.int .i64 loops,.slice (some ⟨gF,0,none⟩) N cF,.slice (some ⟨gT,0,none⟩) N cT] 61 (0,0))):=alloc_old (alloc_at rfl)
 have HT1:Hid (((w.alloc (.cells #[.slice a C.length cap,.int .i64 loops,.slice (some ⟨gF,0,none⟩) N cF,.slice (some ⟨gT,0,none⟩) N cT] 61)).alloc (.cells #[.slice none 0 0,.int .i64 0] 24)).heap[w.heap.size+1]?=some (.cells #[.slice none 0 0,.int .i64 0] 24 (0,0))):=alloc_at (by simp)
 go_enter Try.func124,Try.ntmps124
 go_wp2_with (go_at_call 132;refine(HUN.out _ (HD.out.on HB0.out) (HG.out.on HB0.out)).mono ?_;rintro e9 w1 ⟨gL,rfl,hr1,hb1⟩;refine Hid.out ?_)
 refine Lib.hid ?_
 have hs1:w.heap.size+2<=w1.heap.size:=by have:=hb1.size;simpa using this
 have hgL:w.heap.size+2<=gL/\gL<w1.heap.size:=by have:=hr1.lt gL rfl;simpa using this
 have HR1:Hid (w1.ownsRow (w.heap.size+2) 3 1 (.slice (some ⟨gL,0,none⟩) N N) N (nats L)/\Below w.heap.size w w1/\w1.heap[w.heap.size]?=some (.cells #[.slice a C.length cap,.int .i64 loops,.slice (some ⟨gF,0,none⟩) N cF,.slice (some ⟨gT,0,none⟩) N cT] 61 (0,0))/\w1.heap[w.heap.size+1]?=some (.cells #[.slice none 0 0,.int .i64 0] 24 (0,0))):=⟨QX4 hr1 (by simp),HB0.out.trans (hb1.mono (by simp;omega)),(hb1.block _ (by simp;omega)).trans HT0.out,(hb1.block _ (by simp)).trans HT1.out⟩
 clear hr1 hb1 HT0 HT1 HB0
 go_wp2_with (first|(at_make;refine wpList_make_full _ rfl _ _ 104 rfl w1.heap.size 4 i3 (.bool false) 1 Try.underlying104 hj hy0 hy1 .i64 .i64 _ _ N rfl rfl rfl rfl (by rw[hy2];omega) (by unfold maxLen;omega) (by omega) ?_;intro w2 hrow hg2;refine Hid.out ?_))
 refine Lib.hid ?_
 rw[made_false,stTo_zero C G L]at hrow
 have HP0:Hid (WiAt w N gL w1.heap.size #[.slice a C.length cap,.int .i64 loops,.slice (some ⟨gF,0,none⟩) N cF,.slice (some ⟨gT,0,none⟩) N cT] L (stTo C G L N 0) w2):=⟨(hg2.block _ (by omega) (by simp)).trans HR1.out.2.2.1,(hg2.block _ (by omega) (by simp)).trans HR1.out.2.2.2,QX0 HR1.out.1 hg2,hrow,hgL.2,HR1.out.2.1.grown hg2 HR1.out.2.1.size (fun q hq=>by cases hq)⟩
 obtain⟨gS,hgS⟩:∃ g,w1.heap.size=g:=⟨_,rfl⟩
 rw[hgS]at HP0 ⊢
 have hb3:w2.cell? ⟨w.heap.size,3,none⟩=some (.slice (some ⟨gT,0,none⟩) N cT):=QQ0 HP0.out.box rfl
 have hlb:w.heap.size<w2.heap.size:=(Array.getElem?_eq_some_iff.1 HP0.out.box).1
 clear hrow hg2 HR1 hgS hs1 hgL
 go_wp2
 go_loopw [27] (fun v27 wr=>∃ j:Nat,j<=N/\v27=.int .i64 (j:Nat)/\Hid (WiAt w N gL gS #[.slice a C.length cap,.int .i64 loops,.slice (some ⟨gF,0,none⟩) N cF,.slice (some ⟨gT,0,none⟩) N cT] L (stTo C G L N j) wr)) (fun v27 _=>N-(intOf v27).toNat)
 case atStart=>exact⟨0,Nat.zero_le _,rfl,HP0.out⟩
 case round=>
  clear HP0 hb3 hlb
  rename World=>W1
  obtain⟨j,hjn,rfl,hp⟩:=hrel
  have hsW:=hp.out.bel.size
  have hlS:=hp.out.ltS
  by_cases hjl:j<N
  · have hto:=(HD.out.on hp.out.bel).toAt0 HM.out j (by have:=HN.out;omega)
    obtain⟨t0,ts,t1⟩:=hto
    have hgTl:gT<W1.heap.size:=(HD.out.on hp.out.bel).ltT
    have HGB:Hid (goneB C G j=hasG G (toZ C j)):=gone_has C G j
    obtain⟨tc,htc⟩:∃ z,toZ C j=z:=⟨_,rfl⟩
    rw[htc]at t0 HGB
    clear htc
    obtain⟨q,hq⟩:∃ q,L.getD j 0=q:=⟨_,rfl⟩
    have hqN:q<N:=by rw[<-hq];exact HLS.out.lt hjl
    have HQ:Hid (L.getD j 0=q):=hq
    clear hq
    obtain⟨Y,hY⟩:∃ Y,Y=W1.alloc (.cells #[.int .i64 tc,.int .i64 ts] 120):=⟨_,rfl⟩
    have HY:Hid (Y=W1.alloc (.cells #[.int .i64 tc,.int .i64 ts] 120)):=hY
    have HBY:Hid (Below W1.heap.size W1 Y):=(by rw[hY];exact(Below.refl _ _).alloc (Nat.le_refl _) _:Below W1.heap.size W1 Y)
    have HTY:Hid (Y.heap[W1.heap.size]?=some (.cells #[.int .i64 tc,.int .i64 ts] 120 (0,0))):=(by rw[hY];exact alloc_at rfl:Y.heap[W1.heap.size]?=some (.cells #[.int .i64 tc,.int .i64 ts] 120 (0,0)))
    have hsY:Y.heap.size=W1.heap.size+1:=by rw[hY];simp
    clear hY
    have HPY:Hid (∀ W,Below Y.heap.size Y W->WiAt w N gL gS #[.slice a C.length cap,.int .i64 loops,.slice (some ⟨gF,0,none⟩) N cF,.slice (some ⟨gT,0,none⟩) N cT] L (stTo C G L N j) W):=fun W hW=>(hp.out.on HBY.out).on hW
    obtain⟨b,hb⟩:∃ b,stB C G L j q=b:=⟨_,rfl⟩
    have HSB:Hid (stB C G L j q=b):=hb
    clear hb
    have HC:Hid (∀ W,Below Y.heap.size Y W->W.cell? ⟨gL,j,none⟩=some (.int .i64 (q:Nat))/\W.cell? ⟨gS,q,none⟩=some (.bool b)/\W.cell? ⟨W1.heap.size,0,none⟩=some (.int .i64 tc)/\W.frozen? ⟨gS,q,none⟩=false/\gS<W.heap.size/\GonAt W bG G):=fun W hW=>by
     have h:=HPY.out W hW
     exact⟨by rw[h.atL HLL.out j hjl,HQ.out],by rw[h.atS (stTo_len _ _ _ _ _) q hqN,stTo_at _ _ _ _ _ _ hqN,HSB.out],bcell hW (by omega) (QQ0 HTY.out rfl),h.st.frozenAt q,h.ltS.2.2,HG.out.on h.bel⟩
    have HD1:Hid (Below Y.heap.size Y Y.drew):=(Below.refl _ _).drew
    have ij0:(0:Int)<=(j:Int):=by omega
    have ij1:(j:Int)<(N:Int):=by omega
    have iq0:(0:Int)<=(q:Int):=by omega
    have iq1:(q:Int)<(N:Int):=by omega
    go_wp2
    rw[<-HY.out]
    obtain⟨y0,y1,y2,y3,y4,-⟩:=HC.out Y (Below.refl _ _)
    clear t0 t1
    cases b with
    |true=>
     go_big_region
     have HST:Hid (WiAt w N gL gS #[.slice a C.length cap,.int .i64 loops,.slice (some ⟨gF,0,none⟩) N cF,.slice (some ⟨gT,0,none⟩) N cT] L (stTo C G L N (j+1)) (Y.setCell ⟨gS,q,none⟩ (.bool true)).drew):=((HPY.out Y (Below.refl _ _)).set (stTo_next C G L N j q HQ.out true (by rw[HSB.out];rfl))).on ((Below.refl _ _).drew)
     clear y0 y1 y2 y3 y4
     go_wp2
     go_roundw
     case rel=>exact⟨j+1,by omega,by go_num,HST.out⟩
     case measure=>simp only[intOf];omega
    |false=>
     obtain⟨r,hr⟩:∃ r,hasG G tc=r:=⟨_,rfl⟩
     have HRR:Hid (hasG G tc=r):=hr
     rw[hr]at HGB
     clear hr
     have HKP:Hid (∀ W,Below Y.heap.size Y W->W.cell? ⟨gL,j,none⟩=some (.int .i64 (q:Nat))/\W.cell? ⟨W1.heap.size,0,none⟩=some (.int .i64 tc)):=fun W hW=>⟨(HC.out W hW).1,(HC.out W hW).2.2.1⟩
     refine wp_region_held_drew (S:=fun w'=>w'.cell? ⟨gL,j,none⟩=some (.int .i64 (q:Nat))/\w'.cell? ⟨W1.heap.size,0,none⟩=some (.int .i64 tc)) (by kernel_rfl) (HKP.out _ HD1.out) (fun hHeld=>?_)
     clear y0 y2
     refine tq 32 0 (h:=?_)
     refine tq 33 1 (h:=?_)
     refine tq 34 2 (h:=?_)
     refine tq 35 3 (h:=?_)
     refine tq 36 4 (h:=?_)
     refine tq 37 5 (h:=?_)
     refine tq 38 6 (h:=?_)
     refine tq 39 7 (h:=?_)
     refine tq 40 8 (h:=?_)
     refine tq 41 9 (h:=?_)
     refine tq 42 10 (h:=?_)
     simp only[List.setIfInBounds_toArray,List.set_cons_succ,List.set_cons_zero]
     refine rd1 11 (fun K hK=>?_)
     go_simp
     refine hK.out _ _ (HKP.out _ HD1.out) (fun hHeld=>?_)
     clear hK K
     refine tq 44 12 (h:=?_)
     refine tq 45 13 (h:=?_)
     refine tq 46 14 (h:=?_)
     refine tq 47 15 (h:=?_)
     simp only[List.setIfInBounds_toArray,List.set_cons_succ,List.set_cons_zero]
     refine rd1 16 (fun K hK=>?_)
     go_simp
     go_at_call 133
     refine(QW9 bG 0 cG G _ _ (by omega) (HC.out _ HD1.out).2.2.2.2.2.1 (HC.out _ HD1.out).2.2.2.2.2.2).mono ?_
     rw[HRR.out]
     rintro e9 w5 ⟨rfl,hb5⟩
     have HZ:Hid (Below Y.heap.size Y w5):=HD1.out.trans (hb5.mono HD1.out.size)
     have z1:=(HC.out _ HZ.out).2.1
     have z3:=(HC.out _ HZ.out).2.2.2.1
     have z4:=(HC.out _ HZ.out).2.2.2.2.1
     clear hb5 y1 y3 y4
     refine hK.out _ _ (HKP.out _ HZ.out) (fun hHeld=>?_)
     clear hK K
     refine tq 49 17 (h:=?_)
     refine tq 50 18 (h:=?_)
     refine tq 51 19 (h:=?_)
     simp only[List.setIfInBounds_toArray,List.set_cons_succ,List.set_cons_zero]
     have HST:Hid (WiAt w N gL gS #[.slice a C.length cap,.int .i64 loops,.slice (some ⟨gF,0,none⟩) N cF,.slice (some ⟨gT,0,none⟩) N cT] L (stTo C G L N (j+1)) (w5.setCell ⟨gS,q,none⟩ (.bool (!r)))):=(HPY.out w5 HZ.out).set (stTo_next C G L N j q HQ.out (!r) (by rw[HSB.out,HGB.out];rfl))
     have HKS:Hid ((w5.setCell ⟨gS,q,none⟩ (.bool (!r))).cell? ⟨gL,j,none⟩=some (.int .i64 (q:Nat))/\(w5.setCell ⟨gS,q,none⟩ (.bool (!r))).cell? ⟨W1.heap.size,0,none⟩=some (.int .i64 tc)):=⟨by rw[HST.out.atL HLL.out j hjl,HQ.out],by
      have hw5:=(HZ.out.block _ (by omega)).trans HTY.out
      exact QQ0 (((QQ7 w5 gS q (.bool (!r))).block _ (Array.getElem?_eq_some_iff.1 hw5).1 (fun e=>by have:=Option.some.inj e;omega)).trans hw5) rfl⟩
     refine rd1 20 (fun K hK=>?_)
     go_simp
     refine hK.out _ _ HKS.out (fun hHeld=>?_)
     clear hK K
     refine wpAnyH_done (by kernel_rfl) ?_ _
     clear hHeld z1 z3 z4 HKS
     go_wp2
     go_roundw
     case rel=>exact⟨j+1,by omega,by go_num,HST.out⟩
     case measure=>simp only[intOf];omega
  · obtain rfl:N=j:=by omega
    have HP1:Hid (WiAt w N gL gS #[.slice a C.length cap,.int .i64 loops,.slice (some ⟨gF,0,none⟩) N cF,.slice (some ⟨gT,0,none⟩) N cT] L (stTo C G L N N) W1):=hp.out
    have b1:W1.cell? ⟨w.heap.size,1,none⟩=some (.int .i64 loops):=QQ0 HP1.out.box rfl
    have hbl:w.heap.size<W1.heap.size:=(Array.getElem?_eq_some_iff.1 HP1.out.box).1
    obtain⟨OC,hOC⟩:∃ o,o=Obj.cells (madeCells (Value.int .i64 0).cells (N*1)) 3:=⟨_,rfl⟩
    have hmC:∀ W:World,(Instr.makeSlice 46 (.int .i64 (N:Int)) (.int .i64 (N:Int))).run Try.prog W=.ok (.slice (some ⟨W.heap.size,0,none⟩) N N) (W.alloc OC):=fun W=>by
     have h:=run_make (P:=Try.prog) W 46 3 i2 (.int .i64 0) Try.underlying46 hk hx0 .i64 .i64 N N (by omega) (Int.le_refl _) (by rw[hx2];omega) (by omega)
     simp only[Int.toNat_natCast,hx1]at h
     rw[hOC]
     exact h
    have HOC:Hid (OC=Obj.cells (madeCells (Value.int .i64 0).cells (N*1)) 3):=hOC
    clear hOC hp
    have b1d:W1.drew.cell? ⟨w.heap.size,1,none⟩=some (.int .i64 loops):=b1
    have HKL:Hid (∀ W,Below W1.heap.size W1 W->W.cell? ⟨w.heap.size,1,none⟩=some (.int .i64 loops)):=fun W hW=>bcell hW hbl b1
    have HQ1:Hid (∀ o,Below W1.heap.size W1 (W1.alloc o).drew):=fun o=>((Below.refl _ _).alloc (Nat.le_refl _) _).drew
    have HQ2:Hid (∀ o p,Below W1.heap.size W1 ((W1.alloc o).alloc p).drew):=fun o p=>(QJ3 _ _ _).drew
    have HQ3:Hid (∀ o p q,Below W1.heap.size W1 (((W1.alloc o).alloc p).alloc q).drew):=fun o p q=>jbel3 _ _ _ _
    have HCC:Hid ((madeCells (Value.int .i64 0).cells (N*1)).size=N*1):=size_madeCells _ _
    have HM63:Hid (N<=maxLen):=(by unfold maxLen;omega:N<=maxLen)
    obtain⟨P,hP⟩:∃ P,ltB L (stB C G L N)=P:=⟨_,rfl⟩
    obtain⟨Q,hQ⟩:∃ Q,lfB L (stB C G L N)=Q:=⟨_,rfl⟩
    have HPQ:Hid (ltB L (stB C G L N)=P/\lfB L (stB C G L N)=Q):=⟨hP,hQ⟩
    clear hP hQ
    have HMZ:Hid ((madeCells (Value.int .i64 0).cells (N*1)).toList=nats (nmTo L P N 1)):=(by rw[made_zeroN,nmTo_zero L P]:(madeCells (Value.int .i64 0).cells (N*1)).toList=nats (nmTo L P N 1))
    have HI0:Hid (∃ B,WjAt w N gL gS (W1.heap.size) (W1.heap.size+1) (W1.heap.size+1+1) B #[.slice a C.length cap,.int .i64 loops,.slice (some ⟨gF,0,none⟩) N cF,.slice (some ⟨gT,0,none⟩) N cT] L (stTo C G L N N) (nmTo L P N 1) (.slice none 0 0) loops [] (((W1.alloc OC).alloc (Obj.cells #[Value.slice none 0 0,.int .i64 loops] 24)).alloc (Obj.cells #[Value.slice (some ⟨W1.heap.size,0,none⟩) N N] 46)).drew):=⟨_,wj_start HP1.out (HQ3.out _ _ _) (by rw[HOC.out,<-HMZ.out];exact jown1 _ _ (Nat.le_refl _) HM63.out HCC.out) (jblk3 _ _ _ _) (jblk2 _ _ _ _) (by omega)⟩
    have HI1:Hid (∃ B,WjAt w N gL gS (W1.heap.size) (W1.heap.size+1+1) (W1.heap.size+1) B #[.slice a C.length cap,.int .i64 loops,.slice (some ⟨gF,0,none⟩) N cF,.slice (some ⟨gT,0,none⟩) N cT] L (stTo C G L N N) (nmTo L P N 1) (.slice none 0 0) loops [] (((W1.alloc OC).alloc (Obj.cells #[Value.slice (some ⟨W1.heap.size,0,none⟩) N N] 46)).alloc (Obj.cells #[Value.slice none 0 0,.int .i64 loops] 24)).drew):=⟨_,wj_start HP1.out (HQ3.out _ _ _) (by rw[HOC.out,<-HMZ.out];exact jown1 _ _ (Nat.le_refl _) HM63.out HCC.out) (jblk2 _ _ _ _) (jblk3 _ _ _ _) (by omega)⟩
    have HI2:Hid (∃ B,WjAt w N gL gS (W1.heap.size+1) (W1.heap.size) (W1.heap.size+1+1) B #[.slice a C.length cap,.int .i64 loops,.slice (some ⟨gF,0,none⟩) N cF,.slice (some ⟨gT,0,none⟩) N cT] L (stTo C G L N N) (nmTo L P N 1) (.slice none 0 0) loops [] (((W1.alloc (Obj.cells #[Value.slice none 0 0,.int .i64 loops] 24)).alloc OC).alloc (Obj.cells #[Value.slice (some ⟨W1.heap.size+1,0,none⟩) N N] 46)).drew):=⟨_,wj_start HP1.out (HQ3.out _ _ _) (by rw[HOC.out,<-HMZ.out];exact jown2 _ _ (Nat.le_refl _) HM63.out HCC.out) (jblk3 _ _ _ _) (jblk1 _ _ _ _) (by omega)⟩
    have HI3:Hid (∃ B,WjAt w N gL gS (W1.heap.size+1+1) (W1.heap.size) (W1.heap.size+1) B #[.slice a C.length cap,.int .i64 loops,.slice (some ⟨gF,0,none⟩) N cF,.slice (some ⟨gT,0,none⟩) N cT] L (stTo C G L N N) (nmTo L P N 1) (.slice none 0 0) loops [] (((W1.alloc (Obj.cells #[Value.slice none 0 0,.int .i64 loops] 24)).alloc (Obj.cells #[Value.slice (some ⟨W1.heap.size+1+1,0,none⟩) N N] 46)).alloc OC).drew):=⟨_,wj_start HP1.out (HQ3.out _ _ _) (by rw[HOC.out,<-HMZ.out];exact jown3 _ _ (Nat.le_refl _) HM63.out HCC.out) (jblk2 _ _ _ _) (jblk1 _ _ _ _) (by omega)⟩
    have HI4:Hid (∃ B,WjAt w N gL gS (W1.heap.size+1) (W1.heap.size+1+1) (W1.heap.size) B #[.slice a C.length cap,.int .i64 loops,.slice (some ⟨gF,0,none⟩) N cF,.slice (some ⟨gT,0,none⟩) N cT] L (stTo C G L N N) (nmTo L P N 1) (.slice none 0 0) loops [] (((W1.alloc (Obj.cells #[Value.slice (some ⟨W1.heap.size+1,0,none⟩) N N] 46)).alloc OC).alloc (Obj.cells #[Value.slice none 0 0,.int .i64 loops] 24)).drew):=⟨_,wj_start HP1.out (HQ3.out _ _ _) (by rw[HOC.out,<-HMZ.out];exact jown2 _ _ (Nat.le_refl _) HM63.out HCC.out) (jblk1 _ _ _ _) (jblk3 _ _ _ _) (by omega)⟩
    have HI5:Hid (∃ B,WjAt w N gL gS (W1.heap.size+1+1) (W1.heap.size+1) (W1.heap.size) B #[.slice a C.length cap,.int .i64 loops,.slice (some ⟨gF,0,none⟩) N cF,.slice (some ⟨gT,0,none⟩) N cT] L (stTo C G L N N) (nmTo L P N 1) (.slice none 0 0) loops [] (((W1.alloc (Obj.cells #[Value.slice (some ⟨W1.heap.size+1+1,0,none⟩) N N] 46)).alloc (Obj.cells #[Value.slice none 0 0,.int .i64 loops] 24)).alloc OC).drew):=⟨_,wj_start HP1.out (HQ3.out _ _ _) (by rw[HOC.out,<-HMZ.out];exact jown3 _ _ (Nat.le_refl _) HM63.out HCC.out) (jblk1 _ _ _ _) (jblk2 _ _ _ _) (by omega)⟩
    go_wp2
    apply cut_one
    case h=>
     intro key
     go_region_held3 (fun w'=>w'.cell? ⟨w.heap.size,1,none⟩=some (.int .i64 loops)) (first|exact b1d|exact HKL.out _ (HQ1.out _)|exact HKL.out _ (HQ2.out _ _)|exact HKL.out _ (HQ3.out _ _ _)) (fail)
     · (have hA:Hid (∃ B,WjAt w N gL gS (W1.heap.size) (W1.heap.size+1) (W1.heap.size+1+1) B #[.slice a C.length cap,.int .i64 loops,.slice (some ⟨gF,0,none⟩) N cF,.slice (some ⟨gT,0,none⟩) N cT] L (stTo C G L N N) (nmTo L P N 1) (.slice none 0 0) loops [] (((W1.alloc OC).alloc (Obj.cells #[Value.slice none 0 0,.int .i64 loops] 24)).alloc (Obj.cells #[Value.slice (some ⟨W1.heap.size,0,none⟩) N N] 46)).drew):=HI0;revert hA;generalize (((W1.alloc OC).alloc (Obj.cells #[Value.slice none 0 0,.int .i64 loops] 24)).alloc (Obj.cells #[Value.slice (some ⟨W1.heap.size,0,none⟩) N N] 46)).drew=WW;generalize W1.heap.size+1+1=gV;generalize W1.heap.size+1=gD;generalize W1.heap.size=gN;revert WW gV gD gN;exact key.out)
     all_goals first
      |exact key.out _ _ _ _ HI1
      |exact key.out _ _ _ _ HI2
      |exact key.out _ _ _ _ HI3
      |exact key.out _ _ _ _ HI4
      |exact key.out _ _ _ _ HI5
      |exact key.out _ _ _ _ HI0
    intro W0 gV gD gN HIN0
    obtain⟨B,hB0⟩:=HIN0.out
    have HB0:Hid (WjAt w N gL gS gN gD gV B #[.slice a C.length cap,.int .i64 loops,.slice (some ⟨gF,0,none⟩) N cF,.slice (some ⟨gT,0,none⟩) N cT] L (stTo C G L N N) (nmTo L P N 1) (.slice none 0 0) loops [] W0):=hB0
    have HNE:Hid (gS<gN/\gS<gD/\gS<gV/\gN≠gD/\gN≠gV/\gD≠gV/\gN<B/\gD<B/\gV<B):=(by have:=hB0.ne;omega:gS<gN/\gS<gD/\gS<gV/\gN≠gD/\gN≠gV/\gD≠gV/\gN<B/\gD<B/\gV<B)
    have HJ0:Hid (WjAt w N gL gS gN gD gV B #[.slice a C.length cap,.int .i64 loops,.slice (some ⟨gF,0,none⟩) N cF,.slice (some ⟨gT,0,none⟩) N cT] L (stTo C G L N N) (nmTo L P N 1) (.slice none 0 0) (loops+(cntB Q 1:Nat)) [] W0):=(by rw[cntB_one];simpa using hB0:WjAt w N gL gS gN gD gV B #[.slice a C.length cap,.int .i64 loops,.slice (some ⟨gF,0,none⟩) N cF,.slice (some ⟨gT,0,none⟩) N cT] L (stTo C G L N N) (nmTo L P N 1) (.slice none 0 0) (loops+(cntB Q 1:Nat)) [] W0)
    have HPD:Hid (∀ v,P v=(decide (L.getD v 0=v)&&stB C G L N v)):=fun v=>by rw[<-HPQ.out.1];rfl
    have HQD:Hid (∀ v,Q v=(decide (L.getD v 0=v)&&!stB C G L N v)):=fun v=>by rw[<-HPQ.out.2];rfl
    clear HI0 HI1 HI2 HI3 HI4 HI5 HIN0 HB0 hB0 HP1 b1 b1d HKL HQ1 HQ2 HQ3 HCC HM63 HMZ HOC hmC hbl
    go_wp2
    go_loopw [13,14] (fun v13 v14 wr=>∃ j:Nat,1<=j/\j<=N/\v14=.int .i64 (j:Nat)/\v13=.int .i64 ((cntB P j+1:Nat):Int)/\Hid (WjAt w N gL gS gN gD gV B #[.slice a C.length cap,.int .i64 loops,.slice (some ⟨gF,0,none⟩) N cF,.slice (some ⟨gT,0,none⟩) N cT] L (stTo C G L N N) (nmTo L P N j) (.slice none 0 0) (loops+(cntB Q j:Nat)) [] wr)) (fun _ v14 _=>N-(intOf v14).toNat)
    case atStart=>exact⟨1,Nat.le_refl _,hN1,rfl,(by rw[cntB_one];rfl),HJ0.out⟩
    case round=>
     clear HJ0
     rename World=>W2
     obtain⟨j,hj1,hjn,rfl,rfl,hp⟩:=hrel
     have HP2:Hid (WjAt w N gL gS gN gD gV B #[.slice a C.length cap,.int .i64 loops,.slice (some ⟨gF,0,none⟩) N cF,.slice (some ⟨gT,0,none⟩) N cT] L (stTo C G L N N) (nmTo L P N j) (.slice none 0 0) (loops+(cntB Q j:Nat)) [] W2):=hp.out
     have hbx:=hp.out.wi.box
     have t0:W2.cell? ⟨w.heap.size,0,none⟩=some (.slice a C.length cap):=QQ0 hbx rfl
     have t1:W2.cell? ⟨w.heap.size,1,none⟩=some (.int .i64 loops):=QQ0 hbx rfl
     have t2:W2.cell? ⟨w.heap.size,2,none⟩=some (.slice (some ⟨gF,0,none⟩) N cF):=QQ0 hbx rfl
     have t3:W2.cell? ⟨w.heap.size,3,none⟩=some (.slice (some ⟨gT,0,none⟩) N cT):=QQ0 hbx rfl
     have lt2:w.heap.size<W2.heap.size:=(Array.getElem?_eq_some_iff.1 hbx).1
     have hcP:=cntB_le P j
     have hcQ:=cntB_le Q j
     obtain⟨cP,hcPe⟩:∃ c,cntB P j=c:=⟨_,rfl⟩
     obtain⟨cQ,hcQe⟩:∃ c,cntB Q j=c:=⟨_,rfl⟩
     have HCP:Hid (cntB P j=cP/\cntB Q j=cQ):=⟨hcPe,hcQe⟩
     rw[hcPe]at hcP ⊢
     rw[hcQe]at hcQ HP2
     clear hbx hp hcPe hcQe
     by_cases hjl:j<N
     · have HHB:Hid (hasB C (j:Int)=true):=(by have:=HN.out;simp[hasB];omega:hasB C (j:Int)=true)
       go_wp2_with (go_at_call 104;refine(HHS.out j _).mono ?_;rw[HHB.out];rintro e9 w3 ⟨rfl,hb3⟩;refine Hid.out ?_)
       refine Lib.hid ?_
       have HP3:Hid (WjAt w N gL gS gN gD gV B #[.slice a C.length cap,.int .i64 loops,.slice (some ⟨gF,0,none⟩) N cF,.slice (some ⟨gT,0,none⟩) N cT] L (stTo C G L N N) (nmTo L P N j) (.slice none 0 0) (loops+(cQ:Nat)) [] w3):=HP2.out.on hb3
       clear hb3 t0 t1 t2 t3 lt2
       obtain⟨q,hq⟩:∃ q,L.getD j 0=q:=⟨_,rfl⟩
       have hqj:q<=j:=by rw[<-hq];exact HLS.out.le hjl
       have hq1:1<=q:=by rw[<-hq];exact HLP.out j hj1 hjl
       have HQQ:Hid (L.getD j 0=q/\L.getD q 0=q):=⟨hq,by have h:=HLS.out.root hjl;rw[hq]at h;exact h⟩
       have c0:w3.cell? ⟨gL,j,none⟩=some (.int .i64 (q:Nat)):=by rw[HP3.out.wi.atL HLL.out j hjl,hq]
       have c1:w3.cell? ⟨gV,0,none⟩=some (.slice (some ⟨gN,0,none⟩) N N):=QQ0 HP3.out.vb rfl
       have l1:=HP3.out.wi.ltS
       have l2:=HP3.out.ne
       have l3:gV<w3.heap.size:=by omega
       have l4:gN<w3.heap.size:=by omega
       have l5:gD<w3.heap.size:=by omega
       have z0:w3.frozen? ⟨gN,j,none⟩=false:=HP3.out.num.frozenAt j
       have c9:w3.cell? ⟨gN,j,none⟩=some (.int .i64 ((nmTo L P N j).getD j 0:Nat)):=HP3.out.atM (nmTo_len _ _ _ _) j hjl
       generalize (nmTo L P N j).getD j 0=u9 at c9
       clear l2 hq
       by_cases hql:q<j
       · have e1:w3.cell? ⟨gN,q,none⟩=some (.int .i64 (numM L P j:Nat)):=by
           rw[HP3.out.atM (nmTo_len _ _ _ _) q (by omega),nmTo_at _ _ _ _ _ (by omega),if_pos ⟨hql,hq1⟩]
           have:numM L P q=numM L P j:=by unfold numM;rw[HQQ.out.1,HQQ.out.2]
           rw[this]
         have HPF:Hid (P j=false/\Q j=false):=(by rw[HPD.out,HQD.out,HQQ.out.1,decide_eq_false (by omega)];exact⟨rfl,rfl⟩:P j=false/\Q j=false)
         obtain⟨z,hz⟩:∃ z,numM L P j=z:=⟨_,rfl⟩
         rw[hz]at e1
         have HST:Hid (WjAt w N gL gS gN gD gV B #[.slice a C.length cap,.int .i64 loops,.slice (some ⟨gF,0,none⟩) N cF,.slice (some ⟨gT,0,none⟩) N cT] L (stTo C G L N N) (nmTo L P N (j+1)) (.slice none 0 0) (loops+(cntB Q (j+1):Nat)) [] (w3.setCell ⟨gN,j,none⟩ (.int .i64 (z:Nat))).drew):=(by rw[cntB_no Q j HPF.out.2,HCP.out.2];exact(HP3.out.set (nmTo_next L P N j z hj1 hz)).on ((Below.refl _ _).drew):WjAt w N gL gS gN gD gV B #[.slice a C.length cap,.int .i64 loops,.slice (some ⟨gF,0,none⟩) N cF,.slice (some ⟨gT,0,none⟩) N cT] L (stTo C G L N N) (nmTo L P N (j+1)) (.slice none 0 0) (loops+(cntB Q (j+1):Nat)) [] (w3.setCell ⟨gN,j,none⟩ (.int .i64 (z:Nat))).drew)
         have hdq:decide ((q:Int)<(j:Int))=true:=by simp;omega
         have hdq2:decide (q<j)=true:=by simp;omega
         have ij1:(j:Int)<(N:Int):=by omega
         have iq1:(q:Int)<(N:Int):=by omega
         clear hz
         go_wp2
         go_big_region
         clear c0 c1 c9 e1 z0
         go_wp2
         go_roundw
         case rel=>exact⟨j+1,by omega,by omega,by go_num,(by rw[cntB_no P j HPF.out.1,HCP.out.1];go_num),HST.out⟩
         case measure=>simp only[intOf];omega
       · obtain rfl:q=j:=by omega
         have hdq:decide ((q:Int)<(q:Int))=false:=by simp
         have hdq2:decide (q<q)=false:=by simp
         obtain⟨b,hb⟩:∃ b,stB C G L N q=b:=⟨_,rfl⟩
         have c2:w3.cell? ⟨gS,q,none⟩=some (.bool b):=by rw[HP3.out.wi.atS (stTo_len _ _ _ _ _) q hjl,stTo_at _ _ _ _ _ _ hjl,hb]
         have HPV:Hid (P q=b/\Q q=!b):=(by rw[HPD.out,HQD.out,HQQ.out.1,hb];simp:P q=b/\Q q=!b)
         have HNM:Hid (numM L P q=if b=true then cP+1 else 0):=(by unfold numM;rw[HQQ.out.1,HPV.out.1,HCP.out.1]:numM L P q=if b=true then cP+1 else 0)
         have l6:gS<w3.heap.size:=l1.2.2
         clear hb
         cases b with
         |true=>
          have HST:Hid (WjAt w N gL gS gN gD gV B #[.slice a C.length cap,.int .i64 loops,.slice (some ⟨gF,0,none⟩) N cF,.slice (some ⟨gT,0,none⟩) N cT] L (stTo C G L N N) (nmTo L P N (q+1)) (.slice none 0 0) (loops+(cntB Q (q+1):Nat)) [] (w3.setCell ⟨gN,q,none⟩ (.int .i64 ((cP+1:Nat):Int)))):=(by rw[cntB_no Q q HPV.out.2,HCP.out.2];exact HP3.out.set (nmTo_next L P N q (cP+1) hj1 HNM.out):WjAt w N gL gS gN gD gV B #[.slice a C.length cap,.int .i64 loops,.slice (some ⟨gF,0,none⟩) N cF,.slice (some ⟨gT,0,none⟩) N cT] L (stTo C G L N N) (nmTo L P N (q+1)) (.slice none 0 0) (loops+(cntB Q (q+1):Nat)) [] (w3.setCell ⟨gN,q,none⟩ (.int .i64 ((cP+1:Nat):Int))))
          go_wp2
          go_roundw
          case rel=>exact⟨q+1,by omega,by omega,by go_num,(by rw[cntB_yes P q hj1 HPV.out.1,HCP.out.1];go_num),HST.out⟩
          case measure=>simp only[intOf];omega
         |false=>
          have HST:Hid (WjAt w N gL gS gN gD gV B #[.slice a C.length cap,.int .i64 loops,.slice (some ⟨gF,0,none⟩) N cF,.slice (some ⟨gT,0,none⟩) N cT] L (stTo C G L N N) (nmTo L P N (q+1)) (.slice none 0 0) (loops+(cntB Q (q+1):Nat)) [] (w3.setCell ⟨gD,1,none⟩ (.int .i64 (loops+(cQ:Int)+1)))):=(by rw[cntB_yes Q q hj1 HPV.out.2,HCP.out.2,<-nmTo_same L P N q HNM.out];have e:loops+((cQ+1:Nat):Int)=loops+(cQ:Int)+1:=(by omega);rw[e];exact HP3.out.loop:WjAt w N gL gS gN gD gV B #[.slice a C.length cap,.int .i64 loops,.slice (some ⟨gF,0,none⟩) N cF,.slice (some ⟨gT,0,none⟩) N cT] L (stTo C G L N N) (nmTo L P N (q+1)) (.slice none 0 0) (loops+(cntB Q (q+1):Nat)) [] (w3.setCell ⟨gD,1,none⟩ (.int .i64 (loops+(cQ:Int)+1))))
          have d1:w3.cell? ⟨gD,1,none⟩=some (.int .i64 (loops+(cQ:Int))):=QQ0 HP3.out.out.box rfl
          have f1:w3.frozen? ⟨gD,1,none⟩=false:=QQ2 HP3.out.out.box
          have hwr:IntKind.i64.wrap (loops+(cQ:Int)+1)=loops+(cQ:Int)+1:=IntWalk.i64_in _ (by omega)
          go_wp2
          go_roundw
          case rel=>exact⟨q+1,by omega,by omega,by go_num,(by rw[cntB_no P q HPV.out.1,HCP.out.1];go_num),HST.out⟩
          case measure=>simp only[intOf];omega
     · obtain rfl:N=j:=by omega
       have HHB:Hid (hasB C (N:Int)=false):=(by have:=HN.out;simp[hasB];omega:hasB C (N:Int)=false)
       go_wp2_with (go_at_call 104;refine(HHS.out N _).mono ?_;rw[HHB.out];rintro e9 w3 ⟨rfl,hb3⟩;refine Hid.out ?_)
       refine Lib.hid ?_
       have HP3:Hid (WjAt w N gL gS gN gD gV B #[.slice a C.length cap,.int .i64 loops,.slice (some ⟨gF,0,none⟩) N cF,.slice (some ⟨gT,0,none⟩) N cT] L (stTo C G L N N) (nmTo L P N N) (.slice none 0 0) (loops+(cQ:Nat)) [] w3):=HP2.out.on hb3
       clear hb3 t0 t1 t2 t3 lt2
       have d0:w3.cell? ⟨w.heap.size,0,none⟩=some (.slice a C.length cap):=QQ0 HP3.out.wi.box rfl
       have l0':w.heap.size<w3.heap.size:=(Array.getElem?_eq_some_iff.1 HP3.out.wi.box).1
       go_wp2
       go_loopw [101] (fun v101 wr=>∃ (i:Nat) (v:Value) (D:List Cr),i<=C.length/\v101=.int .i64 (i:Nat)/\Hid (D=reTo C G (numM L P) i)/\D.length<=16/\Hid (WjAt w N gL gS gN gD gV B #[.slice a C.length cap,.int .i64 loops,.slice (some ⟨gF,0,none⟩) N cF,.slice (some ⟨gT,0,none⟩) N cT] L (stTo C G L N N) (nmTo L P N N) v (loops+(cQ:Nat)) D wr)) (fun v101 _=>C.length-(intOf v101).toNat)
       case atStart=>exact⟨0,.slice none 0 0,[],Nat.zero_le _,rfl,(rfl:[]=reTo C G (numM L P) 0),by simp,HP3.out⟩
       case round =>
        clear HP3 d0
        rename World=>W3
        obtain⟨i,v,D,hin,rfl,hDe,hDl,hp⟩:=hrel
        have hbel:=hp.out.wi.bel
        have hl1:=hp.out.wi.ltS
        have hl2:=hp.out.ne
        by_cases hil:i<C.length
        · have HDL:Hid (D.length<=i):=(by rw[hDe.out];exact reTo_len _ _ _ _:D.length<=i)
          have HRN:Hid (reTo C G (numM L P) (i+1)=if i∈G then D else D++[reX (numM L P) (C.getD i Cr.none)]):=(by rw[reTo_next,<-hDe.out]:reTo C G (numM L P) (i+1)=if i∈G then D else D++[reX (numM L P) (C.getD i Cr.none)])
          obtain⟨b,off,ea,hbw,hC⟩:=HD.out.cross (by omega)
          obtain⟨c0,c1,c2,c3,c4⟩:=(hC.on hbel hbw) i hil
          have HRG:Hid (∀ k,k<4->0<=(C.getD i Cr.none).arc k/\(C.getD i Cr.none).arc k<(N:Int)):=fun k hk=>by
           have h:=QK7 HM.out i k hil hk
           have g1:=h.1
           have g2:=h.2.1
           have:=HN.out
           omega
          have HNZ:Hid (∀ k,k<4->(nmTo L P N N).getD ((C.getD i Cr.none).arc k).toNat 0=numM L P ((C.getD i Cr.none).arc k).toNat):=fun k hk=>by
           have h:=QK7 HM.out i k hil hk
           have g1:=h.1
           have g2:=h.2.1
           have:=HN.out
           rw[nmTo_at _ _ _ _ _ (by omega),if_pos (by omega)]
          clear hC
          generalize C.getD i Cr.none=x at c0 c1 c2 c3 c4 HRN HRG HNZ
          have HXE:Hid (reX (numM L P) x=⟨((nmTo L P N N).getD x.a.toNat 0:Nat),((nmTo L P N N).getD x.b.toNat 0:Nat),((nmTo L P N N).getD x.c.toNat 0:Nat),((nmTo L P N N).getD x.d.toNat 0:Nat),x.plus⟩):=(by
           have h0:=HNZ.out 0 (by omega)
           have h1:=HNZ.out 1 (by omega)
           have h2:=HNZ.out 2 (by omega)
           have h3:=HNZ.out 3 (by omega)
           have a0:x.arc 0=x.a:=rfl
           have a1:x.arc 1=x.b:=rfl
           have a2:x.arc 2=x.c:=rfl
           have a3:x.arc 3=x.d:=rfl
           rw[a0]at h0
           rw[a1]at h1
           rw[a2]at h2
           rw[a3]at h3
           unfold reX
           rw[h0,h1,h2,h3]:reX (numM L P) x=⟨((nmTo L P N N).getD x.a.toNat 0:Nat),((nmTo L P N N).getD x.b.toNat 0:Nat),((nmTo L P N N).getD x.c.toNat 0:Nat),((nmTo L P N N).getD x.d.toNat 0:Nat),x.plus⟩)
          have hb1:b<W3.heap.size:=by omega
          obtain⟨Y,hY⟩:∃ Y,Y=W3.alloc (.cells #[.int .i64 x.a,.int .i64 x.b,.int .i64 x.c,.int .i64 x.d,.bool x.plus] 71):=⟨_,rfl⟩
          have HY:Hid (Y=W3.alloc (.cells #[.int .i64 x.a,.int .i64 x.b,.int .i64 x.c,.int .i64 x.d,.bool x.plus] 71)):=hY
          have hsY:Y.heap.size=W3.heap.size+1:=by rw[hY];simp
          have HBY:Hid (Below W3.heap.size W3 Y):=(by rw[hY];exact(Below.refl _ _).alloc (Nat.le_refl _) _:Below W3.heap.size W3 Y)
          have HTY:Hid (Y.heap[W3.heap.size]?=some (.cells #[.int .i64 x.a,.int .i64 x.b,.int .i64 x.c,.int .i64 x.d,.bool x.plus] 71 (0,0))):=(by rw[hY];exact alloc_at rfl:Y.heap[W3.heap.size]?=some (.cells #[.int .i64 x.a,.int .i64 x.b,.int .i64 x.c,.int .i64 x.d,.bool x.plus] 71 (0,0)))
          clear hY
          have HPY:Hid (WjAt w N gL gS gN gD gV B #[.slice a C.length cap,.int .i64 loops,.slice (some ⟨gF,0,none⟩) N cF,.slice (some ⟨gT,0,none⟩) N cT] L (stTo C G L N N) (nmTo L P N N) v (loops+(cQ:Nat)) D Y):=hp.out.on HBY.out
          have HGY:Hid (GonAt Y bG G):=HG.out.on HPY.out.wi.bel
          have HEA:Hid (a=some ⟨b,off,none⟩):=ea
          by_cases hg:i∈G
          · have HH:Hid (hasG G (i:Nat)=true):=(by rw[hasG_nat];simpa using hg:hasG G (i:Nat)=true)
            rw[if_pos hg]at HRN
            clear hg
            go_wp2_with (go_at_call 133;rw[<-HY.out];refine(QW9 bG 0 cG G _ _ (by omega) HGY.out.1 HGY.out.2).mono ?_;rw[HH.out];rintro e9 w4 ⟨rfl,hb4⟩;refine Hid.out ?_)
            refine Lib.hid ?_
            have HST:Hid (WjAt w N gL gS gN gD gV B #[.slice a C.length cap,.int .i64 loops,.slice (some ⟨gF,0,none⟩) N cF,.slice (some ⟨gT,0,none⟩) N cT] L (stTo C G L N N) (nmTo L P N N) v (loops+(cQ:Nat)) D w4):=HPY.out.on hb4
            rw[<-HEA.out]
            clear hb4 c0 c1 c2 c3 c4 ea
            go_wp2
            go_roundw
            case rel=>exact⟨i+1,v,D,by omega,by go_num,HRN.out.symm,hDl,HST.out⟩
            case measure=>simp only[intOf];omega
          · have HH:Hid (hasG G (i:Nat)=false):=(by rw[hasG_nat];simpa using hg:hasG G (i:Nat)=false)
            rw[if_neg hg]at HRN
            clear hg
            go_wp2_with (go_at_call 133;rw[<-HY.out];refine(QW9 bG 0 cG G _ _ (by omega) HGY.out.1 HGY.out.2).mono ?_;rw[HH.out];rintro e9 w4 ⟨rfl,hb4⟩;refine Hid.out ?_)
            refine Lib.hid ?_
            have HP4:Hid (WjAt w N gL gS gN gD gV B #[.slice a C.length cap,.int .i64 loops,.slice (some ⟨gF,0,none⟩) N cF,.slice (some ⟨gT,0,none⟩) N cT] L (stTo C G L N N) (nmTo L P N N) v (loops+(cQ:Nat)) D w4):=HPY.out.on hb4
            have HT4:Hid (w4.heap[W3.heap.size]?=some (.cells #[.int .i64 x.a,.int .i64 x.b,.int .i64 x.c,.int .i64 x.d,.bool x.plus] 71 (0,0))):=(hb4.block _ (by omega)).trans HTY.out
            have hs4:=hb4.size
            rw[<-HEA.out]
            clear hb4 c0 c1 c2 c3 c4 ea
            obtain⟨a3,c3',ev3⟩:=QX5 HP4.out.out.row
            subst ev3
            have hl4:=HP4.out.ne
            have hBw:B<=w4.heap.size:=hl4.2.2.2.2.2.2.2.2.2
            have hgDB:gD<B:=hl4.2.2.2.2.2.2.2.1
            have HDW:Hid (Below w4.heap.size w4 w4.drew):=(Below.refl _ _).drew
            have HNA:Hid (NumAt w4.drew gV gN N (nmTo L P N N)):=(by
             have h:=HP4.out.on HDW.out
             exact⟨h.vb,by have:=h.ne;omega,fun k hk=>h.atM (nmTo_len _ _ _ _) k hk⟩:NumAt w4.drew gV gN N (nmTo L P N N))
            have s0:w4.cell? ⟨W3.heap.size,0,none⟩=some (.int .i64 x.a):=QQ0 HT4.out rfl
            have s1':w4.cell? ⟨W3.heap.size,1,none⟩=some (.int .i64 x.b):=QQ0 HT4.out rfl
            have s2:w4.cell? ⟨W3.heap.size,2,none⟩=some (.int .i64 x.c):=QQ0 HT4.out rfl
            have s3:w4.cell? ⟨W3.heap.size,3,none⟩=some (.int .i64 x.d):=QQ0 HT4.out rfl
            have s4:w4.cell? ⟨W3.heap.size,4,none⟩=some (.bool x.plus):=QQ0 HT4.out rfl
            have t0:w4.cell? ⟨gD,0,none⟩=some (.slice a3 D.length c3'):=QQ0 HP4.out.out.box rfl
            have t1:gD<w4.heap.size:=by omega
            have t2:W3.heap.size<w4.heap.size:=by omega
            obtain⟨ya,hya⟩:∃ y,(nmTo L P N N).getD x.a.toNat 0=y:=⟨_,rfl⟩
            obtain⟨yb,hyb⟩:∃ y,(nmTo L P N N).getD x.b.toNat 0=y:=⟨_,rfl⟩
            obtain⟨yc,hyc⟩:∃ y,(nmTo L P N N).getD x.c.toNat 0=y:=⟨_,rfl⟩
            obtain⟨yd,hyd⟩:∃ y,(nmTo L P N N).getD x.d.toNat 0=y:=⟨_,rfl⟩
            rw[hya,hyb,hyc,hyd]at HXE
            have HYS:Hid ((nmTo L P N N).getD x.a.toNat 0=ya/\(nmTo L P N N).getD x.b.toNat 0=yb/\(nmTo L P N N).getD x.c.toNat 0=yc/\(nmTo L P N N).getD x.d.toNat 0=yd):=⟨hya,hyb,hyc,hyd⟩
            rw[HXE.out]at HRN
            clear hya hyb hyc hyd hl4 hl1 hl2 hp HPY HGY
            go_wp2
            go_region_law (first
             | (refine QK2 rfl (.tmp 111) (.tmp 115) 22 rfl B 71 i0 (.agg #[.int .i64 0, .int .i64 0, .int .i64 0, .int .i64 0, .bool false]) 5 40 Try.underlying22 hi hz0 hz1 hz2 rfl (by decide) _ D.length _ (by simp [Act.eval]) (HOA.out.out.row.alloc _) ⟨wA.heap.size, 0, none⟩ 1 1 [.int .i64 (ya : Nat), .int .i64 (yb : Nat), .int .i64 (yc : Nat), .int .i64 (yd : Nat), .bool x.plus] (by simp [Act.eval]) rfl (new_cell5 _ _ _ _ _ _ _) (cells_one [⟨ya, yb, yc, yd, x.plus⟩]) (by unfold maxLen; omega) (by omega) (by simp; omega) ?_; intro v8 w8 hown8 hg8
                have HOW8:Hid (w8.ownsRow B 71 5 v8 (D.length+1) (QQ4 D++QQ4 [⟨ya,yb,yc,yd,x.plus⟩])):=hown8
                have HG8:Hid ((wA.alloc (.cells #[.int .i64 (ya:Nat),.int .i64 (yb:Nat),.int .i64 (yc:Nat),.int .i64 (yd:Nat),.bool x.plus] 71)).grownBy w8 (Value.slice a3 D.length c3').ownBlock):=hg8
                obtain⟨a8,c8,ev8⟩:=QX5 HOW8.out
                subst ev8
                have hb8:=HOA.out.out.box8 hgDB HG8.out
                have r0:w8.cell? ⟨gD,0,none⟩=some (.slice a3 D.length c3'):=QQ0 hb8 rfl
                have r1:w8.frozen? ⟨gD,0,none⟩=false:=QQ2 hb8
                have r2:gD<w8.heap.size:=(Array.getElem?_eq_some_iff.1 hb8).1
                clear hown8 hg8 hb8)
             | (go_simp; go_at_call 100; refine (renumbered_num x gV gN N (nmTo L P N N) _ HRG.out HNA.out).mono ?_; rw [HYS.out.1, HYS.out.2.1, HYS.out.2.2.1, HYS.out.2.2.2]; rintro e9 wA ⟨rfl, hbA⟩
                have HA:Hid (Below w4.heap.size w4 wA):=HDW.out.trans hbA
                have HOA:Hid (WjAt w N gL gS gN gD gV B #[.slice a C.length cap,.int .i64 loops,.slice (some ⟨gF,0,none⟩) N cF,.slice (some ⟨gT,0,none⟩) N cT] L (stTo C G L N N) (nmTo L P N N) (.slice a3 D.length c3') (loops+(cQ:Nat)) D wA):=HP4.out.on HA.out
                have a0:wA.cell? ⟨gD,0,none⟩=some (.slice a3 D.length c3'):=QQ0 HOA.out.out.box rfl
                have a1:gD<wA.heap.size:=(Array.getElem?_eq_some_iff.1 HOA.out.out.box).1
                have hsA:w4.heap.size<=wA.heap.size:=HA.out.size
                clear hbA))
            all_goals
             clear s0 s1' s2 s3 s4 t0 a0 r0 r1
             go_wp2
             go_roundw
            all_goals first
             |(simp only[intOf];omega)
             |exact⟨i+1,.slice a8 (D.length+1) c8,D++[(⟨ya,yb,yc,yd,x.plus⟩:Cr)],by omega,by go_num,(HRN.out.symm:D++[(⟨ya,yb,yc,yd,x.plus⟩:Cr)]=reTo C G (numM L P) (i+1)),(by have:=HDL.out;simp;omega),HOA.out.app rfl HOW8.out HG8.out⟩
        · obtain rfl:i=C.length:=by omega
          have HDE:Hid (reTo C G (numM L (ltB L (stB C G L N))) C.length=D):=(by rw[HPQ.out.1];exact hDe.out.symm:reTo C G (numM L (ltB L (stB C G L N))) C.length=D)
          have HQE:Hid (cntB (lfB L (stB C G L N)) N=cQ):=(by rw[HPQ.out.2];exact HCP.out.2:cntB (lfB L (stB C G L N)) N=cQ)
          have HP5:Hid (WjAt w N gL gS gN gD gV B #[.slice a C.length cap,.int .i64 loops,.slice (some ⟨gF,0,none⟩) N cF,.slice (some ⟨gT,0,none⟩) N cT] L (stTo C G L N N) (nmTo L P N N) v (loops+(cQ:Nat)) D W3):=hp.out
          clear hDe hp
          obtain⟨a3,c3',ev3⟩:=QX5 HP5.out.out.row
          subst ev3
          have q0:W3.cell? ⟨gD,0,none⟩=some (.slice a3 D.length c3'):=QQ0 HP5.out.out.box rfl
          have q1:W3.cell? ⟨gD,1,none⟩=some (.int .i64 (loops+(cQ:Int))):=QQ0 HP5.out.out.box rfl
          have r0:W3.cell? ⟨w.heap.size+1,0,none⟩=some (.slice none 0 0):=QQ0 HP5.out.wi.res rfl
          have r1:W3.cell? ⟨w.heap.size+1,1,none⟩=some (.int .i64 0):=QQ0 HP5.out.wi.res rfl
          have f0:W3.frozen? ⟨w.heap.size+1,0,none⟩=false:=QQ2 HP5.out.wi.res
          have f1:W3.frozen? ⟨w.heap.size+1,1,none⟩=false:=QQ2 HP5.out.wi.res
          have l7:gD<W3.heap.size:=by omega
          have l8:w.heap.size+1<W3.heap.size:=by omega
          go_wp2
          have hX:=QQ6 (i:=1) (u:=.int .i64 (loops+(cQ:Int))) (QQ6 (i:=0) (u:=.slice a3 D.length c3') HP5.out.wi.res)
          have x0:=QQ0 (i:=0) (v:=.slice a3 D.length c3') hX rfl
          have x1:=QQ0 (i:=1) (v:=.int .i64 (loops+(cQ:Int))) hX rfl
          have hgg:=QZ5 W3 (w.heap.size+1) 0 (.slice a3 D.length c3') (.int .i64 (loops+(cQ:Int)))
          have hk':=HP5.out.out.row.kept hgg (by
           cases hv:(Value.slice a3 D.length c3').ownBlock with
           |none=>exact Or.inl rfl
           |some k=>exact Or.inr (fun e=>by have h1:=(HP5.out.out.row.lt k hv).1;have h2:=Option.some.inj e;omega))
          refine bodyPost_ret (v:=.agg #[.slice a3 D.length c3',.int .i64 (loops+(cQ:Int))]) (by simp[results,Try.results124,go_sem,x0,x1]) rfl ?_
          rw[HDE.out,HQE.out]
          exact⟨_,rfl,QX4 hk' (by omega),hbel.grown hgg (by omega) (fun q hq=>by have:=Option.some.inj hq;omega)⟩
end Go.Proofs.Ytagaajlbkfkaiaa
