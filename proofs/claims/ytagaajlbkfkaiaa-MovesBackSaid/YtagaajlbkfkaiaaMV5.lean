/- Moves: the walks of moves.crossed and bench.relaid. -/
import Derived.Test.YtagaajlbkfkaiaaMV4
import Derived.Test.YtagaajlbkfkaiaaS2P
import Derived.Test.YtagaajlbkfkaiaaOmP
import Derived.Test.YtagaajlbkfkaiaaMV3
namespace Go.Proofs.Ytagaajlbkfkaiaa
open Go.RowKit Go.Maps
set_option maxHeartbeats 4000000
set_option maxRecDepth 100000
def QZ1 (f s:Int×Int) (over plus:Bool):Cr:=
 let ab:=if over then f else s
 let be:=if over then s else f
 if plus then⟨be.1,ab.2,be.2,ab.1,true⟩ else⟨be.1,ab.1,be.2,ab.2,false⟩
theorem QK4 {C:List Cr} {loops:Int} (hm:mayD C loops=true):C.length<=16:=by
 have:sizeB C loops=true:=by
  unfold mayD at hm
  exact(Bool.and_eq_true_iff.1 hm).1
 exact(QZ2 this).1
theorem QQ1 {P:Prop} (h:P):Hid P:=h
structure PsAt (w W:World) (f s p q:Int×Int) (g9 g10:Nat):Prop where
 b0:W.heap[w.heap.size]?=some (.cells #[.int .i64 f.1,.int .i64 f.2] 154 (0,0))
 b1:W.heap[w.heap.size+1]?=some (.cells #[.int .i64 s.1,.int .i64 s.2] 154 (0,0))
 b2:W.heap[w.heap.size+1+1]?=some (.cells #[.int .i64 0,.int .i64 0,.int .i64 0,.int .i64 0,.bool false] 71 (0,0))
 b9:W.heap[g9]?=some (.cells #[.int .i64 p.1,.int .i64 p.2] 154 (0,0))
 b10:W.heap[g10]?=some (.cells #[.int .i64 q.1,.int .i64 q.2] 154 (0,0))
 ne:g9≠g10
 l9:w.heap.size+2<g9
 l10:w.heap.size+2<g10
 bel:Below w.heap.size w W
theorem PsAt.on {w W W':World} {f s p q:Int×Int} {g9 g10:Nat} (h:PsAt w W f s p q g9 g10) (hb:Below W.heap.size W W'):PsAt w W' f s p q g9 g10:=
 have hl {k:Nat} {o:Obj} (e:W.heap[k]?=some o):W'.heap[k]?=some o:=(hb.block _ (Array.getElem?_eq_some_iff.1 e).1).trans e
 ⟨hl h.b0,hl h.b1,hl h.b2,hl h.b9,hl h.b10,h.ne,h.l9,h.l10,h.bel.trans (hb.mono h.bel.size)⟩
theorem PsAt.set9 {w W:World} {f s p q:Int×Int} {g9 g10:Nat} (h:PsAt w W f s p q g9 g10) (x y:Int):PsAt w ((W.setCell ⟨g9,0,none⟩ (.int .i64 x)).setCell ⟨g9,1,none⟩ (.int .i64 y)) f s (x,y) q g9 g10:=by
 have hg:=QQ8 (QQ7 W g9 0 (.int .i64 x)) (QQ7 (W.setCell ⟨g9,0,none⟩ (.int .i64 x)) g9 1 (.int .i64 y))
 have hl {k:Nat} {o:Obj} (hk:k≠g9) (e:W.heap[k]?=some o):((W.setCell ⟨g9,0,none⟩ (.int .i64 x)).setCell ⟨g9,1,none⟩ (.int .i64 y)).heap[k]?=some o:=(hg.block k (Array.getElem?_eq_some_iff.1 e).1 (fun e=>hk (Option.some.inj e))).trans e
 have l9:=h.l9
 exact⟨hl (by omega) h.b0,hl (by omega) h.b1,hl (by omega) h.b2,QQ6 (QQ6 h.b9),hl (fun e=>h.ne e.symm) h.b10,h.ne,h.l9,h.l10,h.bel.grown hg h.bel.size (fun q hq=>by have:=Option.some.inj hq;omega)⟩
theorem PsAt.set10 {w W:World} {f s p q:Int×Int} {g9 g10:Nat} (h:PsAt w W f s p q g9 g10) (x y:Int):PsAt w ((W.setCell ⟨g10,0,none⟩ (.int .i64 x)).setCell ⟨g10,1,none⟩ (.int .i64 y)) f s p (x,y) g9 g10:=by
 have hg:=QQ8 (QQ7 W g10 0 (.int .i64 x)) (QQ7 (W.setCell ⟨g10,0,none⟩ (.int .i64 x)) g10 1 (.int .i64 y))
 have hl {k:Nat} {o:Obj} (hk:k≠g10) (e:W.heap[k]?=some o):((W.setCell ⟨g10,0,none⟩ (.int .i64 x)).setCell ⟨g10,1,none⟩ (.int .i64 y)).heap[k]?=some o:=(hg.block k (Array.getElem?_eq_some_iff.1 e).1 (fun e=>hk (Option.some.inj e))).trans e
 have l10:=h.l10
 exact⟨hl (by omega) h.b0,hl (by omega) h.b1,hl (by omega) h.b2,hl h.ne h.b9,QQ6 (QQ6 h.b10),h.ne,h.l9,h.l10,h.bel.grown hg h.bel.size (fun q hq=>by have:=Option.some.inj hq;omega)⟩
theorem cross_ret {w W:World} (y:Cr) (hb:Below w.heap.size w W) (h:W.heap[w.heap.size+1+1]?=some (.cells #[.int .i64 0,.int .i64 0,.int .i64 0,.int .i64 0,.bool false] 71 (0,0))):
    ∃ W',W'=((((W.setCell ⟨w.heap.size+1+1,0,none⟩ (.int .i64 y.a)).setCell ⟨w.heap.size+1+1,1,none⟩ (.int .i64 y.b)).setCell ⟨w.heap.size+1+1,2,none⟩ (.int .i64 y.c)).setCell ⟨w.heap.size+1+1,3,none⟩ (.int .i64 y.d)).setCell ⟨w.heap.size+1+1,4,none⟩ (.bool y.plus)/\W'.heap[w.heap.size+1+1]?=some (.cells #[.int .i64 y.a,.int .i64 y.b,.int .i64 y.c,.int .i64 y.d,.bool y.plus] 71 (0,0))/\Below w.heap.size w W':=by
 refine⟨_,rfl,QQ6 (QQ6 (QQ6 (QQ6 (QQ6 h)))),?_⟩
 have hst:∀ (W:World) (u:Value) (i:Nat),Below w.heap.size w W->Below w.heap.size w (W.setCell ⟨w.heap.size+1+1,i,none⟩ u):=fun W u i h=>h.grown (QQ7 W (w.heap.size+1+1) i u) h.size (fun q hq=>by have:=Option.some.inj hq;omega)
 exact hst _ _ _ (hst _ _ _ (hst _ _ _ (hst _ _ _ (hst _ _ _ hb))))
theorem crossed_any (f s:Int×Int) (over plus:Bool) (w:World):
    Calls Try.prog 105 #[.agg #[.int .i64 f.1,.int .i64 f.2],.agg #[.int .i64 s.1,.int .i64 s.2],.bool over,.bool plus] w fun e w'=>e=.returned (.agg #[.int .i64 (QZ1 f s over plus).a,.int .i64 (QZ1 f s over plus).b,.int .i64 (QZ1 f s over plus).c,.int .i64 (QZ1 f s over plus).d,.bool (QZ1 f s over plus).plus])/\Below w.heap.size w w':=by
 obtain⟨f1,f2⟩:=f
 obtain⟨s1,s2⟩:=s
 obtain⟨z,hz⟩:∃ z,QZ1 (f1,f2) (s1,s2) over plus=z:=⟨_,rfl⟩
 have HZ:=hidB hz
 rw[hz]
 clear hz
 have HI0:Hid (PsAt w (((((w.alloc (.cells #[.int .i64 f1,.int .i64 f2] 154)).alloc (.cells #[.int .i64 s1,.int .i64 s2] 154)).alloc (.cells #[.int .i64 0,.int .i64 0,.int .i64 0,.int .i64 0,.bool false] 71)).alloc (.cells #[.int .i64 f1,.int .i64 f2] 154)).alloc (.cells #[.int .i64 s1,.int .i64 s2] 154)).drew (f1,f2) (s1,s2) (f1,f2) (s1,s2) (w.heap.size+1+1+1) (w.heap.size+1+1+1+1)):=(PsAt.on ⟨alloc_old (alloc_old (alloc_old (alloc_old (alloc_at rfl)))),alloc_old (alloc_old (alloc_old (alloc_at (by simp)))),alloc_old (alloc_old (alloc_at (by simp))),alloc_old (alloc_at (by simp)),alloc_at (by simp),by omega,by omega,by omega,((QV1 _ _ _ _).alloc (by simp;omega) _).alloc (by simp;omega) _⟩ (Below.refl _ _).drew)
 have HI1:Hid (PsAt w (((((w.alloc (.cells #[.int .i64 f1,.int .i64 f2] 154)).alloc (.cells #[.int .i64 s1,.int .i64 s2] 154)).alloc (.cells #[.int .i64 0,.int .i64 0,.int .i64 0,.int .i64 0,.bool false] 71)).alloc (.cells #[.int .i64 s1,.int .i64 s2] 154)).alloc (.cells #[.int .i64 f1,.int .i64 f2] 154)).drew (f1,f2) (s1,s2) (f1,f2) (s1,s2) (w.heap.size+1+1+1+1) (w.heap.size+1+1+1)):=(PsAt.on ⟨alloc_old (alloc_old (alloc_old (alloc_old (alloc_at rfl)))),alloc_old (alloc_old (alloc_old (alloc_at (by simp)))),alloc_old (alloc_old (alloc_at (by simp))),alloc_at (by simp),alloc_old (alloc_at (by simp)),by omega,by omega,by omega,((QV1 _ _ _ _).alloc (by simp;omega) _).alloc (by simp;omega) _⟩ (Below.refl _ _).drew)
 go_enter Try.func105,Try.ntmps105
 go_wp2
 apply cut_one
 case h=>
  intro key
  go_region_with (fail)
  · have hA:=HI0
    revert hA
    generalize (((((w.alloc (.cells #[.int .i64 f1,.int .i64 f2] 154)).alloc (.cells #[.int .i64 s1,.int .i64 s2] 154)).alloc (.cells #[.int .i64 0,.int .i64 0,.int .i64 0,.int .i64 0,.bool false] 71)).alloc (.cells #[.int .i64 f1,.int .i64 f2] 154)).alloc (.cells #[.int .i64 s1,.int .i64 s2] 154)).drew=W
    generalize w.heap.size+1+1+1+1=g10
    generalize w.heap.size+1+1+1=g9
    revert W g10 g9
    exact key.out
  all_goals first
   |exact key.out _ _ _ HI0
   |exact key.out _ _ _ HI1
 intro W g10 g9 HA
 clear HI0 HI1
 cases over
 · have e0:W.cell? ⟨w.heap.size,0,none⟩=some (.int .i64 f1):=QQ0 HA.out.b0 rfl
   have e1:=QQ0 (i:=1) HA.out.b0 rfl
   have e2:=QQ0 (i:=0) HA.out.b1 rfl
   have e3:=QQ0 (i:=1) HA.out.b1 rfl
   have e4:=QQ0 (i:=0) HA.out.b9 rfl
   have e5:=QQ0 (i:=1) HA.out.b9 rfl
   have e6:=QQ0 (i:=0) HA.out.b10 rfl
   have e7:=QQ0 (i:=1) HA.out.b10 rfl
   have z4:=QQ2 (i:=0) HA.out.b9
   have z5:=QQ2 (i:=1) HA.out.b9
   have z6:=QQ2 (i:=0) HA.out.b10
   have z7:=QQ2 (i:=1) HA.out.b10
   have hne:g9≠g10:=HA.out.ne
   have hne':g10≠g9:=fun e=>hne e.symm
   have l9:g9<W.heap.size:=(Array.getElem?_eq_some_iff.1 HA.out.b9).1
   have l10:g10<W.heap.size:=(Array.getElem?_eq_some_iff.1 HA.out.b10).1
   have m9:=HA.out.l9
   have m10:=HA.out.l10
   have HJ0:=hidB (((HA.out.set9 s1 s2).set10 f1 f2).on (Below.refl _ _).drew)
   have HJ1:=hidB (((HA.out.set10 f1 f2).set9 s1 s2).on (Below.refl _ _).drew)
   clear HA HJ1
   go_wp2
   apply cut_one
   case h=>
    intro key
    go_region_with (fail)
    all_goals exact key.out
   clear e0 e1 e2 e3 e4 e5 e6 e7 z4 z5 z6 z7 l9 l10
   revert HJ0
   generalize ((((W.setCell ⟨g9,0,none⟩ (.int .i64 s1)).setCell ⟨g9,1,none⟩ (.int .i64 s2)).setCell ⟨g10,0,none⟩ (.int .i64 f1)).setCell ⟨g10,1,none⟩ (.int .i64 f2)).drew=W
   intro HJ0
   have c0:=QQ0 (i:=0) HJ0.out.b9 rfl
   have c1:=QQ0 (i:=1) HJ0.out.b9 rfl
   have c2:=QQ0 (i:=0) HJ0.out.b10 rfl
   have c3:=QQ0 (i:=1) HJ0.out.b10 rfl
   have r0:=QQ0 (i:=0) HJ0.out.b2 rfl
   have r1:=QQ0 (i:=1) HJ0.out.b2 rfl
   have r2:=QQ0 (i:=2) HJ0.out.b2 rfl
   have r3:=QQ0 (i:=3) HJ0.out.b2 rfl
   have r4:=QQ0 (i:=4) HJ0.out.b2 rfl
   have t0:=QQ2 (i:=0) HJ0.out.b2
   have t1:=QQ2 (i:=1) HJ0.out.b2
   have t2:=QQ2 (i:=2) HJ0.out.b2
   have t3:=QQ2 (i:=3) HJ0.out.b2
   have t4:=QQ2 (i:=4) HJ0.out.b2
   have l2:w.heap.size+1+1<W.heap.size:=(Array.getElem?_eq_some_iff.1 HJ0.out.b2).1
   have l9:g9<W.heap.size:=(Array.getElem?_eq_some_iff.1 HJ0.out.b9).1
   have l10:g10<W.heap.size:=(Array.getElem?_eq_some_iff.1 HJ0.out.b10).1
   cases plus
   · have HE:Hid (z=⟨f1,s1,f2,s2,false⟩):=HZ.out.symm
     obtain⟨W',hW',hR,hbR⟩:=cross_ret (w:=w) ⟨f1,s1,f2,s2,false⟩ HJ0.out.bel HJ0.out.b2
     have x0:=QQ0 (i:=0) hR rfl
     have x1:=QQ0 (i:=1) hR rfl
     have x2:=QQ0 (i:=2) hR rfl
     have x3:=QQ0 (i:=3) hR rfl
     have x4:=QQ0 (i:=4) hR rfl
     have HBR:=hidB hbR
     have HWE:=QQ1 hW'
     clear hW' hR hbR
     go_wp2
     refine bodyPost_ret (v:=.agg #[.int .i64 f1,.int .i64 s1,.int .i64 f2,.int .i64 s2,.bool false]) ?_ rfl ⟨by rw[HE.out],by rw[<-HWE.out];exact HBR.out⟩
     rw[<-HWE.out]
     simp[results,Try.results105,go_sem,x0,x1,x2,x3,x4]
   · have HE:Hid (z=⟨f1,s2,f2,s1,true⟩):=HZ.out.symm
     obtain⟨W',hW',hR,hbR⟩:=cross_ret (w:=w) ⟨f1,s2,f2,s1,true⟩ HJ0.out.bel HJ0.out.b2
     have x0:=QQ0 (i:=0) hR rfl
     have x1:=QQ0 (i:=1) hR rfl
     have x2:=QQ0 (i:=2) hR rfl
     have x3:=QQ0 (i:=3) hR rfl
     have x4:=QQ0 (i:=4) hR rfl
     have HBR:=hidB hbR
     have HWE:=QQ1 hW'
     clear hW' hR hbR
     go_wp2
     refine bodyPost_ret (v:=.agg #[.int .i64 f1,.int .i64 s2,.int .i64 f2,.int .i64 s1,.bool true]) ?_ rfl ⟨by rw[HE.out],by rw[<-HWE.out];exact HBR.out⟩
     rw[<-HWE.out]
     simp[results,Try.results105,go_sem,x0,x1,x2,x3,x4]
 · have HJ0:Hid (PsAt w W (f1,f2) (s1,s2) (f1,f2) (s1,s2) g9 g10):=HA.out
   clear HA
   have c0:=QQ0 (i:=0) HJ0.out.b9 rfl
   have c1:=QQ0 (i:=1) HJ0.out.b9 rfl
   have c2:=QQ0 (i:=0) HJ0.out.b10 rfl
   have c3:=QQ0 (i:=1) HJ0.out.b10 rfl
   have r0:=QQ0 (i:=0) HJ0.out.b2 rfl
   have r1:=QQ0 (i:=1) HJ0.out.b2 rfl
   have r2:=QQ0 (i:=2) HJ0.out.b2 rfl
   have r3:=QQ0 (i:=3) HJ0.out.b2 rfl
   have r4:=QQ0 (i:=4) HJ0.out.b2 rfl
   have t0:=QQ2 (i:=0) HJ0.out.b2
   have t1:=QQ2 (i:=1) HJ0.out.b2
   have t2:=QQ2 (i:=2) HJ0.out.b2
   have t3:=QQ2 (i:=3) HJ0.out.b2
   have t4:=QQ2 (i:=4) HJ0.out.b2
   have l2:w.heap.size+1+1<W.heap.size:=(Array.getElem?_eq_some_iff.1 HJ0.out.b2).1
   have l9:g9<W.heap.size:=(Array.getElem?_eq_some_iff.1 HJ0.out.b9).1
   have l10:g10<W.heap.size:=(Array.getElem?_eq_some_iff.1 HJ0.out.b10).1
   cases plus
   · have HE:Hid (z=⟨s1,f1,s2,f2,false⟩):=HZ.out.symm
     obtain⟨W',hW',hR,hbR⟩:=cross_ret (w:=w) ⟨s1,f1,s2,f2,false⟩ HJ0.out.bel HJ0.out.b2
     have x0:=QQ0 (i:=0) hR rfl
     have x1:=QQ0 (i:=1) hR rfl
     have x2:=QQ0 (i:=2) hR rfl
     have x3:=QQ0 (i:=3) hR rfl
     have x4:=QQ0 (i:=4) hR rfl
     have HBR:=hidB hbR
     have HWE:=QQ1 hW'
     clear hW' hR hbR
     go_wp2
     refine bodyPost_ret (v:=.agg #[.int .i64 s1,.int .i64 f1,.int .i64 s2,.int .i64 f2,.bool false]) ?_ rfl ⟨by rw[HE.out],by rw[<-HWE.out];exact HBR.out⟩
     rw[<-HWE.out]
     simp[results,Try.results105,go_sem,x0,x1,x2,x3,x4]
   · have HE:Hid (z=⟨s1,f2,s2,f1,true⟩):=HZ.out.symm
     obtain⟨W',hW',hR,hbR⟩:=cross_ret (w:=w) ⟨s1,f2,s2,f1,true⟩ HJ0.out.bel HJ0.out.b2
     have x0:=QQ0 (i:=0) hR rfl
     have x1:=QQ0 (i:=1) hR rfl
     have x2:=QQ0 (i:=2) hR rfl
     have x3:=QQ0 (i:=3) hR rfl
     have x4:=QQ0 (i:=4) hR rfl
     have HBR:=hidB hbR
     have HWE:=QQ1 hW'
     clear hW' hR hbR
     go_wp2
     refine bodyPost_ret (v:=.agg #[.int .i64 s1,.int .i64 f2,.int .i64 s2,.int .i64 f1,.bool true]) ?_ rfl ⟨by rw[HE.out],by rw[<-HWE.out];exact HBR.out⟩
     rw[<-HWE.out]
     simp[results,Try.results105,go_sem,x0,x1,x2,x3,x4]
def relN (F:Nat->Option Int) (C:List Cr) (k:Nat):List Cr:=(List.range k).map fun q=>relX F q (C.getD q Cr.none)
theorem relN_len (F:Nat->Option Int) (C:List Cr) (k:Nat):(relN F C k).length=k:=by simp[relN]
theorem relN_next (F:Nat->Option Int) (C:List Cr) (k:Nat):relN F C (k+1)=relN F C k++[relX F k (C.getD k Cr.none)]:=by simp[relN,List.range_succ]
theorem relaid_any (a:Option Addr) (cap:Nat) (C:List Cr) (loops:Int) (gF cF gT cT:Nat) (b m:Nat) (F:Nat->Option Int) (w:World) (hm:mayD C loops=true) (hd:Dr w a cap C gF gT) (hM:MapS w b m F):
    Calls Try.prog 106 #[drV a cap C loops gF cF gT cT,.map (some b)] w fun e w'=>∃ a' c',e=.returned (.slice a' C.length c')/\w'.ownsRow w.heap.size 71 5 (.slice a' C.length c') C.length (QQ4 (relN F C C.length))/\Below w.heap.size w w':=by
 have hC16:C.length<=16:=by exact QK4 hm
 obtain⟨i0,hi,hz0,hz1,hz2⟩:=info_parts infoCross
 unfold drV
 have HD:Hid (Dr w a cap C gF gT):=hd
 have HM:Hid (MapS w b m F):=hM
 clear hm hd hM
 obtain⟨w0,hw0⟩:∃ w0,w0=((w.alloc (.cells #[.slice a C.length cap,.int .i64 loops,.slice (some ⟨gF,0,none⟩) (2*C.length+1) cF,.slice (some ⟨gT,0,none⟩) (2*C.length+1) cT] 63)).alloc (.cells #[.map (some b)] 151)):=⟨_,rfl⟩
 have HW0:Hid (w0=((w.alloc (.cells #[.slice a C.length cap,.int .i64 loops,.slice (some ⟨gF,0,none⟩) (2*C.length+1) cF,.slice (some ⟨gT,0,none⟩) (2*C.length+1) cT] 63)).alloc (.cells #[.map (some b)] 151))):=hw0
 have hs0:w0.heap.size=w.heap.size+2:=by rw[hw0];simp
 have HB0:Hid (Below w.heap.size w w0):=(by rw[hw0];exact QJ3 _ _ _:Below w.heap.size w w0)
 have HT0:Hid (w0.heap[w.heap.size+1]?=some (.cells #[.map (some b)] 151 (0,0))):=(by rw[hw0];exact alloc_at (by simp):w0.heap[w.heap.size+1]?=some (.cells #[.map (some b)] 151 (0,0)))
 clear hw0
 go_enter Try.func106,Try.ntmps106
 go_wp2
 rw[<-HW0.out]
 go_loopw [5,13] (fun v5 v13 wr=>∃ (i:Nat) (a5:Option Addr) (c5:Nat),i<=C.length/\v13=.int .i64 (i:Nat)/\v5=.slice a5 i c5/\Hid (wr.ownsRow (w.heap.size+2) 71 5 (.slice a5 i c5) i (QQ4 (relN F C i)))/\Hid (Below (w.heap.size+2) w0 wr)) (fun _ v13 _=>C.length-(intOf v13).toNat)
 case atStart=>exact⟨0,none,0,Nat.zero_le _,rfl,rfl,World.ownsRow_nil _ _ _ _,Below.refl _ _⟩
 case round =>
  rename World=>W1
  obtain⟨i,a5,c5,hin,rfl,rfl,hp,hb⟩:=hrel
  have hsW:=hb.out.size
  by_cases hil:i<C.length
  · obtain ⟨bq, off, ea, hbq, hC⟩ := HD.out.cross (by omega)
    subst ea
    have HBW:Hid (Below w.heap.size w W1):=HB0.out.trans (hb.out.mono (by omega))
    obtain⟨c0,c1,c2,c3,c4⟩:=(hC.on HBW.out hbq) i hil
    have HNX:Hid (relN F C (i+1)=relN F C i++[relX F i (C.getD i Cr.none)]):=relN_next F C i
    have HPP:Hid (W1.ownsRow (w.heap.size+2) 71 5 (.slice a5 i c5) i (QQ4 (relN F C i))):=hp.out
    have HBB:Hid (Below (w.heap.size+2) w0 W1):=hb.out
    clear hC hp hb
    have hlb:bq<W1.heap.size:=by omega
    generalize C.getD i Cr.none=x at c0 c1 c2 c3 c4 HNX
    obtain⟨Y,hY⟩:∃ Y,Y=(W1.alloc (.cells #[.int .i64 (i:Nat)] 3)).alloc (.cells #[.int .i64 x.a,.int .i64 x.b,.int .i64 x.c,.int .i64 x.d,.bool x.plus] 71):=⟨_,rfl⟩
    have HY:Hid (Y=(W1.alloc (.cells #[.int .i64 (i:Nat)] 3)).alloc (.cells #[.int .i64 x.a,.int .i64 x.b,.int .i64 x.c,.int .i64 x.d,.bool x.plus] 71)):=hY
    have hsY:Y.heap.size=W1.heap.size+2:=by rw[hY];simp
    have HBY:Hid (Below W1.heap.size W1 Y):=(by rw[hY];exact QJ3 _ _ _:Below W1.heap.size W1 Y)
    have HTK:Hid (Y.heap[W1.heap.size]?=some (.cells #[.int .i64 (i:Nat)] 3 (0,0))):=(by rw[hY];exact alloc_old (alloc_at rfl):Y.heap[W1.heap.size]?=some (.cells #[.int .i64 (i:Nat)] 3 (0,0)))
    have HTY:Hid (Y.heap[W1.heap.size+1]?=some (.cells #[.int .i64 x.a,.int .i64 x.b,.int .i64 x.c,.int .i64 x.d,.bool x.plus] 71 (0,0))):=(by rw[hY];exact alloc_at (by simp):Y.heap[W1.heap.size+1]?=some (.cells #[.int .i64 x.a,.int .i64 x.b,.int .i64 x.c,.int .i64 x.d,.bool x.plus] 71 (0,0)))
    have HSP:Hid (SpAt Y (w.heap.size+1) W1.heap.size i b m F):=(⟨(HBY.out.block _ (by omega)).trans ((HBB.out.block _ (by omega)).trans HT0.out),HTK.out,HM.out.kept (QQ5 (HBW.out.trans (HBY.out.mono (by omega))) none) (by simp)⟩:SpAt Y (w.heap.size+1) W1.heap.size i b m F)
    clear hY
    obtain⟨y,hy⟩:∃ y,relX F i x=y:=⟨_,rfl⟩
    have HYY:Hid (relX F i x=y):=hy
    rw[hy]at HNX
    clear hy
    go_wp2_with (first
     |(at_builtin;refine wpList_append_own _ rfl _ _ 22 rfl (w.heap.size+2) 71 i0 (.agg #[.int .i64 0,.int .i64 0,.int .i64 0,.int .i64 0,.bool false]) 5 40 Try.underlying22 hi hz0 hz1 hz2 rfl (by decide) _ i (QQ4 (relN F C i)) rfl (HPA.out.alloc _) ⟨wA.heap.size,0,none⟩ 1 1 [.int .i64 y.a,.int .i64 y.b,.int .i64 y.c,.int .i64 y.d,.bool y.plus] rfl rfl (new_cell5 _ _ _ _ _ _ _) (cells_one [y]) (by unfold maxLen;omega) (by omega) (by simp;omega) ?_;intro v8 w8 hown8 hg8 _;refine Hid.out ?_)
     | (go_at_call 100; rw [← HY.out]; refine (renumbered_spots x i _ _ b m F _ (by omega) HSP.out).mono ?_; rw [HYY.out]; rintro e9 wA ⟨rfl, hbA⟩
        have HPA:Hid (wA.ownsRow (w.heap.size+2) 71 5 (.slice a5 i c5) i (QQ4 (relN F C i))):=QX0 HPP.out (QQ5 (HBY.out.trans (hbA.mono (by omega))) none)
        have HBA:Hid (Below (w.heap.size+2) w0 wA):=HBB.out.trans ((HBY.out.trans (hbA.mono (by omega))).mono (by omega))
        have hsA:=hbA.size
        clear hbA))
    refine Lib.hid ?_
    have HF2:Hid (Below (w.heap.size+2) w0 w8):=(HBA.out.alloc (by omega) _).grown hg8 (by simp;omega) (fun q hq=>(HPA.out.lt q hq).1)
    have HF1:Hid (w8.ownsRow (w.heap.size+2) 71 5 v8 (i+1) (QQ4 (relN F C (i+1)))):=(by
     rw[HNX.out]
     have e:QQ4 (relN F C i++[y])=QQ4 (relN F C i)++[.int .i64 y.a,.int .i64 y.b,.int .i64 y.c,.int .i64 y.d,.bool y.plus]:=by simp[QQ4]
     rw[e]
     exact hown8)
    clear hown8 hg8
    obtain⟨a8,c8,rfl⟩:=QX5 HF1.out
    go_wp2
    go_roundw
    case rel=>exact⟨i+1,a8,c8,by omega,by go_num,rfl,HF1.out,HF2.out⟩
    case measure=>simp only[intOf];omega
  · obtain rfl:i=C.length:=by omega
    have HPP:Hid (W1.ownsRow (w.heap.size+2) 71 5 (.slice a5 C.length c5) C.length (QQ4 (relN F C C.length))):=hp.out
    have HBB:Hid (Below w.heap.size w W1):=HB0.out.trans (hb.out.mono (by omega))
    clear hp hb
    go_wp2
    go_ret
    exact⟨a5,c5,rfl,QX4 HPP.out (by omega),HBB.out⟩
end Go.Proofs.Ytagaajlbkfkaiaa
