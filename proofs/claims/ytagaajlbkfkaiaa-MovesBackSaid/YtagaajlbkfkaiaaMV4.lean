/- Moves: crossings with other arcs at some spots. -/
import Derived.Test.YtagaajlbkfkaiaaMV1
import Derived.Test.YtagaajlbkfkaiaaTL2
import Derived.Test.YtagaajlbkfkaiaaOmP
import Derived.Deep.Cut
namespace Go.Proofs.Ytagaajlbkfkaiaa
open Go.RowKit Go.Maps
set_option maxHeartbeats 4000000
set_option maxRecDepth 100000
theorem zeroI (w:World):(zeroValue 3).run Try.prog w=.ok (.int .i64 0) w:=by kernel_rfl
def MapS (W:World) (b m:Nat) (F:Nat->Option Int):Prop:=∃ D:DataW Unit,W.ownsMap Try.prog 120 (plainElem Try.prog 3) b m D/\∀ x l,x<80->keyOf Try.prog 120 (spV x)=some l->has D l=(F x).isSome/\∀ y,F x=some y->∀ zd,D.atKey l zd=.lit (.int .i64 y)
theorem MapS.kept {W W':World} {b m:Nat} {F:Nat->Option Int} {row:Option Nat} (h:MapS W b m F) (hg:W.grownBy W' row) (hne:some b≠row):MapS W' b m F:=by
 obtain⟨D,h1,h2⟩:=h
 exact⟨D,h1.kept hg hne,h2⟩
theorem MapS.lt {W:World} {b m:Nat} {F:Nat->Option Int} (h:MapS W b m F):b<W.heap.size:=by
 obtain⟨D,h1,h2⟩:=h
 exact h1.lt
theorem MapS.made (W:World):MapS (W.alloc (.map #[] 0)) W.heap.size 0 (fun _=>none):=
 ⟨_,World.ownsMap_made W _ _ _,fun x l _ _=>⟨rfl,fun y e=>by cases e⟩⟩
theorem MapS.look {W:World} {b m:Nat} {F:Nat->Option Int} (h:MapS W b m F) (x:Nat) (hN:x<80):(Instr.lookup 151 (.map (some b)) (spV x) true).run Try.prog W=.ok (.tuple #[.int .i64 ((F x).getD 0),.bool (F x).isSome]) W:=by
 obtain⟨D,h1,h2⟩:=h
 obtain⟨l,hl⟩:=keyS hN
 obtain⟨v,ps,hrun,hv⟩:=h1.look_ok lawS Try.underlying151 (zeroI W) (plainElem_int Try.underlying3 (by decide)) hl
 obtain⟨c,rfl,hc,-⟩:=plainElem_int_inv Try.underlying3 hv
 obtain⟨g1,g2⟩:=h2 x l hN hl
 rw[hrun,g1]
 have hc:=congrArg Prod.fst hc
 cases hF:F x with
 |none=>
  rw[hF]at g1
  rw[atKey_of_not_has g1]at hc
  have e:c=0:=by simp only[DataW.lit.injEq,Lit.int.injEq,true_and]at hc;exact hc.symm
  rw[e]
  rfl
 |some y=>
  rw[g2 y hF]at hc
  have e:c=y:=by simp only[DataW.lit.injEq,Lit.int.injEq,true_and]at hc;exact hc.symm
  rw[e]
  rfl
theorem MapS.put {W:World} {b m:Nat} {F:Nat->Option Int} (h:MapS W b m F) (x:Nat) (y:Int) (hx:x<80) (hm:m<=1000) (hy : -1000<=y/\y<=1000):
    ∃ w',(Instr.mapUpdate 151 (.map (some b)) (spV x) (.int .i64 y)).run Try.prog W=.ok () w'/\MapS w' b (m+1) (fun z=>if z=x then some y else F z)/\W.grownBy w' (some b):=by
 obtain⟨D,h1,h2⟩:=h
 obtain⟨l,hl⟩:=keyS hx
 have hp:plainElem Try.prog 3 (.int .i64 y)=some ((.lit (.int .i64 y):DataW Unit),[]):=plainElem_int Try.underlying3 (WalkArith.wf_i64 ⟨by omega,by omega⟩)
 obtain⟨w',hrun,hown,hg⟩:=h1.update lawS Try.underlying151 (show m<maxLen by unfold maxLen;omega) hl hp
 refine⟨w',hrun,⟨D.put l (.lit (.int .i64 y)),hown,fun z lz hz hlz=>?_⟩,hg⟩
 by_cases e:z=x
 · subst e
   rw[hl]at hlz
   obtain rfl:=Option.some.inj hlz
   have hb:(fun v=>if v=z then some y else F v) z=some y:=if_pos rfl
   rw[hb]
   exact⟨has_put_same h1.isMap (lawS.key hl) _,fun y' e zd=>by cases e;exact atKey_put_same h1.isMap (lawS.key hl) _ _⟩
 · have hne:lz≠l:=fun h0=>e (spV_inj (lawS.inj hlz (h0▸hl)))
   have hb:(fun v=>if v=x then some y else F v) z=F z:=if_neg e
   rw[hb,has_put_other hne]
   refine⟨(h2 z lz hz hlz).1,fun y' e' zd=>?_⟩
   rw[atKey_put_other hne]
   exact(h2 z lz hz hlz).2 y' e' zd
def relX (F:Nat->Option Int) (q:Nat) (x:Cr):Cr:=⟨(F (4*q+4)).getD x.a,(F (4*q+4+1)).getD x.b,(F (4*q+4+2)).getD x.c,(F (4*q+4+3)).getD x.d,x.plus⟩
structure SpAt (W:World) (gM gK q b m:Nat) (F:Nat->Option Int):Prop where
 bm:W.heap[gM]?=some (.cells #[.map (some b)] 151 (0,0))
 bk:W.heap[gK]?=some (.cells #[.int .i64 (q:Nat)] 3 (0,0))
 mp:MapS W b m F
theorem SpAt.on {W W':World} {gM gK q b m:Nat} {F:Nat->Option Int} (h:SpAt W gM gK q b m F) (hb:Below W.heap.size W W'):SpAt W' gM gK q b m F:=
 ⟨(hb.block _ (Array.getElem?_eq_some_iff.1 h.bm).1).trans h.bm,(hb.block _ (Array.getElem?_eq_some_iff.1 h.bk).1).trans h.bk,h.mp.kept (QQ5 hb none) (by simp)⟩
theorem relaidIn_any (q k:Nat) (arc:Int) (gM gK b m:Nat) (F:Nat->Option Int) (w:World) (hq:q<=16) (hk:k<4) (h:SpAt w gM gK q b m F):
    Calls Try.prog 123 #[.int .i64 (k:Nat),.int .i64 arc,.pointer (some ⟨gM,0,none⟩),.pointer (some ⟨gK,0,none⟩)] w fun e w'=>e=.returned (.int .i64 ((F (4*q+4+k)).getD arc))/\Below w.heap.size w w':=by
 have c0:=QQ0 (i:=0) h.bm rfl
 have c1:=QQ0 (i:=0) h.bk rfl
 have l0:gM<w.heap.size:=(Array.getElem?_eq_some_iff.1 h.bm).1
 have l1:gK<w.heap.size:=(Array.getElem?_eq_some_iff.1 h.bk).1
 have hl:=h.mp.look (4*q+4+k) (by omega)
 have es:spV (4*q+4+k)=.agg #[.int .i64 (q:Nat),.int .i64 (k:Nat)]:=by
  unfold spV
  rw[show(4*q+4+k) / 4=q+1 by omega,show(4*q+4+k)%4=k by omega]
  rw[show(((q+1:Nat):Int)-1)=(q:Int) by omega]
 rw[es]at hl
 clear h es
 cases hF:F (4*q+4+k) with
 |none=>
  rw[hF]at hl
  simp only[Option.getD_none,Option.isSome_none]at hl
  clear hF
  go_enter Try.func123,Try.ntmps123
  go_wp2
  go_ret
  exact⟨rfl,Below.refl _ _⟩
 |some y=>
  rw[hF]at hl
  simp only[Option.getD_some,Option.isSome_some]at hl
  clear hF
  go_enter Try.func123,Try.ntmps123
  go_wp2
  go_ret
  exact⟨rfl,Below.refl _ _⟩
theorem renumbered_spots (x:Cr) (q gM gK b m:Nat) (F:Nat->Option Int) (w:World) (hq:q<=16) (hX:SpAt w gM gK q b m F):
    Calls Try.prog 100 #[.agg #[.int .i64 x.a,.int .i64 x.b,.int .i64 x.c,.int .i64 x.d,.bool x.plus],.func (.func 123) #[] #[.pointer (some ⟨gM,0,none⟩),.pointer (some ⟨gK,0,none⟩)]] w fun e w'=>e=.returned (.agg #[.int .i64 (relX F q x).a,.int .i64 (relX F q x).b,.int .i64 (relX F q x).c,.int .i64 (relX F q x).d,.bool (relX F q x).plus])/\Below w.heap.size w w':=by
 have HX:=hidB hX
 clear hX
 obtain⟨w0,hw0⟩:∃ w0,w0=((w.alloc (.cells #[.int .i64 x.a,.int .i64 x.b,.int .i64 x.c,.int .i64 x.d,.bool x.plus] 71)).alloc (.cells #[.int .i64 0,.int .i64 0,.int .i64 0,.int .i64 0,.bool false] 71)).alloc (.cells #[.int .i64 0,.int .i64 0,.int .i64 0,.int .i64 0] 116):=⟨_,rfl⟩
 have HW0:=hidB hw0
 have hs0:w0.heap.size=w.heap.size+3:=by rw[hw0];simp
 have HB0:=hidB (show Below w.heap.size w w0 by rw[hw0];exact QV1 _ _ _ _)
 have HT0:=hidB (show w0.heap[w.heap.size]?=some (.cells #[.int .i64 x.a,.int .i64 x.b,.int .i64 x.c,.int .i64 x.d,.bool x.plus] 71 (0,0)) by rw[hw0];exact alloc_old (alloc_old (alloc_at rfl)))
 have HT1:=hidB (show w0.heap[w.heap.size+1]?=some (.cells #[.int .i64 0,.int .i64 0,.int .i64 0,.int .i64 0,.bool false] 71 (0,0)) by rw[hw0];exact alloc_old (alloc_at (by simp)))
 obtain⟨g,hg⟩:∃ g:Nat->Int,g=fun k=>(F (4*q+4+k)).getD (x.arc k):=⟨_,rfl⟩
 have HG:Hid (∀ k,(F (4*q+4+k)).getD (x.arc k)=g k):=fun k=>by rw[hg]
 have HT2:=hidB (show w0.heap[w.heap.size+1+1]?=some (.cells (QW7 (numTo g 0)) 116 (0,0)) by rw[hw0,numTo_zero];exact alloc_at (by simp))
 have G4:relX F q x=⟨g 0,g 1,g 2,g 3,x.plus⟩:=by rw[hg];rfl
 rw[G4]
 show Calls Try.prog 100 _ w fun e w'=>e=.returned (.agg #[.int .i64 (g 0),.int .i64 (g 1),.int .i64 (g 2),.int .i64 (g 3),.bool x.plus])/\Below w.heap.size w w'
 clear hw0 hg G4
 go_enter Try.func100,Try.ntmps100
 go_wp2_with (go_at_call 75;rw[<-HW0.out];refine(arcs_any x _).mono ?_;rintro e9 w1 ⟨rfl,hb1⟩;refine Hid.out ?_)
 refine Lib.hid ?_
 have HB1:=hidB (HB0.out.trans (hb1.mono (by omega)))
 have hs1:=hb1.size
 have HA1:=hidB ((hb1.block _ (by omega)).trans HT2.out)
 have HC1:=hidB ((hb1.block _ (by omega)).trans HT0.out)
 have HR1:=hidB ((hb1.block _ (by omega)).trans HT1.out)
 clear hb1
 go_wp2
 go_loopw [10] (fun v10 wr=>∃ k:Nat,k<=4/\v10=.int .i64 (k:Nat)/\Hid (wr.heap[w.heap.size+1+1]?=some (.cells (QW7 (numTo g k)) 116 (0,0)))/\Below (w.heap.size+1+1) w1 wr) (fun v10 _=>4-(intOf v10).toNat)
 case atStart=>exact⟨0,Nat.zero_le _,rfl,HA1.out,Below.refl _ _⟩
 case round=>
  rename World=>W1
  obtain⟨k,hk,rfl,hA,hb⟩:=hrel
  have hsz:=hb.size
  by_cases hkl:k<4
  · have hix:=index_arr x k hkl
    have HBX:=hidB (HX.out.on (HB1.out.trans (hb.mono (by omega))))
    have HGK:=hidB (HG.out k)
    have HN:=hidB ((numTo_next g k hkl).symm)
    generalize x.arc k=y at hix HGK
    go_wp2_with (go_at_call 123;refine(relaidIn_any q k y gM gK b m F _ hq hkl HBX.out).mono ?_;rw[HGK.out];rintro e9 w2 ⟨rfl,hb2⟩;refine Hid.out ?_)
    refine Lib.hid ?_
    have HB2:=hidB hb2
    have hs2:=hb2.size
    have hA2:w2.heap[w.heap.size+1+1]?=some (.cells (QW7 (numTo g k)) 116 (0,0)):=(hb2.block _ (by omega)).trans hA.out
    have HA2:=hidB hA2
    have e0:w2.cell? ⟨w.heap.size+1+1,k,none⟩=some (.int .i64 ((numTo g k).getD k 0)):=QQ0 hA2 (intArr_get _ k (by rw[numTo_len];exact hkl))
    have z0:=QQ2 (i:=k) hA2
    have hlt:w.heap.size+1+1<w2.heap.size:=by omega
    generalize (numTo g k).getD k 0=u at e0
    clear hb2 hA2
    go_wp2
    go_roundw
    case rel=>exact⟨k+1,by omega,by go_num,(by rw[HN.out,<-intArr_set];exact QQ6 HA2.out:(w2.setCell ⟨w.heap.size+1+1,k,none⟩ (.int .i64 (g k))).heap[w.heap.size+1+1]?=some (.cells (QW7 (numTo g (k+1))) 116 (0,0))),(hb.trans (HB2.out.mono (by omega))).grown (QQ7 w2 (w.heap.size+1+1) k (.int .i64 (g k))) (by omega) (fun q hq=>by have:=Option.some.inj hq;omega)⟩
    case measure=>simp only[intOf];omega
  · obtain rfl:k=4:=by omega
    have hA4:=hA.out
    rw[numTo_four]at hA4
    have hC:=(hb.block _ (by omega)).trans HC1.out
    have hR:=(hb.block _ (by omega)).trans HR1.out
    have HR:=hidB hR
    have a0:=QQ0 (i:=0) hA4 rfl
    have a1:=QQ0 (i:=1) hA4 rfl
    have a2:=QQ0 (i:=2) hA4 rfl
    have a3:=QQ0 (i:=3) hA4 rfl
    have a4:=QQ0 (i:=4) hC rfl
    have hlt:w.heap.size+1+1<W1.heap.size:=by omega
    have HBW:=hidB (HB1.out.trans (hb.mono (by omega)))
    clear hA4 hC hR hA hb
    go_wp2_with (go_at_call 122;refine(crossOf_any ⟨(g 0),(g 1),(g 2),(g 3),x.plus⟩ _).mono ?_;rintro e9 w4 ⟨rfl,hb4⟩;refine Hid.out ?_)
    refine Lib.hid ?_
    have HR4:=hidB ((hb4.block _ (by omega)).trans HR.out)
    have HB4:=hidB (HBW.out.trans (hb4.mono (by omega)))
    have hs4:=hb4.size
    clear hb4 a0 a1 a2 a3 a4
    have r0:=QQ0 (i:=0) HR4.out rfl
    have r1:=QQ0 (i:=1) HR4.out rfl
    have r2:=QQ0 (i:=2) HR4.out rfl
    have r3:=QQ0 (i:=3) HR4.out rfl
    have r4:=QQ0 (i:=4) HR4.out rfl
    have f0:=QQ2 (i:=0) HR4.out
    have f1:=QQ2 (i:=1) HR4.out
    have f2:=QQ2 (i:=2) HR4.out
    have f3:=QQ2 (i:=3) HR4.out
    have f4:=QQ2 (i:=4) HR4.out
    go_wp2
    have hX:=QQ6 (i:=4) (u:=.bool x.plus) (QQ6 (i:=3) (u:=.int .i64 (g 3)) (QQ6 (i:=2) (u:=.int .i64 (g 2)) (QQ6 (i:=1) (u:=.int .i64 (g 1)) (QQ6 (i:=0) (u:=.int .i64 (g 0)) HR4.out))))
    have x0:=QQ0 (i:=0) (v:=.int .i64 (g 0)) hX rfl
    have x1:=QQ0 (i:=1) (v:=.int .i64 (g 1)) hX rfl
    have x2:=QQ0 (i:=2) (v:=.int .i64 (g 2)) hX rfl
    have x3:=QQ0 (i:=3) (v:=.int .i64 (g 3)) hX rfl
    have x4:=QQ0 (i:=4) (v:=.bool x.plus) hX rfl
    refine bodyPost_ret (v:=.agg #[.int .i64 (g 0),.int .i64 (g 1),.int .i64 (g 2),.int .i64 (g 3),.bool x.plus]) (by simp[results,Try.results100,go_sem,x0,x1,x2,x3,x4]) rfl ⟨rfl,?_⟩
    have hst:∀ (W:World) (u:Value) (i:Nat),Below w.heap.size w W->Below w.heap.size w (W.setCell ⟨w.heap.size+1,i,none⟩ u):=fun W u i h=>h.grown (QQ7 W (w.heap.size+1) i u) h.size (fun q hq=>by have:=Option.some.inj hq;omega)
    exact hst _ _ _ (hst _ _ _ (hst _ _ _ (hst _ _ _ (hst _ _ _ HB4.out))))
end Go.Proofs.Ytagaajlbkfkaiaa
